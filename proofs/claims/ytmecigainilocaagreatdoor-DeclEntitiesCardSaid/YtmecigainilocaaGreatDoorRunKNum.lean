/-
  THE LANDED PACKAGE token: the contracts of digit, numbered, CharRef.
-/
import Derived.Test.YtmecigainilocaaGreatDoorRunKWhile
namespace Go.Proofs.YtmecigainilocaaGreatDoor
open Go.RowKit

set_option maxHeartbeats 1000000 in
theorem digit_any (r : Int) (w : World) :
    Calls Tryz.prog 95 #[.int .i32 r] w fun e w' => e = .returned (.int .i32 (digV r)) ∧ w = w' := by
  rcases (show (48 ≤ r ∧ r ≤ 57) ∨ (65 ≤ r ∧ r ≤ 70) ∨ (97 ≤ r ∧ r ≤ 102) ∨ ¬ ((48 ≤ r ∧ r ≤ 57) ∨ (65 ≤ r ∧ r ≤ 70) ∨ (97 ≤ r ∧ r ≤ 102)) by omega) with h | h | h | h
  · obtain ⟨h1, h2⟩ := h
    have HV : Hid (digV r = r - 48) := Lib.hid (by unfold digV; rw [if_pos ⟨h1, h2⟩])
    go_enter Tryz.func95, Tryz.ntmps95
    go_wp2
    go_ret
    exact ⟨by rw [HV.out]; rfl, rfl⟩
  · obtain ⟨h1, h2⟩ := h
    have HV : Hid (digV r = r - 65 + 10) := Lib.hid (by unfold digV; rw [if_neg (by omega), if_pos ⟨h1, h2⟩]; omega)
    have g1 : decide (48 ≤ r) = true := decide_eq_true (by omega)
    have g2 : decide (r ≤ 57) = false := decide_eq_false (by omega)
    go_enter Tryz.func95, Tryz.ntmps95
    go_wp2
    go_ret
    exact ⟨by rw [HV.out]; rfl, rfl⟩
  · obtain ⟨h1, h2⟩ := h
    have HV : Hid (digV r = r - 97 + 10) := Lib.hid (by unfold digV; rw [if_neg (by omega), if_neg (by omega), if_pos ⟨h1, h2⟩]; omega)
    have g1 : decide (48 ≤ r) = true := decide_eq_true (by omega)
    have g2 : decide (r ≤ 57) = false := decide_eq_false (by omega)
    have g3 : decide (65 ≤ r) = true := decide_eq_true (by omega)
    have g4 : decide (r ≤ 70) = false := decide_eq_false (by omega)
    go_enter Tryz.func95, Tryz.ntmps95
    go_wp2
    go_ret
    exact ⟨by rw [HV.out]; rfl, rfl⟩
  · have HV : Hid (digV r = 16) := Lib.hid (by unfold digV; rw [if_neg (by omega), if_neg (by omega), if_neg (by omega)])
    rcases (show r < 48 ∨ (57 < r ∧ r < 65) ∨ (70 < r ∧ r < 97) ∨ 102 < r by omega) with h1 | h1 | h1 | h1
    · have g1 : decide (48 ≤ r) = false := decide_eq_false (by omega)
      have g3 : decide (65 ≤ r) = false := decide_eq_false (by omega)
      have g5 : decide (97 ≤ r) = false := decide_eq_false (by omega)
      clear h
      go_enter Tryz.func95, Tryz.ntmps95
      go_wp2
      go_ret
      exact ⟨by rw [HV.out]; rfl, rfl⟩
    · have g1 : decide (48 ≤ r) = true := decide_eq_true (by omega)
      have g2 : decide (r ≤ 57) = false := decide_eq_false (by omega)
      have g3 : decide (65 ≤ r) = false := decide_eq_false (by omega)
      have g5 : decide (97 ≤ r) = false := decide_eq_false (by omega)
      clear h
      go_enter Tryz.func95, Tryz.ntmps95
      go_wp2
      go_ret
      exact ⟨by rw [HV.out]; rfl, rfl⟩
    · have g1 : decide (48 ≤ r) = true := decide_eq_true (by omega)
      have g2 : decide (r ≤ 57) = false := decide_eq_false (by omega)
      have g3 : decide (65 ≤ r) = true := decide_eq_true (by omega)
      have g4 : decide (r ≤ 70) = false := decide_eq_false (by omega)
      have g5 : decide (97 ≤ r) = false := decide_eq_false (by omega)
      clear h
      go_enter Tryz.func95, Tryz.ntmps95
      go_wp2
      go_ret
      exact ⟨by rw [HV.out]; rfl, rfl⟩
    · have g1 : decide (48 ≤ r) = true := decide_eq_true (by omega)
      have g2 : decide (r ≤ 57) = false := decide_eq_false (by omega)
      have g3 : decide (65 ≤ r) = true := decide_eq_true (by omega)
      have g4 : decide (r ≤ 70) = false := decide_eq_false (by omega)
      have g5 : decide (97 ≤ r) = true := decide_eq_true (by omega)
      have g6 : decide (r ≤ 102) = false := decide_eq_false (by omega)
      clear h
      go_enter Tryz.func95, Tryz.ntmps95
      go_wp2
      go_ret
      exact ⟨by rw [HV.out]; rfl, rfl⟩

theorem wrap_i32_k (n : Nat) (h : n < 2147483648) : IntKind.i32.wrap (n : Int) = (n : Int) := by
  simp [IntKind.wrap, IntKind.bits, IntKind.signed] <;> omega
theorem num_next (base a dn : Nat) (x : UInt8) (t : List UInt8) (hdn : digV (x.toNat : Int) = (dn : Int)) : numL (digU base) base a (x :: t) = if dn < base then numL (digU base) base (a * base + dn) t else none := by
  unfold numL digU
  rw [hdn]
  by_cases h : dn < base
  · rw [if_pos (show (dn : Int) < (base : Int) by omega), if_pos h, Int.toNat_natCast]
    cases t <;> rfl
  · rw [if_neg (show ¬ (dn : Int) < (base : Int) by omega), if_neg h]
theorem getD_byte (l : List UInt8) (pos : Nat) (h : pos < l.length) : l.drop pos = l[pos]'h :: l.drop (pos + 1) := List.drop_eq_getElem_cons h
def NumGives (d : List UInt8) (w : World) (e : Ending) (w' : World) : Prop := e = .returned (.tuple #[.int .i32 (((refV d).getD 0 : Nat) : Int), .bool (refV d).isSome]) ∧ Below w.heap.size w w'
set_option maxHeartbeats 8000000 in
set_option maxRecDepth 100000 in
theorem numbered_any (d : List UInt8) (w : World) (hs : d.length ≤ 100000) :
    Calls Tryz.prog 78 #[.string (bytes d)] w (NumGives d w) := by
  obtain ⟨hex, base, ds, hbase, hR, hl, c⟩ : ∃ (hex : Bool) (base : Nat) (ds : List UInt8), (hex = true ∧ base = 16 ∨ hex = false ∧ base = 10) ∧ refV d = numV base ds ∧ ds.length ≤ 100000 ∧
      Calls Tryz.prog 50 #[.string (bytes d), .string (bytes [120])] w fun e w' => e = .returned (.tuple #[.string (bytes ds), .bool hex]) ∧ w = w' := by
    have c := Tryz.cutPrefix_laid (bytes d) (bytes [120]) w
    have hr := refV_is d
    cases h : swB [120] d with
    | true =>
      have e1 : Lib.hasPrefix (bytes d).data.toList (bytes [120]).data.toList = true := h
      have e2 : Lib.trimPrefix (bytes d).data.toList (bytes [120]).data.toList = d.drop 1 := by unfold Lib.trimPrefix; rw [e1]; rfl
      rw [e1, e2] at c
      rw [h] at hr
      exact ⟨true, 16, d.drop 1, Or.inl ⟨rfl, rfl⟩, hr, by rw [List.length_drop]; omega, c.mono fun _ _ h => ⟨h.1, h.2.symm⟩⟩
    | false =>
      have e1 : Lib.hasPrefix (bytes d).data.toList (bytes [120]).data.toList = false := h
      have e2 : Lib.trimPrefix (bytes d).data.toList (bytes [120]).data.toList = d := by unfold Lib.trimPrefix; rw [e1]; rfl
      rw [e1, e2] at c
      rw [h] at hr
      exact ⟨false, 10, d, Or.inr ⟨rfl, rfl⟩, hr, hs, c.mono fun _ _ h => ⟨h.1, h.2.symm⟩⟩
  have HR := Lib.hid hR
  have hsz : (bytes ds).size = ds.length := bytes_len ds
  clear hR
  rcases hbase with ⟨rfl, rfl⟩ | ⟨rfl, rfl⟩
  · go_enter Tryz.func78, Tryz.ntmps78
    go_wp2_with (go_at_call 50; refine c.mono ?_; rintro e w' ⟨rfl, rfl⟩)
    go_loopw [7] (fun cv wr => ∃ a pos : Nat, cv = .int .i32 (a : Int) ∧ wr = w.iter (bytes ds) pos ∧ pos ≤ ds.length ∧ a ≤ 17825791 ∧ refV d = (numL (digU 16) 16 a (ds.drop pos)).bind fun r => if charB (r : Int) = true then some r else none) (fun _ wr => ds.length - wr.iterPos w.heap.size)
    case atStart => exact ⟨0, 0, rfl, rfl, Nat.zero_le _, Nat.zero_le _, by rw [List.drop_zero]; exact HR.out⟩
    case round =>
      obtain ⟨a, pos, rfl, rfl, hpl, ha, hv⟩ := hrel
      have HB := Lib.hid (iter_below w (bytes ds) pos)
      by_cases hlt : pos < ds.length
      · have hnx : ∀ ty, (Instr.next (.pointer (some ⟨w.heap.size, 0, none⟩)) true ty).run Tryz.prog (w.iter (bytes ds) pos) = _ := fun ty => run_next_any w (bytes ds) pos ty (by rw [hsz]; exact hlt)
        have hdr := getD_byte ds pos hlt
        generalize ds[pos]'hlt = x at hdr
        rw [hdr] at hv
        have hdec : Utf8.decode (bytes ds) pos = Lib.decodeL (x :: ds.drop (pos + 1)) := by rw [← hdr]; exact (Lib.decodeL_drop (bytes ds) pos).symm
        by_cases hx : x.toNat < 128
        · rw [Lib.decodeL_ascii x _ hx] at hdec
          rw [hdec] at hnx
          obtain ⟨dn, hdn⟩ : ∃ dn : Nat, digV (x.toNat : Int) = (dn : Int) := ⟨(digV (x.toNat : Int)).toNat, by have := digV_bounds (x.toNat : Int); omega⟩
          have hD : ∀ W, Calls Tryz.prog 95 #[.int .i32 (x.toNat : Int)] W fun e w' => e = .returned (.int .i32 (dn : Int)) ∧ W = w' := fun W => by rw [← hdn]; exact digit_any _ W
          have hdb : dn ≤ 16 := by have := digV_bounds (x.toNat : Int); omega
          have hstep := num_next 16 a dn x (ds.drop (pos + 1)) hdn
          generalize x.toNat = xn at *
          by_cases hlow : dn < 16
          · have g1 : decide ((16 : Int) ≤ (dn : Int)) = false := decide_eq_false (by omega)
            by_cases hbig : 1114111 < a
            · have g2 : decide ((1114111 : Int) < (a : Int)) = true := decide_eq_true (by omega)
              have HV : Hid (refV d = none) := Lib.hid (by rw [hv]; exact num_big 16 (by decide) _ a hbig)
              have HB2 := Lib.hid (iter_below w (bytes ds) (pos + 1))
              clear hv hstep hdr hdec
              go_wp2_with (go_at_call 95; refine (hD _).mono ?_; rintro e w' ⟨rfl, rfl⟩)
              go_ret2
              unfold NumGives
              rw [HV.out]
              exact ⟨rfl, HB2.out⟩
            · have g2 : decide ((1114111 : Int) < (a : Int)) = false := decide_eq_false (by omega)
              have HV := Lib.hid hv
              rw [hstep, if_pos hlow] at HV
              have q1 : IntKind.i32.wrap ((a : Int) * 16) = ((a * 16 : Nat) : Int) := by rw [show (a : Int) * 16 = ((a * 16 : Nat) : Int) by omega]; exact wrap_i32_k _ (by omega)
              have q2 : IntKind.i32.wrap (((a * 16 : Nat) : Int) + (dn : Int)) = ((a * 16 + dn : Nat) : Int) := by rw [show ((a * 16 : Nat) : Int) + (dn : Int) = ((a * 16 + dn : Nat) : Int) by omega]; exact wrap_i32_k _ (by omega)
              have hnew : a * 16 + dn ≤ 17825791 := by omega
              clear hv hstep hdr hdec
              go_wp2_with (go_at_call 95; refine (hD _).mono ?_; rintro e w' ⟨rfl, rfl⟩)
              go_roundw
              case rel => exact ⟨a * 16 + dn, pos + 1, by go_num, rfl, by omega, hnew, HV.out⟩
              case measure => simp; omega
          · have g1 : decide ((16 : Int) ≤ (dn : Int)) = true := decide_eq_true (by omega)
            have HV : Hid (refV d = none) := Lib.hid (by rw [hv, hstep, if_neg hlow]; rfl)
            have HB2 := Lib.hid (iter_below w (bytes ds) (pos + 1))
            clear hv hstep hdr hdec
            go_wp2_with (go_at_call 95; refine (hD _).mono ?_; rintro e w' ⟨rfl, rfl⟩)
            go_ret2
            unfold NumGives
            rw [HV.out]
            exact ⟨rfl, HB2.out⟩
        · have hdh : 128 ≤ (Lib.decodeL (x :: ds.drop (pos + 1))).1 := (decodeL_high (by simp) (by show 128 ≤ x.toNat; omega)).1
          rw [← hdec] at hdh
          obtain ⟨r, hr⟩ : ∃ r : Nat, (Utf8.decode (bytes ds) pos).1 = r := ⟨_, rfl⟩
          obtain ⟨k, hk⟩ : ∃ k : Nat, (Utf8.decode (bytes ds) pos).2 = k := ⟨_, rfl⟩
          rw [hr] at hdh
          simp only [hr, hk] at hnx
          have hd16 : ∀ c : Int, 128 ≤ c → digV c = 16 := fun c h => by unfold digV; rw [if_neg (by omega), if_neg (by omega), if_neg (by omega)]
          have hD : ∀ W, Calls Tryz.prog 95 #[.int .i32 (r : Int)] W fun e w' => e = .returned (.int .i32 16) ∧ W = w' := fun W => by rw [← hd16 (r : Int) (by omega)]; exact digit_any _ W
          have HV : Hid (refV d = none) := Lib.hid (by
            rw [hv]
            unfold numL digU
            rw [hd16 _ (by omega), if_neg (by decide)]
            rfl)
          have HB2 := Lib.hid (iter_below w (bytes ds) (pos + k))
          clear hv hdr hdec hr hk hd16 hdh
          go_wp2_with (go_at_call 95; refine (hD _).mono ?_; rintro e w' ⟨rfl, rfl⟩)
          go_ret2
          unfold NumGives
          rw [HV.out]
          exact ⟨rfl, HB2.out⟩
      · have hnx : ∀ ty, (Instr.next (.pointer (some ⟨w.heap.size, 0, none⟩)) true ty).run Tryz.prog (w.iter (bytes ds) pos) = _ := fun ty => run_next_end w (bytes ds) pos ty (by rw [hsz]; exact hlt)
        rw [List.drop_of_length_le (by omega)] at hv
        have hv2 : refV d = if charB (a : Int) = true then some a else none := hv
        have hC : ∀ W, Calls Tryz.prog 96 #[.int .i32 (a : Int)] W fun e w' => e = .returned (.bool (charB (a : Int))) ∧ W = w' := fun W => char_any _ W
        have HV := Lib.hid hv2
        clear hv hv2
        cases hch : charB (a : Int) with
        | true =>
          rw [hch] at hC HV
          clear hch
          go_wp2_with (go_at_call 96; refine (hC _).mono ?_; rintro e w' ⟨rfl, rfl⟩)
          go_ret2
          unfold NumGives
          rw [HV.out]
          exact ⟨rfl, HB.out⟩
        | false =>
          rw [hch] at hC HV
          clear hch
          go_wp2_with (go_at_call 96; refine (hC _).mono ?_; rintro e w' ⟨rfl, rfl⟩)
          go_ret2
          unfold NumGives
          rw [HV.out]
          exact ⟨rfl, HB.out⟩
  · go_enter Tryz.func78, Tryz.ntmps78
    go_wp2_with (go_at_call 50; refine c.mono ?_; rintro e w' ⟨rfl, rfl⟩)
    go_loopw [7] (fun cv wr => ∃ a pos : Nat, cv = .int .i32 (a : Int) ∧ wr = w.iter (bytes ds) pos ∧ pos ≤ ds.length ∧ a ≤ 17825791 ∧ refV d = (numL (digU 10) 10 a (ds.drop pos)).bind fun r => if charB (r : Int) = true then some r else none) (fun _ wr => ds.length - wr.iterPos w.heap.size)
    case atStart => exact ⟨0, 0, rfl, rfl, Nat.zero_le _, Nat.zero_le _, by rw [List.drop_zero]; exact HR.out⟩
    case round =>
      obtain ⟨a, pos, rfl, rfl, hpl, ha, hv⟩ := hrel
      have HB := Lib.hid (iter_below w (bytes ds) pos)
      by_cases hlt : pos < ds.length
      · have hnx : ∀ ty, (Instr.next (.pointer (some ⟨w.heap.size, 0, none⟩)) true ty).run Tryz.prog (w.iter (bytes ds) pos) = _ := fun ty => run_next_any w (bytes ds) pos ty (by rw [hsz]; exact hlt)
        have hdr := getD_byte ds pos hlt
        generalize ds[pos]'hlt = x at hdr
        rw [hdr] at hv
        have hdec : Utf8.decode (bytes ds) pos = Lib.decodeL (x :: ds.drop (pos + 1)) := by rw [← hdr]; exact (Lib.decodeL_drop (bytes ds) pos).symm
        by_cases hx : x.toNat < 128
        · rw [Lib.decodeL_ascii x _ hx] at hdec
          rw [hdec] at hnx
          obtain ⟨dn, hdn⟩ : ∃ dn : Nat, digV (x.toNat : Int) = (dn : Int) := ⟨(digV (x.toNat : Int)).toNat, by have := digV_bounds (x.toNat : Int); omega⟩
          have hD : ∀ W, Calls Tryz.prog 95 #[.int .i32 (x.toNat : Int)] W fun e w' => e = .returned (.int .i32 (dn : Int)) ∧ W = w' := fun W => by rw [← hdn]; exact digit_any _ W
          have hdb : dn ≤ 16 := by have := digV_bounds (x.toNat : Int); omega
          have hstep := num_next 10 a dn x (ds.drop (pos + 1)) hdn
          generalize x.toNat = xn at *
          by_cases hlow : dn < 10
          · have g1 : decide ((10 : Int) ≤ (dn : Int)) = false := decide_eq_false (by omega)
            by_cases hbig : 1114111 < a
            · have g2 : decide ((1114111 : Int) < (a : Int)) = true := decide_eq_true (by omega)
              have HV : Hid (refV d = none) := Lib.hid (by rw [hv]; exact num_big 10 (by decide) _ a hbig)
              have HB2 := Lib.hid (iter_below w (bytes ds) (pos + 1))
              clear hv hstep hdr hdec
              go_wp2_with (go_at_call 95; refine (hD _).mono ?_; rintro e w' ⟨rfl, rfl⟩)
              go_ret2
              unfold NumGives
              rw [HV.out]
              exact ⟨rfl, HB2.out⟩
            · have g2 : decide ((1114111 : Int) < (a : Int)) = false := decide_eq_false (by omega)
              have HV := Lib.hid hv
              rw [hstep, if_pos hlow] at HV
              have q1 : IntKind.i32.wrap ((a : Int) * 10) = ((a * 10 : Nat) : Int) := by rw [show (a : Int) * 10 = ((a * 10 : Nat) : Int) by omega]; exact wrap_i32_k _ (by omega)
              have q2 : IntKind.i32.wrap (((a * 10 : Nat) : Int) + (dn : Int)) = ((a * 10 + dn : Nat) : Int) := by rw [show ((a * 10 : Nat) : Int) + (dn : Int) = ((a * 10 + dn : Nat) : Int) by omega]; exact wrap_i32_k _ (by omega)
              have hnew : a * 10 + dn ≤ 17825791 := by omega
              clear hv hstep hdr hdec
              go_wp2_with (go_at_call 95; refine (hD _).mono ?_; rintro e w' ⟨rfl, rfl⟩)
              go_roundw
              case rel => exact ⟨a * 10 + dn, pos + 1, by go_num, rfl, by omega, hnew, HV.out⟩
              case measure => simp; omega
          · have g1 : decide ((10 : Int) ≤ (dn : Int)) = true := decide_eq_true (by omega)
            have HV : Hid (refV d = none) := Lib.hid (by rw [hv, hstep, if_neg hlow]; rfl)
            have HB2 := Lib.hid (iter_below w (bytes ds) (pos + 1))
            clear hv hstep hdr hdec
            go_wp2_with (go_at_call 95; refine (hD _).mono ?_; rintro e w' ⟨rfl, rfl⟩)
            go_ret2
            unfold NumGives
            rw [HV.out]
            exact ⟨rfl, HB2.out⟩
        · have hdh : 128 ≤ (Lib.decodeL (x :: ds.drop (pos + 1))).1 := (decodeL_high (by simp) (by show 128 ≤ x.toNat; omega)).1
          rw [← hdec] at hdh
          obtain ⟨r, hr⟩ : ∃ r : Nat, (Utf8.decode (bytes ds) pos).1 = r := ⟨_, rfl⟩
          obtain ⟨k, hk⟩ : ∃ k : Nat, (Utf8.decode (bytes ds) pos).2 = k := ⟨_, rfl⟩
          rw [hr] at hdh
          simp only [hr, hk] at hnx
          have hd16 : ∀ c : Int, 128 ≤ c → digV c = 16 := fun c h => by unfold digV; rw [if_neg (by omega), if_neg (by omega), if_neg (by omega)]
          have hD : ∀ W, Calls Tryz.prog 95 #[.int .i32 (r : Int)] W fun e w' => e = .returned (.int .i32 16) ∧ W = w' := fun W => by rw [← hd16 (r : Int) (by omega)]; exact digit_any _ W
          have HV : Hid (refV d = none) := Lib.hid (by
            rw [hv]
            unfold numL digU
            rw [hd16 _ (by omega), if_neg (by decide)]
            rfl)
          have HB2 := Lib.hid (iter_below w (bytes ds) (pos + k))
          clear hv hdr hdec hr hk hd16 hdh
          go_wp2_with (go_at_call 95; refine (hD _).mono ?_; rintro e w' ⟨rfl, rfl⟩)
          go_ret2
          unfold NumGives
          rw [HV.out]
          exact ⟨rfl, HB2.out⟩
      · have hnx : ∀ ty, (Instr.next (.pointer (some ⟨w.heap.size, 0, none⟩)) true ty).run Tryz.prog (w.iter (bytes ds) pos) = _ := fun ty => run_next_end w (bytes ds) pos ty (by rw [hsz]; exact hlt)
        rw [List.drop_of_length_le (by omega)] at hv
        have hv2 : refV d = if charB (a : Int) = true then some a else none := hv
        have hC : ∀ W, Calls Tryz.prog 96 #[.int .i32 (a : Int)] W fun e w' => e = .returned (.bool (charB (a : Int))) ∧ W = w' := fun W => char_any _ W
        have HV := Lib.hid hv2
        clear hv hv2
        cases hch : charB (a : Int) with
        | true =>
          rw [hch] at hC HV
          clear hch
          go_wp2_with (go_at_call 96; refine (hC _).mono ?_; rintro e w' ⟨rfl, rfl⟩)
          go_ret2
          unfold NumGives
          rw [HV.out]
          exact ⟨rfl, HB.out⟩
        | false =>
          rw [hch] at hC HV
          clear hch
          go_wp2_with (go_at_call 96; refine (hC _).mono ?_; rintro e w' ⟨rfl, rfl⟩)
          go_ret2
          unfold NumGives
          rw [HV.out]
          exact ⟨rfl, HB.out⟩
/-! ### BEHIND numbered -/
end Go.Proofs.YtmecigainilocaaGreatDoor
