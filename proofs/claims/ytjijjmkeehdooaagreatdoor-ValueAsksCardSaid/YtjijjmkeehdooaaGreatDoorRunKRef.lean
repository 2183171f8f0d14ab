/-
  THE LANDED PACKAGE token: the contracts of digit, numbered, CharRef.
  THE LANDED PACKAGE token: strings.EqualFold at "xml" (any other text beside it), the contracts of Target and CharRef.
  THE LANDED PACKAGE token: the contracts of runes.NCName in lists' words, of Target and CharRef.
-/
import Derived.Test.YtjijjmkeehdooaaGreatDoorRunKWhile
import Derived.ScopeJumps
import Derived.WalkMore
namespace Go.Proofs.YtjijjmkeehdooaaGreatDoor
open Go.RowKit

set_option maxHeartbeats 1000000 in
theorem digit_any (r : Int) (w : World) :
    Calls Tryz.prog 119 #[.int .i32 r] w fun e w' => e = .returned (.int .i32 (digV r)) ∧ w = w' := by
  rcases (show (48 ≤ r ∧ r ≤ 57) ∨ (65 ≤ r ∧ r ≤ 70) ∨ (97 ≤ r ∧ r ≤ 102) ∨ ¬ ((48 ≤ r ∧ r ≤ 57) ∨ (65 ≤ r ∧ r ≤ 70) ∨ (97 ≤ r ∧ r ≤ 102)) by omega) with h | h | h | h
  · obtain ⟨h1, h2⟩ := h
    have HV : Hid (digV r = r - 48) := Lib.hid (by unfold digV; rw [if_pos ⟨h1, h2⟩])
    go_enter Tryz.func119, Tryz.ntmps119
    go_wp2
    go_ret
    exact ⟨by rw [HV.out]; rfl, rfl⟩
  · obtain ⟨h1, h2⟩ := h
    have HV : Hid (digV r = r - 65 + 10) := Lib.hid (by unfold digV; rw [if_neg (by omega), if_pos ⟨h1, h2⟩]; omega)
    have g1 : decide (48 ≤ r) = true := decide_eq_true (by omega)
    have g2 : decide (r ≤ 57) = false := decide_eq_false (by omega)
    go_enter Tryz.func119, Tryz.ntmps119
    go_wp2
    go_ret
    exact ⟨by rw [HV.out]; rfl, rfl⟩
  · obtain ⟨h1, h2⟩ := h
    have HV : Hid (digV r = r - 97 + 10) := Lib.hid (by unfold digV; rw [if_neg (by omega), if_neg (by omega), if_pos ⟨h1, h2⟩]; omega)
    have g1 : decide (48 ≤ r) = true := decide_eq_true (by omega)
    have g2 : decide (r ≤ 57) = false := decide_eq_false (by omega)
    have g3 : decide (65 ≤ r) = true := decide_eq_true (by omega)
    have g4 : decide (r ≤ 70) = false := decide_eq_false (by omega)
    go_enter Tryz.func119, Tryz.ntmps119
    go_wp2
    go_ret
    exact ⟨by rw [HV.out]; rfl, rfl⟩
  · have HV : Hid (digV r = 16) := Lib.hid (by unfold digV; rw [if_neg (by omega), if_neg (by omega), if_neg (by omega)])
    rcases (show r < 48 ∨ (57 < r ∧ r < 65) ∨ (70 < r ∧ r < 97) ∨ 102 < r by omega) with h1 | h1 | h1 | h1
    · have g1 : decide (48 ≤ r) = false := decide_eq_false (by omega)
      have g3 : decide (65 ≤ r) = false := decide_eq_false (by omega)
      have g5 : decide (97 ≤ r) = false := decide_eq_false (by omega)
      clear h
      go_enter Tryz.func119, Tryz.ntmps119
      go_wp2
      go_ret
      exact ⟨by rw [HV.out]; rfl, rfl⟩
    · have g1 : decide (48 ≤ r) = true := decide_eq_true (by omega)
      have g2 : decide (r ≤ 57) = false := decide_eq_false (by omega)
      have g3 : decide (65 ≤ r) = false := decide_eq_false (by omega)
      have g5 : decide (97 ≤ r) = false := decide_eq_false (by omega)
      clear h
      go_enter Tryz.func119, Tryz.ntmps119
      go_wp2
      go_ret
      exact ⟨by rw [HV.out]; rfl, rfl⟩
    · have g1 : decide (48 ≤ r) = true := decide_eq_true (by omega)
      have g2 : decide (r ≤ 57) = false := decide_eq_false (by omega)
      have g3 : decide (65 ≤ r) = true := decide_eq_true (by omega)
      have g4 : decide (r ≤ 70) = false := decide_eq_false (by omega)
      have g5 : decide (97 ≤ r) = false := decide_eq_false (by omega)
      clear h
      go_enter Tryz.func119, Tryz.ntmps119
      go_wp2
      go_ret
      exact ⟨by rw [HV.out]; rfl, rfl⟩
    · have g1 : decide (48 ≤ r) = true := decide_eq_true (by omega)
      have g2 : decide (r ≤ 57) = false := decide_eq_false (by omega)
      have g3 : decide (65 ≤ r) = true := decide_eq_true (by omega)
      have g4 : decide (r ≤ 70) = false := decide_eq_false (by omega)
      have g5 : decide (97 ≤ r) = true := decide_eq_true (by omega)
      have g6 : decide (r ≤ 102) = false := decide_eq_false (by omega)
      clear h
      go_enter Tryz.func119, Tryz.ntmps119
      go_wp2
      go_ret
      exact ⟨by rw [HV.out]; rfl, rfl⟩

theorem wrap_i32_k (n : Nat) (h : n < 2147483648) : IntKind.i32.wrap (n : Int) = (n : Int) := by
  simp [IntKind.wrap, IntKind.bits, IntKind.signed] <;> omega
theorem num_next (base a dn : Nat) (x : UInt8) (t : List UInt8) (hdn : digV (x.toNat : Int) = (dn : Int)) : numL (digU base) base a (x :: t) = if dn < base then numL (digU base) base (a * base + dn) t else none := by
  unfold numL digU
  rw [hdn]
  by_cases h : dn < base
  · rw [if_pos (show (dn : Int) < (base : Int) by omega), if_pos h, Int.toNat_natCast]
    cases t <;> rfl
  · rw [if_neg (show ¬ (dn : Int) < (base : Int) by omega), if_neg h]
theorem getD_byte (l : List UInt8) (pos : Nat) (h : pos < l.length) : l.drop pos = l[pos]'h :: l.drop (pos + 1) := List.drop_eq_getElem_cons h
def NumGives (d : List UInt8) (w : World) (e : Ending) (w' : World) : Prop := e = .returned (.tuple #[.int .i32 (((refV d).getD 0 : Nat) : Int), .bool (refV d).isSome]) ∧ Below w.heap.size w w'
set_option maxHeartbeats 8000000 in
set_option maxRecDepth 100000 in
theorem numbered_any (d : List UInt8) (w : World) (hs : d.length ≤ 100000) :
    Calls Tryz.prog 107 #[.string (bytes d)] w (NumGives d w) := by
  obtain ⟨hex, base, ds, hbase, hR, hl, c⟩ : ∃ (hex : Bool) (base : Nat) (ds : List UInt8), (hex = true ∧ base = 16 ∨ hex = false ∧ base = 10) ∧ refV d = numV base ds ∧ ds.length ≤ 100000 ∧
      Calls Tryz.prog 99 #[.string (bytes d), .string (bytes [120])] w fun e w' => e = .returned (.tuple #[.string (bytes ds), .bool hex]) ∧ w = w' := by
    have c := Tryz.cutPrefix_laid (bytes d) (bytes [120]) w
    have hr := refV_is d
    cases h : swB [120] d with
    | true =>
      have e1 : Lib.hasPrefix (bytes d).data.toList (bytes [120]).data.toList = true := h
      have e2 : Lib.trimPrefix (bytes d).data.toList (bytes [120]).data.toList = d.drop 1 := by unfold Lib.trimPrefix; rw [e1]; rfl
      rw [e1, e2] at c
      rw [h] at hr
      exact ⟨true, 16, d.drop 1, Or.inl ⟨rfl, rfl⟩, hr, by rw [List.length_drop]; omega, c.mono fun _ _ h => ⟨h.1, h.2.symm⟩⟩
    | false =>
      have e1 : Lib.hasPrefix (bytes d).data.toList (bytes [120]).data.toList = false := h
      have e2 : Lib.trimPrefix (bytes d).data.toList (bytes [120]).data.toList = d := by unfold Lib.trimPrefix; rw [e1]; rfl
      rw [e1, e2] at c
      rw [h] at hr
      exact ⟨false, 10, d, Or.inr ⟨rfl, rfl⟩, hr, hs, c.mono fun _ _ h => ⟨h.1, h.2.symm⟩⟩
  have HR := Lib.hid hR
  have hsz : (bytes ds).size = ds.length := bytes_len ds
  clear hR
  rcases hbase with ⟨rfl, rfl⟩ | ⟨rfl, rfl⟩
  · go_enter Tryz.func107, Tryz.ntmps107
    go_wp2_with (go_at_call 99; refine c.mono ?_; rintro e w' ⟨rfl, rfl⟩)
    go_loopw [7] (fun cv wr => ∃ a pos : Nat, cv = .int .i32 (a : Int) ∧ wr = w.iter (bytes ds) pos ∧ pos ≤ ds.length ∧ a ≤ 17825791 ∧ refV d = (numL (digU 16) 16 a (ds.drop pos)).bind fun r => if charB (r : Int) = true then some r else none) (fun _ wr => ds.length - wr.iterPos w.heap.size)
    case atStart => exact ⟨0, 0, rfl, rfl, Nat.zero_le _, Nat.zero_le _, by rw [List.drop_zero]; exact HR.out⟩
    case round =>
      obtain ⟨a, pos, rfl, rfl, hpl, ha, hv⟩ := hrel
      have HB := Lib.hid (iter_below w (bytes ds) pos)
      by_cases hlt : pos < ds.length
      · have hnx : ∀ ty, (Instr.next (.pointer (some ⟨w.heap.size, 0, none⟩)) true ty).run Tryz.prog (w.iter (bytes ds) pos) = _ := fun ty => run_next_any w (bytes ds) pos ty (by rw [hsz]; exact hlt)
        have hdr := getD_byte ds pos hlt
        generalize ds[pos]'hlt = x at hdr
        rw [hdr] at hv
        have hdec : Utf8.decode (bytes ds) pos = Lib.decodeL (x :: ds.drop (pos + 1)) := by rw [← hdr]; exact (Lib.decodeL_drop (bytes ds) pos).symm
        by_cases hx : x.toNat < 128
        · rw [Lib.decodeL_ascii x _ hx] at hdec
          rw [hdec] at hnx
          obtain ⟨dn, hdn⟩ : ∃ dn : Nat, digV (x.toNat : Int) = (dn : Int) := ⟨(digV (x.toNat : Int)).toNat, by have := digV_bounds (x.toNat : Int); omega⟩
          have hD : ∀ W, Calls Tryz.prog 119 #[.int .i32 (x.toNat : Int)] W fun e w' => e = .returned (.int .i32 (dn : Int)) ∧ W = w' := fun W => by rw [← hdn]; exact digit_any _ W
          have hdb : dn ≤ 16 := by have := digV_bounds (x.toNat : Int); omega
          have hstep := num_next 16 a dn x (ds.drop (pos + 1)) hdn
          generalize x.toNat = xn at *
          by_cases hlow : dn < 16
          · have g1 : decide ((16 : Int) ≤ (dn : Int)) = false := decide_eq_false (by omega)
            by_cases hbig : 1114111 < a
            · have g2 : decide ((1114111 : Int) < (a : Int)) = true := decide_eq_true (by omega)
              have HV : Hid (refV d = none) := Lib.hid (by rw [hv]; exact num_big 16 (by decide) _ a hbig)
              have HB2 := Lib.hid (iter_below w (bytes ds) (pos + 1))
              clear hv hstep hdr hdec
              go_wp2_with (go_at_call 119; refine (hD _).mono ?_; rintro e w' ⟨rfl, rfl⟩)
              go_ret2
              unfold NumGives
              rw [HV.out]
              exact ⟨rfl, HB2.out⟩
            · have g2 : decide ((1114111 : Int) < (a : Int)) = false := decide_eq_false (by omega)
              have HV := Lib.hid hv
              rw [hstep, if_pos hlow] at HV
              have q1 : IntKind.i32.wrap ((a : Int) * 16) = ((a * 16 : Nat) : Int) := by rw [show (a : Int) * 16 = ((a * 16 : Nat) : Int) by omega]; exact wrap_i32_k _ (by omega)
              have q2 : IntKind.i32.wrap (((a * 16 : Nat) : Int) + (dn : Int)) = ((a * 16 + dn : Nat) : Int) := by rw [show ((a * 16 : Nat) : Int) + (dn : Int) = ((a * 16 + dn : Nat) : Int) by omega]; exact wrap_i32_k _ (by omega)
              have hnew : a * 16 + dn ≤ 17825791 := by omega
              clear hv hstep hdr hdec
              go_wp2_with (go_at_call 119; refine (hD _).mono ?_; rintro e w' ⟨rfl, rfl⟩)
              go_roundw
              case rel => exact ⟨a * 16 + dn, pos + 1, by go_num, rfl, by omega, hnew, HV.out⟩
              case measure => simp; omega
          · have g1 : decide ((16 : Int) ≤ (dn : Int)) = true := decide_eq_true (by omega)
            have HV : Hid (refV d = none) := Lib.hid (by rw [hv, hstep, if_neg hlow]; rfl)
            have HB2 := Lib.hid (iter_below w (bytes ds) (pos + 1))
            clear hv hstep hdr hdec
            go_wp2_with (go_at_call 119; refine (hD _).mono ?_; rintro e w' ⟨rfl, rfl⟩)
            go_ret2
            unfold NumGives
            rw [HV.out]
            exact ⟨rfl, HB2.out⟩
        · have hdh : 128 ≤ (Lib.decodeL (x :: ds.drop (pos + 1))).1 := (decodeL_high (by simp) (by show 128 ≤ x.toNat; omega)).1
          rw [← hdec] at hdh
          obtain ⟨r, hr⟩ : ∃ r : Nat, (Utf8.decode (bytes ds) pos).1 = r := ⟨_, rfl⟩
          obtain ⟨k, hk⟩ : ∃ k : Nat, (Utf8.decode (bytes ds) pos).2 = k := ⟨_, rfl⟩
          rw [hr] at hdh
          simp only [hr, hk] at hnx
          have hd16 : ∀ c : Int, 128 ≤ c → digV c = 16 := fun c h => by unfold digV; rw [if_neg (by omega), if_neg (by omega), if_neg (by omega)]
          have hD : ∀ W, Calls Tryz.prog 119 #[.int .i32 (r : Int)] W fun e w' => e = .returned (.int .i32 16) ∧ W = w' := fun W => by rw [← hd16 (r : Int) (by omega)]; exact digit_any _ W
          have HV : Hid (refV d = none) := Lib.hid (by
            rw [hv]
            unfold numL digU
            rw [hd16 _ (by omega), if_neg (by decide)]
            rfl)
          have HB2 := Lib.hid (iter_below w (bytes ds) (pos + k))
          clear hv hdr hdec hr hk hd16 hdh
          go_wp2_with (go_at_call 119; refine (hD _).mono ?_; rintro e w' ⟨rfl, rfl⟩)
          go_ret2
          unfold NumGives
          rw [HV.out]
          exact ⟨rfl, HB2.out⟩
      · have hnx : ∀ ty, (Instr.next (.pointer (some ⟨w.heap.size, 0, none⟩)) true ty).run Tryz.prog (w.iter (bytes ds) pos) = _ := fun ty => run_next_end w (bytes ds) pos ty (by rw [hsz]; exact hlt)
        rw [List.drop_of_length_le (by omega)] at hv
        have hv2 : refV d = if charB (a : Int) = true then some a else none := hv
        have hC : ∀ W, Calls Tryz.prog 120 #[.int .i32 (a : Int)] W fun e w' => e = .returned (.bool (charB (a : Int))) ∧ W = w' := fun W => char_any _ W
        have HV := Lib.hid hv2
        clear hv hv2
        cases hch : charB (a : Int) with
        | true =>
          rw [hch] at hC HV
          clear hch
          go_wp2_with (go_at_call 120; refine (hC _).mono ?_; rintro e w' ⟨rfl, rfl⟩)
          go_ret2
          unfold NumGives
          rw [HV.out]
          exact ⟨rfl, HB.out⟩
        | false =>
          rw [hch] at hC HV
          clear hch
          go_wp2_with (go_at_call 120; refine (hC _).mono ?_; rintro e w' ⟨rfl, rfl⟩)
          go_ret2
          unfold NumGives
          rw [HV.out]
          exact ⟨rfl, HB.out⟩
  · go_enter Tryz.func107, Tryz.ntmps107
    go_wp2_with (go_at_call 99; refine c.mono ?_; rintro e w' ⟨rfl, rfl⟩)
    go_loopw [7] (fun cv wr => ∃ a pos : Nat, cv = .int .i32 (a : Int) ∧ wr = w.iter (bytes ds) pos ∧ pos ≤ ds.length ∧ a ≤ 17825791 ∧ refV d = (numL (digU 10) 10 a (ds.drop pos)).bind fun r => if charB (r : Int) = true then some r else none) (fun _ wr => ds.length - wr.iterPos w.heap.size)
    case atStart => exact ⟨0, 0, rfl, rfl, Nat.zero_le _, Nat.zero_le _, by rw [List.drop_zero]; exact HR.out⟩
    case round =>
      obtain ⟨a, pos, rfl, rfl, hpl, ha, hv⟩ := hrel
      have HB := Lib.hid (iter_below w (bytes ds) pos)
      by_cases hlt : pos < ds.length
      · have hnx : ∀ ty, (Instr.next (.pointer (some ⟨w.heap.size, 0, none⟩)) true ty).run Tryz.prog (w.iter (bytes ds) pos) = _ := fun ty => run_next_any w (bytes ds) pos ty (by rw [hsz]; exact hlt)
        have hdr := getD_byte ds pos hlt
        generalize ds[pos]'hlt = x at hdr
        rw [hdr] at hv
        have hdec : Utf8.decode (bytes ds) pos = Lib.decodeL (x :: ds.drop (pos + 1)) := by rw [← hdr]; exact (Lib.decodeL_drop (bytes ds) pos).symm
        by_cases hx : x.toNat < 128
        · rw [Lib.decodeL_ascii x _ hx] at hdec
          rw [hdec] at hnx
          obtain ⟨dn, hdn⟩ : ∃ dn : Nat, digV (x.toNat : Int) = (dn : Int) := ⟨(digV (x.toNat : Int)).toNat, by have := digV_bounds (x.toNat : Int); omega⟩
          have hD : ∀ W, Calls Tryz.prog 119 #[.int .i32 (x.toNat : Int)] W fun e w' => e = .returned (.int .i32 (dn : Int)) ∧ W = w' := fun W => by rw [← hdn]; exact digit_any _ W
          have hdb : dn ≤ 16 := by have := digV_bounds (x.toNat : Int); omega
          have hstep := num_next 10 a dn x (ds.drop (pos + 1)) hdn
          generalize x.toNat = xn at *
          by_cases hlow : dn < 10
          · have g1 : decide ((10 : Int) ≤ (dn : Int)) = false := decide_eq_false (by omega)
            by_cases hbig : 1114111 < a
            · have g2 : decide ((1114111 : Int) < (a : Int)) = true := decide_eq_true (by omega)
              have HV : Hid (refV d = none) := Lib.hid (by rw [hv]; exact num_big 10 (by decide) _ a hbig)
              have HB2 := Lib.hid (iter_below w (bytes ds) (pos + 1))
              clear hv hstep hdr hdec
              go_wp2_with (go_at_call 119; refine (hD _).mono ?_; rintro e w' ⟨rfl, rfl⟩)
              go_ret2
              unfold NumGives
              rw [HV.out]
              exact ⟨rfl, HB2.out⟩
            · have g2 : decide ((1114111 : Int) < (a : Int)) = false := decide_eq_false (by omega)
              have HV := Lib.hid hv
              rw [hstep, if_pos hlow] at HV
              have q1 : IntKind.i32.wrap ((a : Int) * 10) = ((a * 10 : Nat) : Int) := by rw [show (a : Int) * 10 = ((a * 10 : Nat) : Int) by omega]; exact wrap_i32_k _ (by omega)
              have q2 : IntKind.i32.wrap (((a * 10 : Nat) : Int) + (dn : Int)) = ((a * 10 + dn : Nat) : Int) := by rw [show ((a * 10 : Nat) : Int) + (dn : Int) = ((a * 10 + dn : Nat) : Int) by omega]; exact wrap_i32_k _ (by omega)
              have hnew : a * 10 + dn ≤ 17825791 := by omega
              clear hv hstep hdr hdec
              go_wp2_with (go_at_call 119; refine (hD _).mono ?_; rintro e w' ⟨rfl, rfl⟩)
              go_roundw
              case rel => exact ⟨a * 10 + dn, pos + 1, by go_num, rfl, by omega, hnew, HV.out⟩
              case measure => simp; omega
          · have g1 : decide ((10 : Int) ≤ (dn : Int)) = true := decide_eq_true (by omega)
            have HV : Hid (refV d = none) := Lib.hid (by rw [hv, hstep, if_neg hlow]; rfl)
            have HB2 := Lib.hid (iter_below w (bytes ds) (pos + 1))
            clear hv hstep hdr hdec
            go_wp2_with (go_at_call 119; refine (hD _).mono ?_; rintro e w' ⟨rfl, rfl⟩)
            go_ret2
            unfold NumGives
            rw [HV.out]
            exact ⟨rfl, HB2.out⟩
        · have hdh : 128 ≤ (Lib.decodeL (x :: ds.drop (pos + 1))).1 := (decodeL_high (by simp) (by show 128 ≤ x.toNat; omega)).1
          rw [← hdec] at hdh
          obtain ⟨r, hr⟩ : ∃ r : Nat, (Utf8.decode (bytes ds) pos).1 = r := ⟨_, rfl⟩
          obtain ⟨k, hk⟩ : ∃ k : Nat, (Utf8.decode (bytes ds) pos).2 = k := ⟨_, rfl⟩
          rw [hr] at hdh
          simp only [hr, hk] at hnx
          have hd16 : ∀ c : Int, 128 ≤ c → digV c = 16 := fun c h => by unfold digV; rw [if_neg (by omega), if_neg (by omega), if_neg (by omega)]
          have hD : ∀ W, Calls Tryz.prog 119 #[.int .i32 (r : Int)] W fun e w' => e = .returned (.int .i32 16) ∧ W = w' := fun W => by rw [← hd16 (r : Int) (by omega)]; exact digit_any _ W
          have HV : Hid (refV d = none) := Lib.hid (by
            rw [hv]
            unfold numL digU
            rw [hd16 _ (by omega), if_neg (by decide)]
            rfl)
          have HB2 := Lib.hid (iter_below w (bytes ds) (pos + k))
          clear hv hdr hdec hr hk hd16 hdh
          go_wp2_with (go_at_call 119; refine (hD _).mono ?_; rintro e w' ⟨rfl, rfl⟩)
          go_ret2
          unfold NumGives
          rw [HV.out]
          exact ⟨rfl, HB2.out⟩
      · have hnx : ∀ ty, (Instr.next (.pointer (some ⟨w.heap.size, 0, none⟩)) true ty).run Tryz.prog (w.iter (bytes ds) pos) = _ := fun ty => run_next_end w (bytes ds) pos ty (by rw [hsz]; exact hlt)
        rw [List.drop_of_length_le (by omega)] at hv
        have hv2 : refV d = if charB (a : Int) = true then some a else none := hv
        have hC : ∀ W, Calls Tryz.prog 120 #[.int .i32 (a : Int)] W fun e w' => e = .returned (.bool (charB (a : Int))) ∧ W = w' := fun W => char_any _ W
        have HV := Lib.hid hv2
        clear hv hv2
        cases hch : charB (a : Int) with
        | true =>
          rw [hch] at hC HV
          clear hch
          go_wp2_with (go_at_call 120; refine (hC _).mono ?_; rintro e w' ⟨rfl, rfl⟩)
          go_ret2
          unfold NumGives
          rw [HV.out]
          exact ⟨rfl, HB.out⟩
        | false =>
          rw [hch] at hC HV
          clear hch
          go_wp2_with (go_at_call 120; refine (hC _).mono ?_; rintro e w' ⟨rfl, rfl⟩)
          go_ret2
          unfold NumGives
          rw [HV.out]
          exact ⟨rfl, HB.out⟩
/-! ### BEHIND numbered -/
end Go.Proofs.YtjijjmkeehdooaaGreatDoor

namespace Go.Proofs.YtjijjmkeehdooaaGreatDoor
open Go.RowKit

/-! ### small and great letters of "xml" -/
def xml : List UInt8 := [120, 109, 108]
def foldB (l : List UInt8) : Bool := decide (l.map lowU = xml)
def xmlAt (i : Nat) : Nat := if i = 0 then 120 else if i = 1 then 109 else 108
theorem low_xml (i : Nat) (hi : i < 3) (x : UInt8) : (lowU x = UInt8.ofNat (xmlAt i)) ↔ (x.toNat = xmlAt i ∨ x.toNat + 32 = xmlAt i) := by
  have hx := x.toNat_lt
  have key : ∀ c : Nat, 97 ≤ c → c ≤ 122 → (lowU x = UInt8.ofNat c ↔ (x.toNat = c ∨ x.toNat + 32 = c)) := fun c h1 h2 => by
    unfold lowU
    split
    · rename_i h
      rw [byte_eq (by omega), UInt8.toNat_add]
      have : (32 : UInt8).toNat = 32 := rfl
      omega
    · rw [byte_eq (by omega)]
      omega
  rcases (show i = 0 ∨ i = 1 ∨ i = 2 by omega) with rfl | rfl | rfl
  · exact key 120 (by decide) (by decide)
  · exact key 109 (by decide) (by decide)
  · exact key 108 (by decide) (by decide)
theorem or_low : ∀ x : Fin 256, ∀ i : Fin 3, decide (128 ≤ bits BinOp.or IntKind.u8 ((x.val : Nat) : Int) (xmlAt i.val : Int)) = decide (128 ≤ x.val) := by decide +kernel
/-- the first i bytes are those of "xml", in whatever case -/
def Alike (l : List UInt8) (i : Nat) : Prop := ∀ j, j < i → ∃ x, l[j]? = some x ∧ lowU x = UInt8.ofNat (xmlAt j)
theorem alike_zero (l : List UInt8) : Alike l 0 := fun _ h => absurd h (Nat.not_lt_zero _)
theorem alike_succ {l : List UInt8} {i : Nat} {x : UInt8} (h : Alike l i) (hx : l[i]? = some x) (hl : lowU x = UInt8.ofNat (xmlAt i)) : Alike l (i + 1) := fun j hj => by
  by_cases e : j = i
  · subst e; exact ⟨x, hx, hl⟩
  · exact h j (by omega)
theorem fold_at {l : List UInt8} (h : foldB l = true) (i : Nat) (hi : i < 3) : ∃ x, l[i]? = some x ∧ lowU x = UInt8.ofNat (xmlAt i) := by
  have e : l.map lowU = xml := of_decide_eq_true h
  have e2 : (l.map lowU)[i]? = some (UInt8.ofNat (xmlAt i)) := by
    rw [e]
    rcases (show i = 0 ∨ i = 1 ∨ i = 2 by omega) with rfl | rfl | rfl <;> rfl
  rw [List.getElem?_map] at e2
  obtain ⟨x, h1, h2⟩ := Option.map_eq_some_iff.1 e2
  exact ⟨x, h1, h2⟩
theorem fold_not {l : List UInt8} {i : Nat} {x : UInt8} (hi : i < 3) (hx : l[i]? = some x) (hl : lowU x ≠ UInt8.ofNat (xmlAt i)) : foldB l = false := by
  rw [Bool.eq_false_iff]
  intro h
  obtain ⟨y, h1, h2⟩ := fold_at h i hi
  rw [hx] at h1
  injection h1 with h1
  subst h1
  exact hl h2
theorem fold_length {l : List UInt8} (h : foldB l = true) : l.length = 3 := by
  have e : l.map lowU = xml := of_decide_eq_true h
  have := congrArg List.length e
  rw [List.length_map] at this
  exact this
theorem fold_yes {l : List UInt8} (h : Alike l 3) (hl : l.length = 3) : foldB l = true := by
  refine decide_eq_true ?_
  match l, hl with
  | [a, b, c], _ =>
    obtain ⟨x, h1, h2⟩ := h 0 (by omega)
    obtain ⟨y, h3, h4⟩ := h 1 (by omega)
    obtain ⟨z, h5, h6⟩ := h 2 (by omega)
    injection h1 with h1
    injection h3 with h3
    injection h5 with h5
    subst h1; subst h3; subst h5
    show [lowU a, lowU b, lowU c] = xml
    rw [h2, h4, h6]
    rfl

set_option maxHeartbeats 1000000 in
theorem simpleFold_any (n : Nat) (c : Nat) (w : World) (hE : KE n w) (hc : c ∈ [76, 77, 88, 108, 109, 120]) :
    Calls Tryz.prog 124 #[.int .i32 (c : Int)] w fun e w' => e = .returned (.int .i32 (if c < 96 then (c : Int) + 32 else (c : Int) - 32)) ∧ w = w' := by
  have hf := hE.fold c hc
  simp only [List.mem_cons, List.mem_nil_iff, or_false] at hc
  clear hE
  rcases hc with rfl | rfl | rfl | rfl | rfl | rfl
  all_goals
    (simp only [Nat.reduceLT, if_true, if_false] at hf ⊢
     go_enter Tryz.func124, Tryz.ntmps124
     go_wp2
     go_ret
     exact ⟨rfl, rfl⟩)

theorem wp_scope_once {P : Program} {Q : Exit → Act → World → Prop} {a : Act} {w : World} {c rest : Code} (l : Nat) (hf : findLabel c l = some rest) (first : ∀ J : Act → World → Prop, (∀ a w, rest.wp P (Exit.noGoto Q) a w → J a w) → c.wp P (Exit.jump l J Q) a w) : (Code.scope c).wp P Q a w :=
  wp_scope_jumps l (rest.wp P (Exit.noGoto Q)) (fun _ _ => 0) hf (first _ fun _ _ h => h) fun _ _ h => wp_mono h fun e _ _ hq => by cases e <;> first | exact hq | exact hq.elim
theorem xml_cut : ∀ i : Fin 3, (⟨#[120, 109, 108]⟩ : ByteArray).extract i.val 3 = bytes (xml.drop i.val) := by decide
set_option maxHeartbeats 16000000 in
set_option maxRecDepth 100000 in
theorem fold_any (n : Nat) (l : List UInt8) (w : World) (hE : KE n w) (hn : n ≤ w.heap.size) (hs : l.length ≤ 100000) :
    Calls Tryz.prog 116 #[.string (bytes l), .string ⟨#[120, 109, 108]⟩] w fun e w' => e = .returned (.bool (foldB l)) ∧ Below w.heap.size w w' := by
  have hsz : (bytes l).size = l.length := bytes_len l
  have HE := Lib.hid hE
  clear hE
  obtain ⟨M, hM⟩ : ∃ M : Nat, min (l.length : Int) 3 = (M : Int) := ⟨min l.length 3, by omega⟩
  have hM1 : M ≤ l.length := by omega
  have hM2 : M ≤ 3 := by omega
  have hM3 : M = l.length ∨ M = 3 := by omega
  go_enter Tryz.func116, Tryz.ntmps116
  go_wp2
  refine wp_scope_once 0 rfl ?_
  intro J hJ
  · go_wp2
    go_loopg [5] M (fun g s5 wx => w = wx ∧ ∃ i : Nat, i + g = M ∧ s5 = .int .i64 i ∧ Alike l i)
    case atStart => exact ⟨rfl, 0, by omega, rfl, alike_zero l⟩
    case round =>
      obtain ⟨rfl, i, hig, rfl, hA⟩ := hrel
      have HA := Lib.hid hA
      clear hA
      cases gk with
      | zero =>
        have hiM : ¬ ((i : Int) < (M : Int)) := by omega
        obtain rfl : i = M := by omega
        by_cases h3 : l.length = 3
        · have hb : ((l.length : Int) == 3) = true := beq_iff_eq.2 (by omega)
          have HV : Hid (foldB l = true) := Lib.hid (fold_yes (by have := HA.out; rwa [show i = 3 by omega] at this) h3)
          clear h3
          go_wp2
          simp only [Exit.jump]
          go_ret
          exact ⟨by rw [HV.out]; rfl, Below.refl _ _⟩
        · have hb : ((l.length : Int) == 3) = false := beq_eq_false_iff_ne.2 (by omega)
          have HV : Hid (foldB l = false) := Lib.hid (by rw [Bool.eq_false_iff]; intro e; exact h3 (fold_length e))
          clear h3
          go_wp2
          simp only [Exit.jump]
          go_ret
          exact ⟨by rw [HV.out]; rfl, Below.refl _ _⟩
      | succ g =>
        have hiM : (i : Int) < (M : Int) := by omega
        have hisz : (i : Int) < (l.length : Int) := by omega
        have hi3 : i < 3 := by omega
        have hil : i < l.length := by omega
        obtain ⟨x, hx⟩ : ∃ x : UInt8, (bytes l)[i]'(by omega) = x := ⟨_, rfl⟩
        obtain ⟨y, hy⟩ : ∃ y : UInt8, (⟨#[120, 109, 108]⟩ : ByteArray)[i]'hi3 = y := ⟨_, rfl⟩
        have hxl : l[i]? = some x := by rw [← hx]; exact Lib.data_getElem? (bytes l) i (by omega)
        have hyn0 : y.toNat = xmlAt i := by
          rw [← hy]
          rcases (show i = 0 ∨ i = 1 ∨ i = 2 by omega) with rfl | rfl | rfl <;> rfl
        obtain ⟨Y, hY⟩ : ∃ Y, xmlAt i = Y := ⟨_, rfl⟩
        have hyr : 108 ≤ xmlAt i ∧ xmlAt i ≤ 120 := by
          rcases (show i = 0 ∨ i = 1 ∨ i = 2 by omega) with rfl | rfl | rfl <;> decide
        have hlow := low_xml i hi3 x
        have hnext := fun e => alike_succ HA.out hxl (x := x) e
        have hnot := fold_not hi3 hxl
        have HU : Hid (l.drop i = x :: l.drop (i + 1)) := Lib.hid (by rw [← hx]; exact getD_byte l i hil)
        rw [hY] at hyn0 hyr hlow hnext hnot
        obtain ⟨hy1, hy2⟩ := hyr
        have hyn : y.toNat = Y := hyn0
        clear hyn0 hxl
        have hx256 := x.toNat_lt
        have hor : bits .or .u8 (x.toNat : Int) (Y : Int) = ((x.toNat ||| Y : Nat) : Int) := u8_or_nat _ _ (by omega) (by omega)
        by_cases hx128 : x.toNat < 128
        · have hor128 : ¬ ((128 : Int) ≤ ((x.toNat ||| Y : Nat) : Int)) := by have := Nat.or_lt_two_pow (n := 7) hx128 (show Y < 2 ^ 7 by omega); omega
          by_cases hl : lowU x = UInt8.ofNat Y
          · have HN := Lib.hid (hnext hl)
            have hh := hlow.1 hl
            clear hlow hl hnext hnot hM
            go_wp2
            all_goals (try simp only [beq_iff_eq, beq_eq_false_iff_ne, ne_eq] at *)
            all_goals first
              | (exfalso; omega)
              | (go_roundg g
                 case measure => omega
                 case rel => exact ⟨rfl, i + 1, by omega, by first | rfl | simp, HN.out⟩)
          · have HV : Hid (foldB l = false) := Lib.hid (hnot hl)
            have hh : ¬ (x.toNat = Y ∨ x.toNat + 32 = Y) := fun e => hl (hlow.2 e)
            clear hlow hl hnext hnot hM
            go_wp2
            all_goals (try simp only [beq_eq_false_iff_ne, ne_eq] at *)
            all_goals first
              | (exfalso; omega)
              | (simp only [Exit.jump]; go_ret; exact ⟨by rw [HV.out]; rfl, Below.refl _ _⟩)
        · have hor128 : (128 : Int) ≤ ((x.toNat ||| Y : Nat) : Int) := by have := Nat.left_le_or (n := x.toNat) (m := Y); omega
          have HV : Hid (foldB l = false) := Lib.hid (hnot fun e => by have := hlow.1 e; omega)
          have hU := HU.out
          have hx := hx128
          generalize l.drop (i + 1) = t at hU
          clear hlow hnext hnot hM
          have hx' : 128 ≤ x.toNat := by omega
          go_wp2
          go_step3
          refine ⟨rfl, hJ _ _ ?_⟩
          clear hJ
          have hisz : (i : Int) ≤ (l.length : Int) := by omega
          have hi3' : (i : Int) ≤ 3 := by omega
          have hi0 : (0 : Int) ≤ (i : Int) := by omega
          have q4 : (bytes l).extract i l.length = bytes (l.drop i) := by rw [← hsz]; exact bytes_drop l i
          have q5 : (⟨#[120, 109, 108]⟩ : ByteArray).extract i 3 = bytes (xml.drop i) := xml_cut ⟨i, hi3⟩
          have hT : (xml.drop i)[0]? = some (UInt8.ofNat Y) := by
            rw [← hY]
            rcases (show i = 0 ∨ i = 1 ∨ i = 2 by omega) with rfl | rfl | rfl <;> rfl
          have hYu : (UInt8.ofNat Y).toNat = Y := by rw [UInt8.toNat_ofNat']; exact Nat.mod_eq_of_lt (by omega)
          have hfold : Y ∈ [76, 77, 88, 108, 109, 120] ∧ Y - 32 ∈ [76, 77, 88, 108, 109, 120] := by
            rw [← hY]
            rcases (show i = 0 ∨ i = 1 ∨ i = 2 by omega) with rfl | rfl | rfl <;> decide
          generalize xml.drop i = T at q5 hT
          generalize l.drop i = U at q4 hU
          obtain ⟨tn, htn, htn0⟩ : ∃ tn, (bytes T).size = tn ∧ 0 < tn := ⟨_, rfl, by
            rw [bytes_len]
            cases T with
            | nil => cases hT
            | cons a t => simp⟩
          have HTC := Lib.hid (fun W => Tryz.decode_laid (bytes T) (UInt8.ofNat Y) W hT (by rw [hYu]; omega))
          rw [hYu] at HTC
          have hd : 128 ≤ (Utf8.decode (bytes U) 0).1 := by
            rw [← Lib.decodeL_drop, List.drop_zero]
            show 128 ≤ (Lib.decodeL U).1
            rw [hU]
            exact (decodeL_high (by simp) (by show 128 ≤ x.toNat; omega)).1
          have hU0 : 0 < (bytes U).size := by rw [bytes_len, hU]; simp
          obtain ⟨r, hr⟩ : ∃ r : Nat, (Utf8.decode (bytes U) 0).1 = r := ⟨_, rfl⟩
          obtain ⟨k, hk⟩ : ∃ k : Nat, (Utf8.decode (bytes U) 0).2 = k := ⟨_, rfl⟩
          have hnx : ∀ ty, (Instr.next (.pointer (some ⟨w.heap.size, 0, none⟩)) true ty).run Tryz.prog (w.iter (bytes U) 0) = _ := fun ty => run_next_any w (bytes U) 0 ty hU0
          simp only [hr, hk] at hnx
          rw [hr] at hd
          have HB := Lib.hid (iter_below w (bytes U) k)
          have cS1 : ∀ W, Below w.heap.size w W → Calls Tryz.prog 124 #[.int .i32 (Y : Int)] W fun e w' => e = .returned (.int .i32 ((Y - 32 : Nat) : Int)) ∧ W = w' := fun W hb => by
            have c := simpleFold_any n Y W (HE.out.stay (hb.mono hn)) hfold.1
            rw [if_neg (by omega), show (Y : Int) - 32 = ((Y - 32 : Nat) : Int) by omega] at c
            exact c
          have cS2 : ∀ W, Below w.heap.size w W → Calls Tryz.prog 124 #[.int .i32 ((Y - 32 : Nat) : Int)] W fun e w' => e = .returned (.int .i32 (Y : Int)) ∧ W = w' := fun W hb => by
            have c := simpleFold_any n (Y - 32) W (HE.out.stay (hb.mono hn)) hfold.2
            rw [if_pos (by omega), show ((Y - 32 : Nat) : Int) + 32 = (Y : Int) by omega] at c
            exact c
          have CS1 := Lib.hid (cS1 _ HB.out)
          have CS2 := Lib.hid (cS2 _ HB.out)
          obtain ⟨Z, hZ⟩ : ∃ Z, Y - 32 = Z := ⟨_, rfl⟩
          rw [hZ] at CS1 CS2
          have hz1 : Z < Y := by omega
          clear hr hk hU hU0 hT hYu hfold hY hZ cS1 cS2 hM1 hM2 hM3 hs hx hx128 hx256 hor hor128 hyn
          go_wp2
          go_loopw [1] (fun tv wr => tv = .string (bytes T) ∧ wr = w.iter (bytes U) 0) (fun _ _ => 0)
          case atStart => exact ⟨rfl, rfl⟩
          case round =>
            obtain ⟨rfl, rfl⟩ := hrel
            have b1 : ((Y : Int) == (r : Int)) = false := beq_eq_false_iff_ne.2 (by omega)
            have b2 : decide ((Y : Int) < (r : Int)) = true := decide_eq_true (by omega)
            have b3 : decide ((r : Int) < 128) = false := decide_eq_false (by omega)
            have b4 : decide ((Z : Int) < (r : Int)) = true := decide_eq_true (by omega)
            have b5 : ((Z : Int) == (Y : Int)) = false := beq_eq_false_iff_ne.2 (by omega)
            have b6 : ((tn : Int) == 0) = false := beq_eq_false_iff_ne.2 (by omega)
            have b7 : (1 : Int) ≤ (tn : Int) := by omega
            go_wp2_with (first
              | (go_at_call 63; refine (HTC.out _).mono ?_; rintro e w2 ⟨rfl, rfl⟩)
              | (go_at_call 124; refine CS1.out.mono ?_; rintro e w2 ⟨rfl, rfl⟩))
            go_loopw [13] (fun v wr => wr = w.iter (bytes U) k ∧ (v = .int .i32 (Z : Int) ∨ v = .int .i32 (Y : Int))) (fun v _ => 200 - (intOf v).toNat)
            case atStart => exact ⟨rfl, Or.inl rfl⟩
            case round =>
              obtain ⟨rfl, rfl | rfl⟩ := hrel
              · go_wp2_with (go_at_call 124; refine CS2.out.mono ?_; rintro e w2 ⟨rfl, rfl⟩)
                all_goals first
                  | (exfalso; omega)
                  | (go_roundw
                     case rel => exact ⟨trivial, Or.inr rfl⟩
                     case measure => simp [intOf]; omega)
                  | (simp only [Exit.noGoto]
                     go_ret
                     exact ⟨by rw [HV.out]; rfl, HB.out⟩)
              · go_wp2
                simp only [Exit.noGoto]
                go_ret
                exact ⟨by rw [HV.out]; rfl, HB.out⟩
/-! ### BEHIND fold -/
end Go.Proofs.YtjijjmkeehdooaaGreatDoor

namespace Go.Proofs.YtjijjmkeehdooaaGreatDoor
open Go.RowKit

theorem colon_list (l : List UInt8) : colonB (bytes l) = l.contains 58 := by
  unfold colonB
  rw [bytes_list, Bool.eq_iff_iff, decide_eq_true_eq, List.contains_iff_mem]
  constructor
  · intro h
    obtain ⟨o, ho⟩ := Int.eq_ofNat_of_zero_le h
    exact List.mem_iff_getElem?.2 ⟨o, (Lib.indexByte_some ho).1⟩
  · intro h
    obtain ⟨k, hk⟩ := List.mem_iff_getElem?.1 h
    have hge := Lib.indexByte_ge l 58
    have hnn : Lib.indexByte l 58 ≠ -1 := fun e => Lib.indexByte_none e k hk
    omega
theorem nc_list (l : List UInt8) : ncB (bytes l) = ncL l := by
  unfold ncB ncL
  rw [nameB_list, bytes_list, colon_list]
theorem nck_any (n : Nat) (l : List UInt8) (w : World) (hE : KE n w) (hs : l.length ≤ 100000) :
    Calls Tryz.prog 108 #[.string (bytes l)] w fun e w' => e = .returned (.bool (ncL l)) ∧ Below w.heap.size w w' := by
  rw [← nc_list]
  exact nc_any (bytes l) w (by rw [bytes_len]; omega) hE.tabs
theorem target_fold (l : List UInt8) : targetL l = (ncL l && !foldB l) := by
  unfold targetL foldB xml
  by_cases h : l.map lowU = [120, 109, 108]
  · rw [decide_eq_false (by simpa using h), decide_eq_true h]; rfl
  · rw [decide_eq_true h, decide_eq_false h]; rfl
set_option maxHeartbeats 1000000 in
theorem target_any (n : Nat) (l : List UInt8) (w : World) (hE : KE n w) (hn : n ≤ w.heap.size) (hs : l.length ≤ 100000) :
    Calls Tryz.prog 103 #[.string (bytes l)] w fun e w' => e = .returned (.bool (targetL l)) ∧ Below w.heap.size w w' := by
  have hc := nck_any n l w hE hs
  have hf : ∀ W, Below w.heap.size w W → Calls Tryz.prog 116 #[.string (bytes l), .string ⟨#[120, 109, 108]⟩] W fun e w' => e = .returned (.bool (foldB l)) ∧ Below w.heap.size w w' := fun W hb =>
    (fold_any n l W (hE.stay (hb.mono hn)) (Nat.le_trans hn hb.size) hs).mono fun e w' hg => ⟨hg.1, hb.trans (hg.2.mono hb.size)⟩
  rw [target_fold]
  clear hE
  cases h1 : ncL l with
  | false =>
    rw [h1] at hc
    clear h1
    go_enter Tryz.func103, Tryz.ntmps103
    go_wp2_with (go_at_call 108; refine hc.mono ?_; rintro e w1 ⟨rfl, hb1⟩)
    go_ret
    exact ⟨rfl, hb1⟩
  | true =>
    rw [h1] at hc
    cases h2 : foldB l with
    | false =>
      rw [h2] at hf
      clear h1 h2
      go_enter Tryz.func103, Tryz.ntmps103
      go_wp2_with (first | (go_at_call 108; refine hc.mono ?_; rintro e w1 ⟨rfl, hb1⟩) | (go_at_call 116; refine (hf _ hb1).mono ?_; rintro e w2 ⟨rfl, hb2⟩))
      go_ret
      exact ⟨rfl, hb2⟩
    | true =>
      rw [h2] at hf
      clear h1 h2
      go_enter Tryz.func103, Tryz.ntmps103
      go_wp2_with (first | (go_at_call 108; refine hc.mono ?_; rintro e w1 ⟨rfl, hb1⟩) | (go_at_call 116; refine (hf _ hb1).mono ?_; rintro e w2 ⟨rfl, hb2⟩))
      go_ret
      exact ⟨rfl, hb2⟩

/-! ### CharRef -/
end Go.Proofs.YtjijjmkeehdooaaGreatDoor
