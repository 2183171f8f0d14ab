/-
  THE LANDED PACKAGE decl: strings.EqualFold at "utf-8" (any other text beside it), the contract of encoding.
  THE LANDED PACKAGE decl: the contracts of version, standalone, settings and its two parts, XML.
-/
import Derived.Test.YtmecigainilocaaGreatDoorRunDRead
import Derived.ScopeJumps
import Derived.WalkMore
namespace Go.Proofs.YtmecigainilocaaGreatDoor
open Go.RowKit

/-! ### small and great letters of "utf-8" -/
def utfAt (i : Nat) : Nat := if i = 0 then 117 else if i = 1 then 116 else if i = 2 then 102 else if i = 3 then 45 else 56
theorem five {i : Nat} (hi : i < 5) : i = 0 ∨ i = 1 ∨ i = 2 ∨ i = 3 ∨ i = 4 := by omega
theorem low_utf (i : Nat) (hi : i < 5) (x : UInt8) : (lowU x = UInt8.ofNat (utfAt i)) ↔ (x.toNat = utfAt i ∨ (x.toNat + 32 = utfAt i ∧ 97 ≤ utfAt i)) := by
  have hx := x.toNat_lt
  have key : ∀ c : Nat, (97 ≤ c ∧ c ≤ 122 ∨ c ≤ 64) → (lowU x = UInt8.ofNat c ↔ (x.toNat = c ∨ (x.toNat + 32 = c ∧ 97 ≤ c))) := fun c h1 => by
    unfold lowU
    split
    · rename_i h
      rw [byte_eq (by omega), UInt8.toNat_add]
      have : (32 : UInt8).toNat = 32 := rfl
      omega
    · rw [byte_eq (by omega)]
      omega
  rcases five hi with rfl | rfl | rfl | rfl | rfl
  · exact key 117 (by decide)
  · exact key 116 (by decide)
  · exact key 102 (by decide)
  · exact key 45 (by decide)
  · exact key 56 (by decide)
/-- the first i bytes are those of "utf-8", in whatever case -/
def AlikeD (l : List UInt8) (i : Nat) : Prop := ∀ j, j < i → ∃ x, l[j]? = some x ∧ lowU x = UInt8.ofNat (utfAt j)
theorem alikeD_zero (l : List UInt8) : AlikeD l 0 := fun _ h => absurd h (Nat.not_lt_zero _)
theorem alikeD_succ {l : List UInt8} {i : Nat} {x : UInt8} (h : AlikeD l i) (hx : l[i]? = some x) (hl : lowU x = UInt8.ofNat (utfAt i)) : AlikeD l (i + 1) := fun j hj => by
  by_cases e : j = i
  · subst e; exact ⟨x, hx, hl⟩
  · exact h j (by omega)
theorem foldD_at {l : List UInt8} (h : encB l = true) (i : Nat) (hi : i < 5) : ∃ x, l[i]? = some x ∧ lowU x = UInt8.ofNat (utfAt i) := by
  have e : l.map lowU = utfL := of_decide_eq_true h
  have e2 : (l.map lowU)[i]? = some (UInt8.ofNat (utfAt i)) := by
    rw [e]
    rcases five hi with rfl | rfl | rfl | rfl | rfl <;> rfl
  rw [List.getElem?_map] at e2
  obtain ⟨x, h1, h2⟩ := Option.map_eq_some_iff.1 e2
  exact ⟨x, h1, h2⟩
theorem foldD_not {l : List UInt8} {i : Nat} {x : UInt8} (hi : i < 5) (hx : l[i]? = some x) (hl : lowU x ≠ UInt8.ofNat (utfAt i)) : encB l = false := by
  rw [Bool.eq_false_iff]
  intro h
  obtain ⟨y, h1, h2⟩ := foldD_at h i hi
  rw [hx] at h1
  injection h1 with h1
  subst h1
  exact hl h2
theorem foldD_length {l : List UInt8} (h : encB l = true) : l.length = 5 := by
  have e : l.map lowU = utfL := of_decide_eq_true h
  have := congrArg List.length e
  rw [List.length_map] at this
  exact this
theorem foldD_yes {l : List UInt8} (h : AlikeD l 5) (hl : l.length = 5) : encB l = true := by
  refine decide_eq_true ?_
  match l, hl with
  | [a, b, c, d, e], _ =>
    obtain ⟨x, h1, h2⟩ := h 0 (by omega)
    obtain ⟨y, h3, h4⟩ := h 1 (by omega)
    obtain ⟨z, h5, h6⟩ := h 2 (by omega)
    obtain ⟨u, h7, h8⟩ := h 3 (by omega)
    obtain ⟨v, h9, h10⟩ := h 4 (by omega)
    injection h1 with h1
    injection h3 with h3
    injection h5 with h5
    injection h7 with h7
    injection h9 with h9
    subst h1; subst h3; subst h5; subst h7; subst h9
    show [lowU a, lowU b, lowU c, lowU d, lowU e] = utfL
    rw [h2, h4, h6, h8, h10]
    rfl

set_option maxHeartbeats 1000000 in
theorem simpleFold_d (n : Nat) (r : Nat) (w : World) (hE : DE n w) (hc : r ∈ [45, 56, 70, 84, 85, 102, 116, 117]) :
    Calls Tryz.prog 71 #[.int .i32 (r : Int)] w fun e w' => e = .returned (.int .i32 (if r < 60 then (r : Int) else if r < 96 then (r : Int) + 32 else (r : Int) - 32)) ∧ w = w' := by
  have hf := hE.fold r hc
  simp only [List.mem_cons, List.mem_nil_iff, or_false] at hc
  clear hE
  rcases hc with rfl | rfl | rfl | rfl | rfl | rfl | rfl | rfl
  all_goals
    (simp only [Nat.reduceLT, if_true, if_false] at hf ⊢
     go_enter Tryz.func71, Tryz.ntmps71
     go_wp2
     go_ret
     exact ⟨rfl, rfl⟩)
theorem utf_cut : ∀ i : Fin 5, (⟨#[117, 116, 102, 45, 56]⟩ : ByteArray).extract i.val 5 = bytes (utfL.drop i.val) := by decide
set_option maxHeartbeats 16000000 in
set_option maxRecDepth 100000 in
theorem foldD_any (n : Nat) (l : List UInt8) (w : World) (hE : DE n w) (hn : n ≤ w.heap.size) (hs : l.length ≤ 100000) :
    Calls Tryz.prog 51 #[.string (bytes l), .string ⟨#[117, 116, 102, 45, 56]⟩] w fun e w' => e = .returned (.bool (encB l)) ∧ Below w.heap.size w w' := by
  have hsz : (bytes l).size = l.length := bytes_len l
  have HE := Lib.hid hE
  clear hE
  obtain ⟨M, hM⟩ : ∃ M : Nat, min (l.length : Int) 5 = (M : Int) := ⟨min l.length 5, by omega⟩
  have hM1 : M ≤ l.length := by omega
  have hM2 : M ≤ 5 := by omega
  have hM3 : M = l.length ∨ M = 5 := by omega
  go_enter Tryz.func51, Tryz.ntmps51
  go_wp2
  refine wp_scope_once 0 rfl ?_
  intro J hJ
  · go_wp2
    go_loopg [5] M (fun g s5 wx => w = wx ∧ ∃ i : Nat, i + g = M ∧ s5 = .int .i64 i ∧ AlikeD l i)
    case atStart => exact ⟨rfl, 0, by omega, rfl, alikeD_zero l⟩
    case round =>
      obtain ⟨rfl, i, hig, rfl, hA⟩ := hrel
      have HA := Lib.hid hA
      clear hA
      cases gk with
      | zero =>
        have hiM : ¬ ((i : Int) < (M : Int)) := by omega
        obtain rfl : i = M := by omega
        by_cases h3 : l.length = 5
        · have hb : ((l.length : Int) == 5) = true := beq_iff_eq.2 (by omega)
          have HV : Hid (encB l = true) := Lib.hid (foldD_yes (by have := HA.out; rwa [show i = 5 by omega] at this) h3)
          clear h3
          go_wp2
          simp only [Exit.jump]
          go_ret
          exact ⟨by rw [HV.out]; rfl, Below.refl _ _⟩
        · have hb : ((l.length : Int) == 5) = false := beq_eq_false_iff_ne.2 (by omega)
          have HV : Hid (encB l = false) := Lib.hid (by rw [Bool.eq_false_iff]; intro e; exact h3 (foldD_length e))
          clear h3
          go_wp2
          simp only [Exit.jump]
          go_ret
          exact ⟨by rw [HV.out]; rfl, Below.refl _ _⟩
      | succ g =>
        have hiM : (i : Int) < (M : Int) := by omega
        have hisz : (i : Int) < (l.length : Int) := by omega
        have hi3 : i < 5 := by omega
        have hil : i < l.length := by omega
        obtain ⟨x, hx⟩ : ∃ x : UInt8, (bytes l)[i]'(by omega) = x := ⟨_, rfl⟩
        obtain ⟨y, hy⟩ : ∃ y : UInt8, (⟨#[117, 116, 102, 45, 56]⟩ : ByteArray)[i]'hi3 = y := ⟨_, rfl⟩
        have hxl : l[i]? = some x := by rw [← hx]; exact Lib.data_getElem? (bytes l) i (by omega)
        have hyn0 : y.toNat = utfAt i := by
          rw [← hy]
          rcases five hi3 with rfl | rfl | rfl | rfl | rfl <;> rfl
        obtain ⟨Y, hY⟩ : ∃ Y, utfAt i = Y := ⟨_, rfl⟩
        have hmem : utfAt i = 117 ∨ utfAt i = 116 ∨ utfAt i = 102 ∨ utfAt i = 45 ∨ utfAt i = 56 := by
          rcases five hi3 with rfl | rfl | rfl | rfl | rfl <;> decide
        have hlow := low_utf i hi3 x
        have hnext := fun e => alikeD_succ HA.out hxl (x := x) e
        have hnot := foldD_not hi3 hxl
        have HU : Hid (l.drop i = x :: l.drop (i + 1)) := Lib.hid (by rw [← hx]; exact getD_byte l i hil)
        rw [hY] at hyn0 hmem hlow hnext hnot
        have hyr : (97 ≤ Y ∧ Y ≤ 122) ∨ (45 ≤ Y ∧ Y ≤ 56) := by omega
        rcases hyr with ⟨hy1, hy2⟩ | ⟨hy1, hy2⟩
        · have hyn : y.toNat = Y := hyn0
          clear hyn0 hxl
          have hx256 := x.toNat_lt
          have hor : bits .or .u8 (x.toNat : Int) (Y : Int) = ((x.toNat ||| Y : Nat) : Int) := u8_or_nat _ _ (by omega) (by omega)
          by_cases hx128 : x.toNat < 128
          · have hor128 : ¬ ((128 : Int) ≤ ((x.toNat ||| Y : Nat) : Int)) := by have := Nat.or_lt_two_pow (n := 7) hx128 (show Y < 2 ^ 7 by omega); omega
            by_cases hl : lowU x = UInt8.ofNat Y
            · have HN := Lib.hid (hnext hl)
              have hh := hlow.1 hl
              clear hlow hl hnext hnot hM
              go_wp2
              all_goals (try simp only [beq_iff_eq, beq_eq_false_iff_ne, ne_eq] at *)
              all_goals first
                | (exfalso; omega)
                | (go_roundg g
                   case measure => omega
                   case rel => exact ⟨rfl, i + 1, by omega, by first | rfl | simp, HN.out⟩)
            · have HV : Hid (encB l = false) := Lib.hid (hnot hl)
              have hh : ¬ (x.toNat = Y ∨ x.toNat + 32 = Y) := fun e => hl (hlow.2 (by omega))
              clear hlow hl hnext hnot hM
              go_wp2
              all_goals (try simp only [beq_eq_false_iff_ne, ne_eq] at *)
              all_goals first
                | (exfalso; omega)
                | (simp only [Exit.jump]; go_ret; exact ⟨by rw [HV.out]; rfl, Below.refl _ _⟩)
          · have hor128 : (128 : Int) ≤ ((x.toNat ||| Y : Nat) : Int) := by have := Nat.left_le_or (n := x.toNat) (m := Y); omega
            have HV : Hid (encB l = false) := Lib.hid (hnot fun e => by have := hlow.1 e; omega)
            have hU := HU.out
            have hx := hx128
            generalize l.drop (i + 1) = t at hU
            clear hlow hnext hnot hM
            have hx' : 128 ≤ x.toNat := by omega
            go_wp2
            go_step3
            refine ⟨rfl, hJ _ _ ?_⟩
            clear hJ
            have hisz : (i : Int) ≤ (l.length : Int) := by omega
            have hi3' : (i : Int) ≤ 5 := by omega
            have hi0 : (0 : Int) ≤ (i : Int) := by omega
            have q4 : (bytes l).extract i l.length = bytes (l.drop i) := by rw [← hsz]; exact bytes_drop l i
            have q5 : (⟨#[117, 116, 102, 45, 56]⟩ : ByteArray).extract i 5 = bytes (utfL.drop i) := utf_cut ⟨i, hi3⟩
            have hT : (utfL.drop i)[0]? = some (UInt8.ofNat Y) := by
              rw [← hY]
              rcases five hi3 with rfl | rfl | rfl | rfl | rfl <;> rfl
            have hYu : (UInt8.ofNat Y).toNat = Y := by rw [UInt8.toNat_ofNat']; exact Nat.mod_eq_of_lt (by omega)
            have hfold : Y ∈ [45, 56, 70, 84, 85, 102, 116, 117] ∧ Y - 32 ∈ [45, 56, 70, 84, 85, 102, 116, 117] := by
              rcases hmem with rfl | rfl | rfl | rfl | rfl <;> first | decide | (exfalso; omega)
            generalize utfL.drop i = T at q5 hT
            generalize l.drop i = U at q4 hU
            obtain ⟨tn, htn, htn0⟩ : ∃ tn, (bytes T).size = tn ∧ 0 < tn := ⟨_, rfl, by
              rw [bytes_len]
              cases T with
              | nil => cases hT
              | cons a t => simp⟩
            have HTC := Lib.hid (fun W => Tryz.decode_laid (bytes T) (UInt8.ofNat Y) W hT (by rw [hYu]; omega))
            rw [hYu] at HTC
            have hd : 128 ≤ (Utf8.decode (bytes U) 0).1 := by
              rw [← Lib.decodeL_drop, List.drop_zero]
              show 128 ≤ (Lib.decodeL U).1
              rw [hU]
              exact (decodeL_high (by simp) (by show 128 ≤ x.toNat; omega)).1
            have hU0 : 0 < (bytes U).size := by rw [bytes_len, hU]; simp
            obtain ⟨r, hr⟩ : ∃ r : Nat, (Utf8.decode (bytes U) 0).1 = r := ⟨_, rfl⟩
            obtain ⟨k, hk⟩ : ∃ k : Nat, (Utf8.decode (bytes U) 0).2 = k := ⟨_, rfl⟩
            have hnx : ∀ ty, (Instr.next (.pointer (some ⟨w.heap.size, 0, none⟩)) true ty).run Tryz.prog (w.iter (bytes U) 0) = _ := fun ty => run_next_any w (bytes U) 0 ty hU0
            simp only [hr, hk] at hnx
            rw [hr] at hd
            have HB := Lib.hid (iter_below w (bytes U) k)
            have cS1 : ∀ W, Below w.heap.size w W → Calls Tryz.prog 71 #[.int .i32 (Y : Int)] W fun e w' => e = .returned (.int .i32 ((Y - 32 : Nat) : Int)) ∧ W = w' := fun W hb => by
              have c := simpleFold_d n Y W (HE.out.stay (hb.mono hn)) hfold.1
              rw [if_neg (by omega), if_neg (by omega), show (Y : Int) - 32 = ((Y - 32 : Nat) : Int) by omega] at c
              exact c
            have cS2 : ∀ W, Below w.heap.size w W → Calls Tryz.prog 71 #[.int .i32 ((Y - 32 : Nat) : Int)] W fun e w' => e = .returned (.int .i32 (Y : Int)) ∧ W = w' := fun W hb => by
              have c := simpleFold_d n (Y - 32) W (HE.out.stay (hb.mono hn)) hfold.2
              rw [if_neg (by omega), if_pos (by omega), show ((Y - 32 : Nat) : Int) + 32 = (Y : Int) by omega] at c
              exact c
            have CS1 := Lib.hid (cS1 _ HB.out)
            have CS2 := Lib.hid (cS2 _ HB.out)
            obtain ⟨Z, hZ⟩ : ∃ Z, Y - 32 = Z := ⟨_, rfl⟩
            rw [hZ] at CS1 CS2
            have hz1 : Z < Y := by omega
            clear hr hk hU hU0 hT hYu hfold hY hZ cS1 cS2 hmem hM1 hM2 hM3 hs hx hx128 hx256 hor hor128 hyn
            go_wp2
            go_loopw [1] (fun tv wr => tv = .string (bytes T) ∧ wr = w.iter (bytes U) 0) (fun _ _ => 0)
            case atStart => exact ⟨rfl, rfl⟩
            case round =>
              obtain ⟨rfl, rfl⟩ := hrel
              have b1 : ((Y : Int) == (r : Int)) = false := beq_eq_false_iff_ne.2 (by omega)
              have b2 : decide ((Y : Int) < (r : Int)) = true := decide_eq_true (by omega)
              have b3 : decide ((r : Int) < 128) = false := decide_eq_false (by omega)
              have b4 : decide ((Z : Int) < (r : Int)) = true := decide_eq_true (by omega)
              have b5 : ((Z : Int) == (Y : Int)) = false := beq_eq_false_iff_ne.2 (by omega)
              have b6 : ((tn : Int) == 0) = false := beq_eq_false_iff_ne.2 (by omega)
              have b7 : (1 : Int) ≤ (tn : Int) := by omega
              go_wp2_with (first
                | (go_at_call 70; refine (HTC.out _).mono ?_; rintro e w2 ⟨rfl, rfl⟩)
                | (go_at_call 71; refine CS1.out.mono ?_; rintro e w2 ⟨rfl, rfl⟩))
              go_loopw [13] (fun v wr => wr = w.iter (bytes U) k ∧ (v = .int .i32 (Z : Int) ∨ v = .int .i32 (Y : Int))) (fun v _ => 200 - (intOf v).toNat)
              case atStart => exact ⟨rfl, Or.inl rfl⟩
              case round =>
                obtain ⟨rfl, rfl | rfl⟩ := hrel
                · go_wp2_with (go_at_call 71; refine CS2.out.mono ?_; rintro e w2 ⟨rfl, rfl⟩)
                  all_goals first
                    | (exfalso; omega)
                    | (go_roundw
                       case rel => exact ⟨trivial, Or.inr rfl⟩
                       case measure => simp [intOf]; omega)
                    | (simp only [Exit.noGoto]
                       go_ret
                       exact ⟨by rw [HV.out]; rfl, HB.out⟩)
                · go_wp2
                  simp only [Exit.noGoto]
                  go_ret
                  exact ⟨by rw [HV.out]; rfl, HB.out⟩
        · have hyn : y.toNat = Y := hyn0
          clear hyn0 hxl
          have hx256 := x.toNat_lt
          have hor : bits .or .u8 (x.toNat : Int) (Y : Int) = ((x.toNat ||| Y : Nat) : Int) := u8_or_nat _ _ (by omega) (by omega)
          by_cases hx128 : x.toNat < 128
          · have hor128 : ¬ ((128 : Int) ≤ ((x.toNat ||| Y : Nat) : Int)) := by have := Nat.or_lt_two_pow (n := 7) hx128 (show Y < 2 ^ 7 by omega); omega
            by_cases hl : lowU x = UInt8.ofNat Y
            · have HN := Lib.hid (hnext hl)
              have hh := hlow.1 hl
              clear hlow hl hnext hnot hM
              go_wp2
              all_goals (try simp only [beq_iff_eq] at *)
              all_goals first
                | (exfalso; omega)
                | (go_roundg g
                   case measure => omega
                   case rel => exact ⟨rfl, i + 1, by omega, by first | rfl | simp, HN.out⟩)
            · have HV : Hid (encB l = false) := Lib.hid (hnot hl)
              have hh : ¬ (x.toNat = Y) := fun e => hl (hlow.2 (by omega))
              clear hlow hl hnext hnot hM
              go_wp2
              all_goals (try simp only [beq_eq_false_iff_ne, ne_eq] at *)
              all_goals first
                | (exfalso; omega)
                | (simp only [Exit.jump]; go_ret; exact ⟨by rw [HV.out]; rfl, Below.refl _ _⟩)
          · have hor128 : (128 : Int) ≤ ((x.toNat ||| Y : Nat) : Int) := by have := Nat.left_le_or (n := x.toNat) (m := Y); omega
            have HV : Hid (encB l = false) := Lib.hid (hnot fun e => by have := hlow.1 e; omega)
            have hU := HU.out
            have hx := hx128
            generalize l.drop (i + 1) = t at hU
            clear hlow hnext hnot hM
            have hx' : 128 ≤ x.toNat := by omega
            go_wp2
            go_step3
            refine ⟨rfl, hJ _ _ ?_⟩
            clear hJ
            have hisz : (i : Int) ≤ (l.length : Int) := by omega
            have hi3' : (i : Int) ≤ 5 := by omega
            have hi0 : (0 : Int) ≤ (i : Int) := by omega
            have q4 : (bytes l).extract i l.length = bytes (l.drop i) := by rw [← hsz]; exact bytes_drop l i
            have q5 : (⟨#[117, 116, 102, 45, 56]⟩ : ByteArray).extract i 5 = bytes (utfL.drop i) := utf_cut ⟨i, hi3⟩
            have hT : (utfL.drop i)[0]? = some (UInt8.ofNat Y) := by
              rw [← hY]
              rcases five hi3 with rfl | rfl | rfl | rfl | rfl <;> rfl
            have hYu : (UInt8.ofNat Y).toNat = Y := by rw [UInt8.toNat_ofNat']; exact Nat.mod_eq_of_lt (by omega)
            have hfold : Y ∈ [45, 56, 70, 84, 85, 102, 116, 117] := by
              rcases hmem with rfl | rfl | rfl | rfl | rfl <;> first | decide | (exfalso; omega)
            generalize utfL.drop i = T at q5 hT
            generalize l.drop i = U at q4 hU
            obtain ⟨tn, htn, htn0⟩ : ∃ tn, (bytes T).size = tn ∧ 0 < tn := ⟨_, rfl, by
              rw [bytes_len]
              cases T with
              | nil => cases hT
              | cons a t => simp⟩
            have HTC := Lib.hid (fun W => Tryz.decode_laid (bytes T) (UInt8.ofNat Y) W hT (by rw [hYu]; omega))
            rw [hYu] at HTC
            have hd : 128 ≤ (Utf8.decode (bytes U) 0).1 := by
              rw [← Lib.decodeL_drop, List.drop_zero]
              show 128 ≤ (Lib.decodeL U).1
              rw [hU]
              exact (decodeL_high (by simp) (by show 128 ≤ x.toNat; omega)).1
            have hU0 : 0 < (bytes U).size := by rw [bytes_len, hU]; simp
            obtain ⟨r, hr⟩ : ∃ r : Nat, (Utf8.decode (bytes U) 0).1 = r := ⟨_, rfl⟩
            obtain ⟨k, hk⟩ : ∃ k : Nat, (Utf8.decode (bytes U) 0).2 = k := ⟨_, rfl⟩
            have hnx : ∀ ty, (Instr.next (.pointer (some ⟨w.heap.size, 0, none⟩)) true ty).run Tryz.prog (w.iter (bytes U) 0) = _ := fun ty => run_next_any w (bytes U) 0 ty hU0
            simp only [hr, hk] at hnx
            rw [hr] at hd
            have HB := Lib.hid (iter_below w (bytes U) k)
            have cS1 : ∀ W, Below w.heap.size w W → Calls Tryz.prog 71 #[.int .i32 (Y : Int)] W fun e w' => e = .returned (.int .i32 (Y : Int)) ∧ W = w' := fun W hb => by
              have c := simpleFold_d n Y W (HE.out.stay (hb.mono hn)) hfold
              rw [if_pos (by omega)] at c
              exact c
            have CS1 := Lib.hid (cS1 _ HB.out)
            clear hr hk hU hU0 hT hYu hfold hY cS1 hmem hM1 hM2 hM3 hs hx hx128 hx256 hor hor128 hyn
            go_wp2
            go_loopw [1] (fun tv wr => tv = .string (bytes T) ∧ wr = w.iter (bytes U) 0) (fun _ _ => 0)
            case atStart => exact ⟨rfl, rfl⟩
            case round =>
              obtain ⟨rfl, rfl⟩ := hrel
              have b1 : ((Y : Int) == (r : Int)) = false := beq_eq_false_iff_ne.2 (by omega)
              have b2 : decide ((Y : Int) < (r : Int)) = true := decide_eq_true (by omega)
              have b3 : decide ((r : Int) < 128) = false := decide_eq_false (by omega)
              have b6 : ((tn : Int) == 0) = false := beq_eq_false_iff_ne.2 (by omega)
              have b7 : (1 : Int) ≤ (tn : Int) := by omega
              go_wp2_with (first
                | (go_at_call 70; refine (HTC.out _).mono ?_; rintro e w2 ⟨rfl, rfl⟩)
                | (go_at_call 71; refine CS1.out.mono ?_; rintro e w2 ⟨rfl, rfl⟩))
              go_loopw [13] (fun v wr => wr = w.iter (bytes U) k ∧ v = .int .i32 (Y : Int)) (fun _ _ => 0)
              case atStart => exact ⟨rfl, rfl⟩
              case round =>
                obtain ⟨rfl, rfl⟩ := hrel
                go_wp2
                simp only [Exit.noGoto]
                go_ret
                exact ⟨by rw [HV.out]; rfl, HB.out⟩
theorem encoding_s (n : Nat) : PredS n 36 encB := fun W x hE hn hx => by
  have C := foldD_any n x W hE hn hx
  clear hE
  generalize encB x = z at *
  go_enter Tryz.func36, Tryz.ntmps36
  go_wp2_with (go_at_call 51; refine C.mono ?_; rintro e w1 ⟨rfl, hb⟩)
  go_ret
  exact ⟨rfl, hb⟩
end Go.Proofs.YtmecigainilocaaGreatDoor

namespace Go.Proofs.YtmecigainilocaaGreatDoor
open Go.RowKit

theorem trim_no (m l : List UInt8) (h : swB m l = false) (w : World) : Calls Tryz.prog 50 #[.string (bytes l), .string (bytes m)] w fun e w' => e = .returned (.tuple #[.string (bytes l), .bool false]) ∧ w' = w := by
  have c := Tryz.cutPrefix_laid (bytes l) (bytes m) w
  have e1 : Lib.hasPrefix (bytes l).data.toList (bytes m).data.toList = false := h
  have e2 : Lib.trimPrefix (bytes l).data.toList (bytes m).data.toList = l := by unfold Lib.trimPrefix; rw [e1]; rfl
  rw [e1, e2] at c
  exact c
theorem trim_yes (m l : List UInt8) (h : swB m l = true) (w : World) : Calls Tryz.prog 50 #[.string (bytes l), .string (bytes m)] w fun e w' => e = .returned (.tuple #[.string (bytes (l.drop m.length)), .bool true]) ∧ w' = w := by
  have c := Tryz.cutPrefix_laid (bytes l) (bytes m) w
  have e1 : Lib.hasPrefix (bytes l).data.toList (bytes m).data.toList = true := h
  have e2 : Lib.trimPrefix (bytes l).data.toList (bytes m).data.toList = l.drop m.length := by unfold Lib.trimPrefix; rw [e1]; rfl
  rw [e1, e2] at c
  exact c
/-- what version's loop knows of the digits ahead of pos -/
def VerK (b0 : Bool) (d : List UInt8) (pos : Nat) : Bool := b0 && (d.take pos).all digD
theorem verK_step (b0 : Bool) (d : List UInt8) (pos : Nat) (hlt : pos < d.length) : VerK b0 d (pos + (Lib.decodeL (d.drop pos)).2) = (VerK b0 d pos && (decide (48 ≤ (Lib.decodeL (d.drop pos)).1) && decide ((Lib.decodeL (d.drop pos)).1 ≤ 57))) := by
  obtain ⟨hw, hwl, hr⟩ := rune_at d pos hlt
  generalize (Lib.decodeL (d.drop pos)).1 = r at *
  generalize (Lib.decodeL (d.drop pos)).2 = k at *
  unfold VerK
  have hsp : d.take (pos + k) = d.take pos ++ (d.drop pos).take k := by rw [List.take_add]
  rw [hsp, List.all_append, Bool.and_assoc]
  congr 1
  congr 1
  rcases hr with ⟨b, hb, hb2, h128, rfl⟩ | ⟨h128, hall⟩
  · have e : (d.drop pos).take 1 = [b] := by
      have hb0 : (d.drop pos)[0]? = some b := by rw [List.getElem?_drop, Nat.add_zero]; exact hb
      cases hd : d.drop pos with
      | nil => rw [hd] at hb0; cases hb0
      | cons x t =>
        rw [hd] at hb0
        simp only [List.getElem?_cons_zero, Option.some.injEq] at hb0
        rw [hb0]; rfl
    rw [e]
    show (digD b && true) = _
    unfold digD
    rw [hb2, Bool.and_true, Bool.eq_iff_iff]
    simp
  · obtain ⟨b, hb, hb2⟩ := hall pos (Nat.le_refl _) (by omega)
    have hf : ((d.drop pos).take k).all digD = false := by
      rw [List.all_eq_false]
      refine ⟨b, ?_, ?_⟩
      · refine List.mem_iff_getElem?.2 ⟨0, ?_⟩
        rw [List.getElem?_take, if_pos (by omega), List.getElem?_drop, Nat.add_zero]
        exact hb
      · unfold digD
        simp
        omega
    rw [hf, decide_eq_false (show ¬ r ≤ 57 by omega), Bool.and_false]
set_option maxHeartbeats 2000000 in
set_option maxRecDepth 100000 in
theorem verLoop_s (d : List UInt8) (b0 : Bool) (v : Bool) (hv : v = (VerK b0 d d.length && decide (d ≠ []))) (l : List UInt8) (W : World)
    (hc : ∀ W, Calls Tryz.prog 50 #[.string (bytes l), .string ⟨#[49, 46]⟩] W fun e w' => e = .returned (.tuple #[.string (bytes d), .bool b0]) ∧ w' = W) :
    Calls Tryz.prog 34 #[.string (bytes l)] W fun e W' => e = .returned (.bool v) ∧ Below W.heap.size W W' := by
  have CC := Lib.hid (hc W)
  have hlz : (bytes d).size = d.length := bytes_len d
  have HV := Lib.hid hv
  clear hc hv
  go_enter Tryz.func34, Tryz.ntmps34
  go_wp2_with (go_at_call 50; refine CC.out.mono ?_; rintro e w' ⟨rfl, rfl⟩)
  go_loopw [4] (fun bv wr => ∃ pos : Nat, wr = w'.iter (bytes d) pos ∧ pos ≤ d.length ∧ bv = .bool (VerK b0 d pos)) (fun _ wr => d.length - wr.iterPos w'.heap.size)
  case atStart => exact ⟨0, rfl, Nat.zero_le _, by unfold VerK; rw [List.take_zero]; simp⟩
  case round =>
    obtain ⟨pos, rfl, hpl, rfl⟩ := hrel
    have HB : Hid (∀ p, Below w'.heap.size w' (w'.iter (bytes d) p)) := Lib.hid (fun p => iter_below w' (bytes d) p)
    by_cases hlt : pos < d.length
    · have hnx : ∀ ty, (Instr.next (.pointer (some ⟨w'.heap.size, 0, none⟩)) true ty).run Tryz.prog (w'.iter (bytes d) pos) = _ := fun ty => run_next_any w' (bytes d) pos ty (by rw [hlz]; exact hlt)
      obtain ⟨hw, hwl, _⟩ := rune_at d pos hlt
      have hst := verK_step b0 d pos hlt
      rw [show Lib.decodeL (d.drop pos) = Utf8.decode (bytes d) pos from Lib.decodeL_drop (bytes d) pos] at hw hwl hst
      obtain ⟨r, hr⟩ : ∃ r : Nat, (Utf8.decode (bytes d) pos).1 = r := ⟨_, rfl⟩
      obtain ⟨k, hk⟩ : ∃ k : Nat, (Utf8.decode (bytes d) pos).2 = k := ⟨_, rfl⟩
      simp only [hr, hk] at hnx hw hwl hst
      have HME : Hid (∀ p, (w'.iter (bytes d) p).iterPos w'.heap.size = p) := Lib.hid (fun p => World.iterPos_iter w' (bytes d) p)
      obtain ⟨y1, hy1⟩ : ∃ y, decide (48 ≤ r) = y := ⟨_, rfl⟩
      obtain ⟨y2, hy2⟩ : ∃ y, decide (r ≤ 57) = y := ⟨_, rfl⟩
      have g1 : decide ((48 : Int) ≤ (r : Int)) = y1 := by rw [← hy1]; exact decide_eq_decide.2 (by omega)
      have g2 : decide ((r : Int) ≤ 57) = y2 := by rw [← hy2]; exact decide_eq_decide.2 (by omega)
      rw [hy1, hy2] at hst
      have HST := Lib.hid hst
      clear hr hk hst hy1 hy2 HV CC
      generalize VerK b0 d pos = z at *
      cases z with
      | false =>
        go_wp2
        go_roundw
        case rel => exact ⟨pos + k, rfl, hwl, by rw [HST.out]; rfl⟩
        case measure => have := HME.out; simp only [this]; omega
      | true =>
        cases y1 with
        | false =>
          go_wp2
          go_roundw
          case rel => exact ⟨pos + k, rfl, hwl, by rw [HST.out]; rfl⟩
          case measure => have := HME.out; simp only [this]; omega
        | true =>
          go_wp2
          go_roundw
          case rel => exact ⟨pos + k, rfl, hwl, by rw [HST.out]; rfl⟩
          case measure => have := HME.out; simp only [this]; omega
    · have hnx : ∀ ty, (Instr.next (.pointer (some ⟨w'.heap.size, 0, none⟩)) true ty).run Tryz.prog (w'.iter (bytes d) pos) = _ := fun ty => run_next_end w' (bytes d) pos ty (by rw [hlz]; exact hlt)
      obtain rfl : pos = d.length := by omega
      obtain ⟨x, hx⟩ : ∃ x, (bytes d).toList.isEmpty = x := ⟨_, rfl⟩
      have HX : Hid (decide (d ≠ []) = !x) := Lib.hid (by rw [← hx, Lib.toList_data, bytes_list]; cases d <;> simp)
      have HV2 := Lib.hid (HV.out.trans (by rw [HX.out]))
      generalize VerK b0 d d.length = z at *
      clear HV HX CC
      cases z
      all_goals
        (go_wp2
         go_ret
         exact ⟨by rw [HV2.out]; rfl, HB.out _⟩)
theorem version_s (n : Nat) : PredS n 34 verB := fun W x _ _ _ => by
  cases hm : swB [49, 46] x with
  | false => exact verLoop_s x false _ (by unfold verB VerK; rw [hm]; rfl) x W (fun W => trim_no [49, 46] x hm W)
  | true => exact verLoop_s (x.drop 2) true _ (by unfold verB VerK; rw [hm, List.take_length, Bool.and_comm (decide _)]; rfl) x W (fun W => trim_yes [49, 46] x hm W)
set_option maxHeartbeats 1000000 in
theorem standalone_s (n : Nat) : PredS n 38 staB := fun W x _ _ _ => by
  obtain ⟨z, hz⟩ : ∃ z, decide (x = [121, 101, 115]) = z := ⟨_, rfl⟩
  obtain ⟨y, hy⟩ : ∃ y, decide (x = [110, 111]) = y := ⟨_, rfl⟩
  have e1 : ((bytes x).toList == [121, 101, 115]) = z := by rw [Lib.toList_data, bytes_list, ← hz, Bool.eq_iff_iff]; simp
  have e2 : ((bytes x).toList == [110, 111]) = y := by rw [Lib.toList_data, bytes_list, ← hy, Bool.eq_iff_iff]; simp
  have HV : Hid (staB x = (z || y)) := Lib.hid (by unfold staB; rw [hz, hy])
  clear hz hy
  cases z
  all_goals
    (go_enter Tryz.func38, Tryz.ntmps38
     go_wp2
     go_ret
     exact ⟨by rw [HV.out]; rfl, Below.refl _ _⟩)
theorem enter_version : ∀ args w, (callFunc 34 args).run Tryz.prog w = .ok (.enter 34 args) w := enters_of Tryz.func34 (by kernel_rfl) rfl
theorem enter_encoding : ∀ args w, (callFunc 36 args).run Tryz.prog w = .ok (.enter 36 args) w := enters_of Tryz.func36 (by kernel_rfl) rfl
theorem enter_standalone : ∀ args w, (callFunc 38 args).run Tryz.prog w = .ok (.enter 38 args) w := enters_of Tryz.func38 (by kernel_rfl) rfl
theorem enter_sett1 : ∀ args w, (callFunc 35 args).run Tryz.prog w = .ok (.enter 35 args) w := enters_of Tryz.func35 (by kernel_rfl) rfl
theorem enter_sett2 : ∀ args w, (callFunc 37 args).run Tryz.prog w = .ok (.enter 37 args) w := enters_of Tryz.func37 (by kernel_rfl) rfl
section
variable {c : Rd} {w0 w w' : World} {l l' : List UInt8}
/-- what lies elsewhere stays -/
theorem DR.cellOf (h : DR c w w' l) {p : Addr} {v : Value} (hv : w.cell? p = some v) (hp : p.block ≠ c.b) : w'.cell? p = some v := by
  have hb := h.since.block p.block (World.block_lt_of_cell? _ _ hv) hp
  rw [← hv]
  unfold World.cell?
  rw [hb]
theorem GiveB.from {d : Option (List UInt8)} {e : Ending} (h : DR c w0 w l) (hg : GiveB c w d e w') : GiveB c w0 d e w' := by
  rcases hg with ⟨h1, l', h2, h3⟩ | ⟨r, h1, h2, h3⟩
  · exact Or.inl ⟨h1, l', h2, h.from h3⟩
  · exact Or.inr ⟨r, h1, h2, h.from h3⟩
theorem perhapsB_d (f : List UInt8 → Option (List UInt8)) (g : Nat) (lb : Array Value) (eg : ∀ args w, (callFunc g args).run Tryz.prog w = .ok (.enter g args) w) (h : DR c w0 w l) (hp : Calls Tryz.prog g lb w (GiveB c w0 (f l))) :
    Calls Tryz.prog 27 #[.pointer (some ⟨c.b, 0, none⟩), .func (.func g) #[] lb] w fun e w' => (∃ z, e = .returned (.bool z)) ∧ DR c w0 w' (perL f l) := by
  have C := perhaps_d (fun is l' _ => (is = true ∧ f l = some l') ∨ (is = false ∧ f l = none)) g lb eg h (hp.mono fun e w' hg => by
    rcases hg with ⟨h1, l', h2, h3⟩ | ⟨r, h1, h2, h3⟩
    · exact ⟨false, l', h2, h3, Or.inr ⟨rfl, h1⟩⟩
    · exact ⟨true, r, h2, h3, Or.inl ⟨rfl, h1⟩⟩)
  refine C.mono fun e w' hg => ?_
  unfold perL
  rcases hg with ⟨l', h1, h2, h3⟩ | ⟨l', W, h1, h2, h3, _⟩
  · rcases h3 with ⟨_, h4⟩ | ⟨h4, _⟩
    · rw [h4]; exact ⟨⟨true, h1⟩, h2⟩
    · cases h4
  · rcases h3 with ⟨h4, _⟩ | ⟨_, h4⟩
    · cases h4
    · rw [h4]; exact ⟨⟨false, h1⟩, h2⟩
set_option maxHeartbeats 1000000 in
theorem sett1_d (B : Nat) (h : DR c w w l) (hB : w.cell? ⟨B, 0, none⟩ = some (.pointer (some ⟨c.b, 0, none⟩))) (hBb : B ≠ c.b) :
    Calls Tryz.prog 35 #[.pointer (some ⟨B, 0, none⟩)] w (GiveB c w ((spcL l).bind (setL encodingW encB))) := by
  have HK := Lib.hid (fun w' l' (h' : DR c w w' l') => h'.cellOf (p := ⟨B, 0, none⟩) hB hBb)
  by_cases hg : gapL l = 0
  · have CS := Lib.hid (space_n h hg)
    have HN : Hid ((spcL l).bind (setL encodingW encB) = none) := Lib.hid (by rw [spc_none hg]; rfl)
    clear h
    go_enter Tryz.func35, Tryz.ntmps35
    go_wp2_with fail
    refine CS.out.mono ?_
    rintro e w1 ⟨rfl, h1⟩
    have H1 := Lib.hid h1
    clear CS h1
    go_wp2
    go_ret
    exact giveB_no HN.out H1.out
  · have CS := Lib.hid (space_y h hg)
    have HN : Hid ((spcL l).bind (setL encodingW encB) = setL encodingW encB (mayL l)) := Lib.hid (by rw [spc_some hg]; rfl)
    clear h
    go_enter Tryz.func35, Tryz.ntmps35
    go_wp2_with fail
    refine CS.out.mono ?_
    rintro e w1 ⟨rfl, h1⟩
    have k1 := HK.out w1 _ h1
    have CE := Lib.hid (setting_d encodingW (by decide) encB _ enter_encoding h1 (encoding_s c.n))
    clear CS h1
    go_wp2_with fail
    refine CE.out.mono ?_
    rintro e w2 (⟨hn, l', rfl, h2⟩ | ⟨r, hn, rfl, h2⟩)
    · have HN2 := Lib.hid (HN.out.trans hn)
      have H2 := Lib.hid h2
      clear CE h2 hn HN
      go_wp2
      go_ret
      exact giveB_no HN2.out H2.out
    · have HN2 := Lib.hid (HN.out.trans hn)
      have H2 := Lib.hid h2
      clear CE h2 hn HN
      go_wp2
      go_ret
      exact giveB_yes HN2.out H2.out
set_option maxHeartbeats 1000000 in
theorem sett2_d (B : Nat) (h : DR c w w l) (hB : w.cell? ⟨B, 0, none⟩ = some (.pointer (some ⟨c.b, 0, none⟩))) (hBb : B ≠ c.b) :
    Calls Tryz.prog 37 #[.pointer (some ⟨B, 0, none⟩)] w (GiveB c w ((spcL l).bind (setL standaloneW staB))) := by
  have HK := Lib.hid (fun w' l' (h' : DR c w w' l') => h'.cellOf (p := ⟨B, 0, none⟩) hB hBb)
  by_cases hg : gapL l = 0
  · have CS := Lib.hid (space_n h hg)
    have HN : Hid ((spcL l).bind (setL standaloneW staB) = none) := Lib.hid (by rw [spc_none hg]; rfl)
    clear h
    go_enter Tryz.func37, Tryz.ntmps37
    go_wp2_with fail
    refine CS.out.mono ?_
    rintro e w1 ⟨rfl, h1⟩
    have H1 := Lib.hid h1
    clear CS h1
    go_wp2
    go_ret
    exact giveB_no HN.out H1.out
  · have CS := Lib.hid (space_y h hg)
    have HN : Hid ((spcL l).bind (setL standaloneW staB) = setL standaloneW staB (mayL l)) := Lib.hid (by rw [spc_some hg]; rfl)
    clear h
    go_enter Tryz.func37, Tryz.ntmps37
    go_wp2_with fail
    refine CS.out.mono ?_
    rintro e w1 ⟨rfl, h1⟩
    have k1 := HK.out w1 _ h1
    have CE := Lib.hid (setting_d standaloneW (by decide) staB _ enter_standalone h1 (standalone_s c.n))
    clear CS h1
    go_wp2_with fail
    refine CE.out.mono ?_
    rintro e w2 (⟨hn, l', rfl, h2⟩ | ⟨r, hn, rfl, h2⟩)
    · have HN2 := Lib.hid (HN.out.trans hn)
      have H2 := Lib.hid h2
      clear CE h2 hn HN
      go_wp2
      go_ret
      exact giveB_no HN2.out H2.out
    · have HN2 := Lib.hid (HN.out.trans hn)
      have H2 := Lib.hid h2
      clear CE h2 hn HN
      go_wp2
      go_ret
      exact giveB_yes HN2.out H2.out
set_option maxHeartbeats 2000000 in
set_option maxRecDepth 100000 in
theorem settings_d (h : DR c w0 w l) : Calls Tryz.prog 19 #[.pointer (some ⟨c.b, 0, none⟩)] w (GiveB c w0 (setsL l)) := by
  have hB : (w.alloc (.cells #[.pointer (some ⟨c.b, 0, none⟩)] 73)).cell? ⟨w.heap.size, 0, none⟩ = some (.pointer (some ⟨c.b, 0, none⟩)) := cell_one_new _ _ _ 0 _ rfl
  have hBb : w.heap.size ≠ c.b := by have := h.rd.lt; omega
  have HF := Lib.hid (fun w' l' (h' : DR c (w.alloc (.cells #[.pointer (some ⟨c.b, 0, none⟩)] 73)) w' l') => (h.alloc (.cells #[.pointer (some ⟨c.b, 0, none⟩)] 73)).from h')
  have H0 := Lib.hid ((h.alloc (.cells #[.pointer (some ⟨c.b, 0, none⟩)] 73)).start)
  have HK := Lib.hid (fun w' l' (h' : DR c (w.alloc (.cells #[.pointer (some ⟨c.b, 0, none⟩)] 73)) w' l') => h'.cellOf (p := ⟨w.heap.size, 0, none⟩) hB hBb)
  have CE := Lib.hid (setting_d versionW (by decide) verB _ enter_version H0.out (version_s c.n))
  clear h
  go_enter Tryz.func19, Tryz.ntmps19
  go_wp2_with fail
  refine CE.out.mono ?_
  rintro e w1 (⟨hn, l', rfl, h1⟩ | ⟨r, hn, rfl, h1⟩)
  · have HN : Hid (setsL l = none) := Lib.hid (by unfold setsL; rw [hn]; rfl)
    have H1 := Lib.hid (HF.out _ _ h1)
    clear CE h1 hn H0 hB
    go_wp2
    go_ret
    exact giveB_no HN.out H1.out
  · have HN : Hid (setsL l = markL [63, 62] (mayL (perL (fun x => (spcL x).bind (setL standaloneW staB)) (perL (fun x => (spcL x).bind (setL encodingW encB)) r)))) := Lib.hid (by unfold setsL; rw [hn]; rfl)
    have k1 := HK.out _ _ h1
    have C1 := Lib.hid (perhapsB_d (fun x => (spcL x).bind (setL encodingW encB)) _ #[.pointer (some ⟨w.heap.size, 0, none⟩)] enter_sett1 h1 ((sett1_d w.heap.size h1.start k1 hBb).mono fun _ _ hg => hg.from h1))
    clear CE h1 hn H0 hB
    generalize perL (fun x => (spcL x).bind (setL encodingW encB)) r = q1 at *
    go_wp2_with fail
    refine C1.out.mono ?_
    rintro e w2 ⟨⟨z2, rfl⟩, h2⟩
    have k2 := HK.out _ _ h2
    have C2 := Lib.hid (perhapsB_d (fun x => (spcL x).bind (setL standaloneW staB)) _ #[.pointer (some ⟨w.heap.size, 0, none⟩)] enter_sett2 h2 ((sett2_d w.heap.size h2.start k2 hBb).mono fun _ _ hg => hg.from h2))
    clear C1 h2 k1
    generalize perL (fun x => (spcL x).bind (setL standaloneW staB)) q1 = q2 at *
    go_wp2_with fail
    refine C2.out.mono ?_
    rintro e w3 ⟨⟨z3, rfl⟩, h3⟩
    have k3 := HK.out _ _ h3
    have C3 := Lib.hid (space_may h3)
    clear C2 h3 k2
    generalize mayL q2 = q3 at *
    go_wp2_with fail
    refine C3.out.mono ?_
    rintro e w4 ⟨⟨z4, rfl⟩, h4⟩
    have k4 := HK.out _ _ h4
    have H4 := Lib.hid h4
    clear C3 h4 k3
    cases hm : swB [63, 62] q3 with
    | false =>
      have C4 := Lib.hid (take_n [63, 62] H4.out (by decide) hm)
      have HN2 : Hid (setsL l = none) := Lib.hid (by rw [HN.out, mark_none hm])
      clear hm H4 HN
      go_wp2_with fail
      refine C4.out.mono ?_
      rintro e w5 ⟨rfl, h5⟩
      have H5 := Lib.hid (HF.out _ _ h5)
      clear C4 h5
      go_wp2
      go_ret
      exact giveB_no HN2.out H5.out
    | true =>
      have C4 := Lib.hid (take_y [63, 62] H4.out (by decide) hm)
      have HN2 : Hid (setsL l = some (q3.drop 2)) := Lib.hid (by rw [HN.out, mark_some hm]; rfl)
      clear hm H4 HN
      go_wp2_with fail
      refine C4.out.mono ?_
      rintro e w5 ⟨rfl, h5⟩
      have H5 := Lib.hid (HF.out _ _ h5)
      clear C4 h5
      go_wp2
      go_ret
      exact giveB_yes HN2.out H5.out
/-- XML -/
def xmlC (n : Nat) (w : World) (s : List UInt8) : Rd := ⟨n, w.heap.size, 52, 2, fun _ => .bool false, s⟩
theorem xml_start (n : Nat) (s : List UInt8) (w : World) (hE : DE n w) (hn : n ≤ w.heap.size) (hs : s.length ≤ 100000) : DR (xmlC n w s) (w.alloc (.cells #[.string (bytes s), .int .i64 0] 52)) (w.alloc (.cells #[.string (bytes s), .int .i64 0] 52)) s := by
  have hb := (Below.refl w.heap.size w).alloc (Nat.le_refl _) (.cells #[.string (bytes s), .int .i64 0] 52)
  have hr := World.rowIs_alloc w #[.string (bytes s), .int .i64 0] 52 ((xmlC n w s).v s) (by
    intro i hi
    rcases (show i = 0 ∨ i = 1 by have : i < 2 := hi; omega) with rfl | rfl
    · rfl
    · show some (Value.int .i64 0) = some (Value.int .i64 ((s.length - s.length : Nat) : Int))
      rw [Nat.sub_self]; rfl)
  exact ⟨hE.stay (hb.mono hn), hn, hr, Nat.le_refl 2, hr.lt, Turns.refl _ _, hs, List.suffix_refl _⟩
theorem xml_no {s : List UInt8} (h : xmlB s = none) : xmlT s = (0, 0) := by unfold xmlT; rw [h]
theorem xml_bad {s m : List UInt8} (h : xmlB s = some m) (h2 : setsL m = none) : xmlT s = (0, 2) := by unfold xmlT; rw [h]; show (match setsL m with | none => _ | some r => _) = _; rw [h2]
theorem xml_good {s m r : List UInt8} (h : xmlB s = some m) (h2 : setsL m = some r) : xmlT s = (((s.length - r.length : Nat) : Int), 0) := by unfold xmlT; rw [h]; show (match setsL m with | none => _ | some r => _) = _; rw [h2]
def XmlG (s : List UInt8) (w : World) (e : Ending) (w' : World) : Prop := e = .returned (.tuple #[.int .i64 (xmlT s).1, .int .i64 (xmlT s).2]) ∧ Below w.heap.size w w'
theorem xmlG_of {s : List UInt8} {a b : Int} {w w' : World} (h : xmlT s = (a, b)) (hb : Below w.heap.size w w') : XmlG s w (.returned (.tuple #[.int .i64 a, .int .i64 b])) w' := by
  unfold XmlG
  rw [h]
  exact ⟨rfl, hb⟩
set_option maxHeartbeats 2000000 in
set_option maxRecDepth 100000 in
theorem xml_any (n : Nat) (s : List UInt8) (w : World) (hE : DE n w) (hn : n ≤ w.heap.size) (hs : s.length ≤ 100000) : Calls Tryz.prog 11 #[.string (bytes s)] w (XmlG s w) := by
  have h := xml_start n s w hE hn hs
  have HB : Hid (∀ w' l', DR (xmlC n w s) (w.alloc (.cells #[.string (bytes s), .int .i64 0] 52)) w' l' → Below w.heap.size w w') := Lib.hid (fun w' l' h' =>
    ((Below.refl w.heap.size w).alloc (Nat.le_refl _) (.cells #[.string (bytes s), .int .i64 0] 52)).trans (h'.since.below (by rw [Deep.nblk_alloc]; omega) (fun k hk => by subst hk; exact Nat.le_refl _)))
  clear hE hn
  cases hm : swB [60, 63, 120, 109, 108] s with
  | false =>
    have CT := Lib.hid (take_n [60, 63, 120, 109, 108] h (by decide) hm)
    have HN : Hid (xmlT s = (0, 0)) := Lib.hid (xml_no (by unfold xmlB; rw [mark_none hm]; rfl))
    clear h hm
    go_enter Tryz.func11, Tryz.ntmps11
    go_wp2_with fail
    refine CT.out.mono ?_
    rintro e w1 ⟨rfl, h1⟩
    have H1 := Lib.hid h1
    clear CT h1
    go_wp2
    go_ret2
    exact xmlG_of HN.out (HB.out _ _ H1.out)
  | true =>
    have CT := Lib.hid (take_y [60, 63, 120, 109, 108] h (by decide) hm)
    have HN : Hid (xmlB s = spcL (s.drop 5)) := Lib.hid (by unfold xmlB; rw [mark_some hm]; rfl)
    clear h hm
    go_enter Tryz.func11, Tryz.ntmps11
    go_wp2_with fail
    refine CT.out.mono ?_
    rintro e w1 ⟨rfl, h1⟩
    replace h1 : DR (xmlC n w s) (w.alloc (.cells #[.string (bytes s), .int .i64 0] 52)) w1 (s.drop 5) := h1
    have H1 := Lib.hid h1
    clear CT h1
    by_cases hg : gapL (s.drop 5) = 0
    · have CS := Lib.hid (space_n H1.out hg)
      have HN2 : Hid (xmlT s = (0, 0)) := Lib.hid (xml_no (by rw [HN.out, spc_none hg]))
      clear hg H1 HN
      go_wp2_with fail
      refine CS.out.mono ?_
      rintro e w2 ⟨rfl, h2⟩
      have H2 := Lib.hid h2
      clear CS h2
      go_wp2
      go_ret2
      exact xmlG_of HN2.out (HB.out _ _ H2.out)
    · have CS := Lib.hid (space_y H1.out hg)
      have HN2 : Hid (xmlB s = some (mayL (s.drop 5))) := Lib.hid (by rw [HN.out, spc_some hg])
      clear hg H1 HN
      generalize mayL (s.drop 5) = m at *
      go_wp2_with fail
      refine CS.out.mono ?_
      rintro e w2 ⟨rfl, h2⟩
      have CE := Lib.hid (settings_d h2)
      clear CS h2
      go_wp2_with fail
      refine CE.out.mono ?_
      rintro e w3 (⟨hd, l', rfl, h3⟩ | ⟨r, hd, rfl, h3⟩)
      · have HN3 := Lib.hid (xml_bad HN2.out hd)
        have H3 := Lib.hid h3
        clear CE hd h3 HN2
        go_wp2
        go_ret2
        exact xmlG_of HN3.out (HB.out _ _ H3.out)
      · have HN3 := Lib.hid (xml_good HN2.out hd)
        have H3 := Lib.hid h3
        have k1 : w3.cell? ⟨w.heap.size, 1, none⟩ = some (.int .i64 ((s.length - r.length : Nat) : Int)) := h3.c1
        clear CE hd h3 HN2
        generalize s.length - r.length = a at *
        go_wp2
        go_ret2
        exact xmlG_of HN3.out (HB.out _ _ H3.out)
end
end Go.Proofs.YtmecigainilocaaGreatDoor
