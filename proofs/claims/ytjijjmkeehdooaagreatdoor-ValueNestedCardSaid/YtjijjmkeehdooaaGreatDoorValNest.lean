/-
  PLAIN MATHEMATICS FOR LAYER 13: entities within entities (ValueNested): what they come to, what they cost, with any room. And how much is spent at most (loop_cap).
-/
import Derived.Test.YtjijjmkeehdooaaGreatDoorValDefs
import Derived.Test.YtjijjmkeehdooaaGreatDoorRefsNm
namespace Go.Proofs.YtjijjmkeehdooaaGreatDoor
open Go Go.Lib

/-! ### no more than the room is spent -/
theorem step_cap {rec : RefD → List UInt8 → VRes} {most : Int} (hrec : ∀ r s, (rec r s).2.2.n ≤ max r.n most.toNat) (r : RefD) (x : List UInt8) : (stepV rec most r x).2.2.n ≤ max r.n most.toNat := by
  unfold stepV
  cases h5 : fiveL x with
  | some c => exact Nat.le_max_left _ _
  | none =>
    simp only
    by_cases h0 : (openT r x most).2 = 0
    · obtain ⟨_, _, hm, hS⟩ := open_ok h0
      rw [if_neg (by rw [h0]; decide), if_neg (by rw [h0]; decide)]
      have h := hrec (openS r x most) (openT r x most).1
      have hn : (openS r x most).n = r.n + (openT r x most).1.length := by rw [hS]
      rw [hn] at h
      have hle : (rec (openS r x most) (openT r x most).1).2.2.n ≤ max r.n most.toNat := by omega
      split
      · exact hle
      · show (closeS _ x).n ≤ _
        unfold closeS
        split <;> exact hle
    · obtain ⟨hS, _⟩ := open_no h0
      rw [hS]
      split
      · exact Nat.le_max_left _ _
      · exact Nat.le_max_left _ _
theorem loop_cap {rec : RefD → List UInt8 → VRes} {most : Int} (hrec : ∀ r s, (rec r s).2.2.n ≤ max r.n most.toNat) (ins : Bool) : ∀ (f : Nat) (out : List UInt8) (r : RefD) (s : List UInt8), (loopV rec most ins f out r s).2.2.n ≤ max r.n most.toNat
  | 0, _, _, _ => Nat.le_max_left _ _
  | f + 1, _, _, [] => Nat.le_max_left _ _
  | f + 1, out, r, b :: t => by
    unfold loopV
    split
    · exact Nat.le_max_left _ _
    · split
      · exact loop_cap hrec ins f _ _ _
      · cases hr : refL (b :: t) with
        | none => exact Nat.le_max_left _ _
        | some kn =>
          obtain ⟨k, n⟩ := kn
          simp only
          split
          · exact loop_cap hrec ins f _ _ _
          · have h1 := step_cap hrec r k.name.data.toList
            split
            · exact h1
            · have h2 := loop_cap hrec ins f (out ++ (stepV rec most r k.name.data.toList).1) (stepV rec most r k.name.data.toList).2.2 ((b :: t).drop n)
              omega
theorem valD_cap (most : Int) : ∀ (d : Nat) (r : RefD) (s : List UInt8), (valD most d r s).2.2.n ≤ max r.n most.toNat
  | 0, _, _ => Nat.le_max_left _ _
  | d + 1, r, s => loop_cap (valD_cap most d) true s.length [] r s
theorem rawV_cap (D : Nat) (r : RefD) (raw : List UInt8) (most : Int) (ins : Bool) : (rawV D r raw most ins).2.2.n ≤ max r.n most.toNat := loop_cap (valD_cap most D) ins raw.length [] r raw

/-! ### a reference of one letter -/
theorem letters13 : ∀ j : Fin 20, (UInt8.ofNat (97 + j.val) ≠ 59 ∧ UInt8.ofNat (97 + j.val) ≠ 35) ∧ ncL (nmL j.val) = true := of_decide_eq_true (by kernel_rfl)
def refN (i : Nat) : List UInt8 := 38 :: (nmL i ++ [59])
theorem refL_one {b : UInt8} (h59 : b ≠ 59) (h35 : b ≠ 35) (hnc : ncL [b] = true) (t : List UInt8) : refL (38 :: b :: 59 :: t) = some (⟨8, bytes [b], ⟨#[]⟩, [], false⟩, 3) := by
  have hf : findL [59] (38 :: b :: 59 :: t) = some 2 := by
    unfold findL
    rw [if_neg (by simp [swB])]
    unfold findL
    rw [if_neg (by simp [swB]; exact fun e => h59 e.symm)]
    unfold findL
    rw [if_pos (by simp [swB])]
    rfl
  unfold refL
  rw [hf]
  simp only [Option.bind_some]
  rw [if_neg (by simp [swB]; exact fun e => h35 e.symm)]
  exact if_pos hnc
theorem refL_letter (i : Nat) (hi : i < 20) (t : List UInt8) : refL (refN i ++ t) = some (⟨8, bytes (nmL i), ⟨#[]⟩, [], false⟩, 3) := by
  obtain ⟨⟨h59, h35⟩, hnc⟩ := letters13 ⟨i, hi⟩
  exact refL_one h59 h35 hnc t
/-! ### entities within entities -/
def repN (c : Nat) (u : List UInt8) : List UInt8 := (List.replicate c u).flatten
theorem repN_next (c : Nat) (u : List UInt8) : repN (c + 1) u = u ++ repN c u := by unfold repN; rw [List.replicate_succ, List.flatten_cons]
theorem repN_last (c : Nat) (u : List UInt8) : repN (c + 1) u = repN c u ++ u := by unfold repN; rw [List.replicate_succ', List.flatten_append]; simp
theorem repN_len (c : Nat) (u : List UInt8) : (repN c u).length = c * u.length := by
  induction c with
  | zero => simp [repN]
  | succ c ih => rw [repN_next, List.length_append, ih, Nat.succ_mul]; omega
def txtN (k : Nat) : Nat → List UInt8
  | 0 => [120]
  | i + 1 => repN k (refN i)
def lenN (k : Nat) : Nat → Nat
  | 0 => 1
  | i + 1 => k * lenN k i
def costN (k : Nat) : Nat → Nat
  | 0 => 1
  | i + 1 => k * costN k i + k * 3
def xsN (n : Nat) : List UInt8 := List.replicate n 120
theorem xsN_add (a b : Nat) : xsN a ++ xsN b = xsN (a + b) := List.replicate_append_replicate
def nestE (n k : Nat) : List EntD := (List.range n).map fun j => ⟨nmL j, txtN k j, false⟩
theorem nest_next (n k : Nat) : nestE (n + 1) k = nestE n k ++ [⟨nmL n, txtN k n, false⟩] := by simp [nestE, List.range_succ]
theorem nest_len (n k : Nat) : (nestE n k).length = n := by simp [nestE]
theorem nest_at (n k j : Nat) (h : j < n) : entI (nestE n k) j = ⟨nmL j, txtN k j, false⟩ := by simp [nestE, entI, List.getD, h]
theorem txt_len (k j : Nat) (hk : k ≤ 3) : (txtN k j).length ≤ 9 := by
  cases j with
  | zero => exact (by decide : 1 ≤ 9)
  | succ j => show (repN k (refN j)).length ≤ 9; rw [repN_len]; show k * 3 ≤ 9; omega
theorem nest_lett (n k : Nat) (hn : n ≤ 20) (hk : k ≤ 3) : Lett (nestE n k) := by
  refine ⟨by rw [nest_len]; exact hn, fun j hj => ?_, fun j hj => ?_, fun j hj => ?_⟩ <;> rw [nest_len] at hj <;> rw [nest_at n k j hj]
  exact Nat.le_trans (txt_len k j hk) (by decide)
theorem cost_txt (k i : Nat) (_hk : 0 < k) : (txtN k i).length ≤ costN k i := by
  cases i with
  | zero => exact Nat.le_refl _
  | succ i =>
    show (repN k (refN i)).length ≤ k * costN k i + k * 3
    rw [repN_len]
    show k * 3 ≤ _
    exact Nat.le_add_left _ _
section
variable {n k : Nat} {most : Int}
/-- what an entity's name comes to -/
def StepN (n k : Nat) (most : Int) (i : Nat) (rec : RefD → List UInt8 → VRes) : Prop :=
  ∀ r : RefD, r.look = lookE (nestE n k) → (∀ j, j ≤ i → nmL j ∉ r.opened) →
    ((((r.n + costN k i : Nat) : Int) ≤ most) → stepV rec most r (nmL i) = (xsN (lenN k i), 0, ⟨r.look, r.opened, r.n + costN k i⟩)) ∧
    ((most < ((r.n + costN k i : Nat) : Int)) → ∃ r', stepV rec most r (nmL i) = ([], 3, r'))
theorem copiesN {i : Nat} (hi : i < 20) {rec : RefD → List UInt8 → VRes} (h : StepN n k most i rec) (ins : Bool) : ∀ (c : Nat) (r : RefD), r.look = lookE (nestE n k) → (∀ j, j ≤ i → nmL j ∉ r.opened) →
    ((((r.n + c * costN k i : Nat) : Int) ≤ most) → LV rec most ins r (repN c (refN i)) = (xsN (c * lenN k i), 0, ⟨r.look, r.opened, r.n + c * costN k i⟩)) ∧
    ((most < ((r.n + c * costN k i : Nat) : Int)) → (r.n : Int) ≤ most → ∃ r', LV rec most ins r (repN c (refN i)) = ([], 3, r'))
  | 0, r, _, _ => by
    rw [Nat.zero_mul, Nat.zero_mul, Nat.add_zero]
    exact ⟨fun _ => rfl, fun h1 h2 => absurd h2 (by omega)⟩
  | c + 1, r, hl, ho => by
    have e : LV rec most ins r (repN (c + 1) (refN i)) = if (stepV rec most r (nmL i)).2.1 ≠ 0 then ([], (stepV rec most r (nmL i)).2.1, (stepV rec most r (nmL i)).2.2) else preV (stepV rec most r (nmL i)).1 (LV rec most ins (stepV rec most r (nmL i)).2.2 (repN c (refN i))) := by
      rw [repN_next]
      show LV rec most ins r (38 :: (nmL i ++ [59] ++ repN c (refN i))) = _
      rw [LV_amp]
      have hr := refL_letter i hi (repN c (refN i))
      change refL (38 :: (nmL i ++ [59] ++ repN c (refN i))) = _ at hr
      rw [hr]
      simp only
      rw [if_neg (by decide)]
      rfl
    rw [e, Nat.succ_mul, Nat.succ_mul]
    obtain ⟨h1, h2⟩ := h r hl ho
    by_cases hc : ((r.n + costN k i : Nat) : Int) ≤ most
    · rw [h1 hc]
      have ih := copiesN hi h ins c ⟨r.look, r.opened, r.n + costN k i⟩ hl ho
      simp only [ne_eq, not_true_eq_false, if_false]
      refine ⟨fun hm => ?_, fun hm _ => ?_⟩
      · rw [ih.1 (by show ((r.n + costN k i + c * costN k i : Nat) : Int) ≤ most; omega), preV_ok, xsN_add]
        rw [show lenN k i + c * lenN k i = c * lenN k i + lenN k i by omega, show r.n + costN k i + c * costN k i = r.n + (c * costN k i + costN k i) by omega]
      · obtain ⟨r', hr'⟩ := ih.2 (by show most < ((r.n + costN k i + c * costN k i : Nat) : Int); omega) hc
        exact ⟨r', by rw [hr']; exact preV_bad (by decide) _ _ _⟩
    · obtain ⟨r', hr'⟩ := h2 (by omega)
      rw [hr']
      refine ⟨fun hm => absurd hm ?_, fun _ _ => ⟨r', if_pos (show (3 : Int) ≠ 0 by decide)⟩⟩
      have : 0 ≤ c * costN k i := Nat.zero_le _
      omega
theorem stepsN (hn : n ≤ 20) (hk3 : k ≤ 3) (hk0 : 0 < k) : ∀ (i d : Nat), i < n → i < d → StepN n k most i (valD most d)
  | i, 0, _, h => absurd h (Nat.not_lt_zero _)
  | i, d + 1, hi, hd => by
    intro r hl ho
    have hL := nest_lett n k hn hk3
    have hin : i < (nestE n k).length := by rw [nest_len]; exact hi
    have hval : (entI (nestE n k) i).value = txtN k i := by rw [nest_at n k i hi]
    have hct := cost_txt k i hk0
    obtain ⟨rl, ro, rn⟩ := r
    obtain rfl : rl = lookE (nestE n k) := hl
    have h5 := nmL_five i
    have hS : stepV (valD most (d + 1)) most ⟨lookE (nestE n k), ro, rn⟩ (nmL i) = if (openT ⟨lookE (nestE n k), ro, rn⟩ (nmL i) most).2 = 3 then ([], 3, openS ⟨lookE (nestE n k), ro, rn⟩ (nmL i) most)
        else if (openT ⟨lookE (nestE n k), ro, rn⟩ (nmL i) most).2 ≠ 0 then ([], 2, openS ⟨lookE (nestE n k), ro, rn⟩ (nmL i) most)
        else if (valD most (d + 1) (openS ⟨lookE (nestE n k), ro, rn⟩ (nmL i) most) (openT ⟨lookE (nestE n k), ro, rn⟩ (nmL i) most).1).2.1 ≠ 0 then ([], (valD most (d + 1) (openS ⟨lookE (nestE n k), ro, rn⟩ (nmL i) most) (openT ⟨lookE (nestE n k), ro, rn⟩ (nmL i) most).1).2.1, (valD most (d + 1) (openS ⟨lookE (nestE n k), ro, rn⟩ (nmL i) most) (openT ⟨lookE (nestE n k), ro, rn⟩ (nmL i) most).1).2.2) else ((valD most (d + 1) (openS ⟨lookE (nestE n k), ro, rn⟩ (nmL i) most) (openT ⟨lookE (nestE n k), ro, rn⟩ (nmL i) most).1).1, 0, closeS (valD most (d + 1) (openS ⟨lookE (nestE n k), ro, rn⟩ (nmL i) most) (openT ⟨lookE (nestE n k), ro, rn⟩ (nmL i) most).1).2.2 (nmL i)) := by
      unfold stepV
      rw [h5]
    by_cases hfit : ((rn + (txtN k i).length : Nat) : Int) ≤ most
    · obtain ⟨hT, hO⟩ := open_new (o := ro) (n := rn) (most := most) hL hin (ho i (Nat.le_refl _)) (by rw [hval]; exact hfit)
      rw [hval] at hT hO
      rw [hS, hT, hO]
      simp only [show ((0 : Int) = 3) = False from eq_false (by decide), if_false, ne_eq, not_true_eq_false]
      have hcl : ∀ m, closeS ⟨lookE (nestE n k), ro ++ [nmL i], m⟩ (nmL i) = ⟨lookE (nestE n k), ro, m⟩ := fun m => (close_last (n := m) (o := ro) (lookE (nestE n k)) (nmL i)).2
      cases i with
      | zero =>
        have hv : valD most (d + 1) ⟨lookE (nestE n k), ro ++ [nmL 0], rn + (txtN k 0).length⟩ (txtN k 0) = ([120], 0, ⟨lookE (nestE n k), ro ++ [nmL 0], rn + 1⟩) := by
          rw [valD_LV]
          show LV _ most true _ (120 :: []) = _
          rw [LV_plain (ins := true) (b := 120) (by decide), LV_nil, preV_ok]
          rfl
        rw [hv]
        refine ⟨fun _ => ?_, fun h => ?_⟩
        · simp only [not_true_eq_false, if_false, hcl]
          rfl
        · exfalso
          have h' : most < ((rn + 1 : Nat) : Int) := h
          have hf' : ((rn + 1 : Nat) : Int) ≤ most := hfit
          omega
      | succ i =>
        have hlen : (txtN k (i + 1)).length = k * 3 := by show (repN k (refN i)).length = _; rw [repN_len]; rfl
        have ih := stepsN hn hk3 hk0 i d (by omega) (by omega)
        have hnd : ∀ j, j ≤ i → nmL j ∉ ro ++ [nmL (i + 1)] := by
          intro j hj hm
          rcases List.mem_append.1 hm with hm | hm
          · exact ho j (by omega) hm
          · have := nmL_inj (by omega) (by omega) (List.mem_singleton.1 hm)
            omega
        have hcp := copiesN (by omega : i < 20) ih true k ⟨lookE (nestE n k), ro ++ [nmL (i + 1)], rn + k * 3⟩ rfl hnd
        rw [hlen] at hfit ⊢
        rw [show valD most (d + 1) ⟨lookE (nestE n k), ro ++ [nmL (i + 1)], rn + k * 3⟩ (txtN k (i + 1)) = LV (valD most d) most true ⟨lookE (nestE n k), ro ++ [nmL (i + 1)], rn + k * 3⟩ (repN k (refN i)) from rfl]
        rw [show costN k (i + 1) = k * costN k i + k * 3 from rfl]
        refine ⟨fun hm => ?_, fun hm => ?_⟩
        · have h1 := hcp.1 (by show ((rn + k * 3 + k * costN k i : Nat) : Int) ≤ most; omega)
          rw [h1]
          simp only [not_true_eq_false, if_false]
          rw [hcl, show rn + k * 3 + k * costN k i = rn + (k * costN k i + k * 3) by omega]
          rfl
        · obtain ⟨r', h2⟩ := hcp.2 (by show most < ((rn + k * 3 + k * costN k i : Nat) : Int); omega) hfit
          rw [h2]
          exact ⟨r', if_pos (show ¬ ((3 : Int) = 0) by decide)⟩
    · obtain ⟨hT, hO⟩ := open_full (o := ro) (n := rn) (most := most) hL hin (ho i (Nat.le_refl _)) (by rw [hval]; omega)
      rw [hS, hT, hO]
      refine ⟨fun h => absurd h ?_, fun _ => ⟨_, if_pos rfl⟩⟩
      show ¬ (((rn + costN k i : Nat) : Int) ≤ most)
      omega
/-- Read -/
theorem nest_read (hn : n ≤ 20) (hn0 : 0 < n) (hk3 : k ≤ 3) (hk0 : 0 < k) :
    ((((costN k (n - 1) : Nat) : Int) ≤ most) → readV n (ref0 (nestE n k)) (refN (n - 1)) 1 most = (xsN (lenN k (n - 1)), 0, ⟨lookE (nestE n k), [], costN k (n - 1)⟩)) ∧
    ((most < ((costN k (n - 1) : Nat) : Int)) → ∃ r', readV n (ref0 (nestE n k)) (refN (n - 1)) 1 most = ([], 3, r')) := by
  have h := copiesN (most := most) (by omega : n - 1 < 20) (stepsN (most := most) hn hk3 hk0 (n - 1) n (by omega) (by omega)) false 1 (ref0 (nestE n k)) rfl (fun j _ hm => by cases hm)
  have e1 : repN 1 (refN (n - 1)) = refN (n - 1) := by simp [repN]
  rw [e1, Nat.one_mul, Nat.one_mul] at h
  have hraw : rawV n (ref0 (nestE n k)) (refN (n - 1)) most false = LV (valD most n) most false (ref0 (nestE n k)) (refN (n - 1)) := rfl
  have hz : (ref0 (nestE n k)).n + costN k (n - 1) = costN k (n - 1) := Nat.zero_add _
  rw [hz] at h
  unfold readV
  rw [hraw]
  refine ⟨fun hm => ?_, fun hm => ?_⟩
  · rw [h.1 hm]; rfl
  · by_cases h0 : (0 : Int) ≤ most
    · obtain ⟨r', hr'⟩ := h.2 hm (by show ((0 : Nat) : Int) ≤ most; omega)
      exact ⟨r', by rw [hr']; rfl⟩
    · have hs := (stepsN (most := most) hn hk3 hk0 (n - 1) n (by omega) (by omega)) (ref0 (nestE n k)) rfl (fun j _ hm => by cases hm)
      obtain ⟨r', hr'⟩ := hs.2 (by rw [hz]; exact hm)
      have e := LV_amp (rec := valD most n) (most := most) (ins := false) (r := ref0 (nestE n k)) (nmL (n - 1) ++ [59])
      have hrl := refL_letter (n - 1) (by omega) []
      rw [List.append_nil] at hrl
      change refL (38 :: (nmL (n - 1) ++ [59])) = _ at hrl
      rw [hrl] at e
      simp only at e
      rw [if_neg (by decide)] at e
      refine ⟨r', ?_⟩
      have e2 : LV (valD most n) most false (ref0 (nestE n k)) (refN (n - 1)) = ([], 3, r') := by
        show LV (valD most n) most false (ref0 (nestE n k)) (38 :: (nmL (n - 1) ++ [59])) = _
        rw [e]
        have hr2 : stepV (valD most n) most (ref0 (nestE n k)) (bytes (nmL (n - 1))).data.toList = ([], 3, r') := hr'
        rw [hr2]
        exact if_pos (show (3 : Int) ≠ 0 by decide)
      rw [e2]; rfl
end
end Go.Proofs.YtjijjmkeehdooaaGreatDoor
