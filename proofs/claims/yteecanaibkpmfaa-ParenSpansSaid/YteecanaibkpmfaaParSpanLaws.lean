/-
  PLAIN MATHEMATICS FOR LAYER 5: the spans of all pairs together are all their excesses; pair by pair over the top level.
-/
import Derived.Test.YteecanaibkpmfaaParPairLaws
namespace Go.Proofs.Yteecanaibkpmfaa

def sumTo (f : Nat → Nat) : Nat → Nat
  | 0 => 0
  | n + 1 => sumTo f n + f n
theorem sumTo_congr (f g : Nat → Nat) : ∀ n, (∀ k, k < n → f k = g k) → sumTo f n = sumTo g n
  | 0, _ => rfl
  | n + 1, h => by
    show sumTo f n + f n = sumTo g n + g n
    rw [sumTo_congr f g n (fun k hk => h k (by omega)), h n (by omega)]
theorem sumTo_add (f g : Nat → Nat) : ∀ n, sumTo (fun k => f k + g k) n = sumTo f n + sumTo g n
  | 0 => rfl
  | n + 1 => by
    show sumTo (fun k => f k + g k) n + (f n + g n) = (sumTo f n + f n) + (sumTo g n + g n)
    rw [sumTo_add f g n]
    omega
theorem sumTo_zero (f : Nat → Nat) : ∀ n, (∀ k, k < n → f k = 0) → sumTo f n = 0
  | 0, _ => rfl
  | n + 1, h => by
    show sumTo f n + f n = 0
    rw [sumTo_zero f n (fun k hk => h k (by omega)), h n (by omega)]
theorem sumTo_one (f : Nat → Nat) (b : Nat) (hb : f b = 1) : ∀ n, b < n → (∀ k, k < n → k ≠ b → f k = 0) → sumTo f n = 1
  | 0, h, _ => by omega
  | n + 1, h, h0 => by
    show sumTo f n + f n = 1
    by_cases e : b = n
    · subst e
      rw [sumTo_zero f b (fun k hk => h0 k (by omega) (by omega)), hb]
    · rw [sumTo_one f b hb n (by omega) (fun k hk => h0 k (by omega)), h0 n (by omega) (fun h => e h.symm)]
theorem sumTo_le (f : Nat → Nat) (m : Nat) (hf : ∀ k, f k ≤ m) : ∀ n, sumTo f n ≤ n * m
  | 0 => Nat.zero_le _
  | n + 1 => by
    show sumTo f n + f n ≤ _
    have h1 := sumTo_le f m hf n
    have h2 := hf n
    rw [Nat.succ_mul]
    omega

theorem rankN_up (l : List Bool) (bit : Bool) (a : Nat) : ∀ b, a ≤ b → rankN l a bit ≤ rankN l b bit
  | 0, h => by rw [show a = 0 by omega]; exact Nat.le_refl _
  | b + 1, h => by
    by_cases e : a = b + 1
    · rw [e]; exact Nat.le_refl _
    · have h1 := rankN_up l bit a b (by omega)
      by_cases hb : b < l.length
      · have := rankN_succ l b bit _ hb rfl
        omega
      · rw [rankN_all l (b + 1) bit (by omega), ← rankN_all l b bit (by omega)]
        exact h1
/-- where the pair that begins at k closes -/
def cl (l : List Bool) (k : Nat) : Nat := (closeL l (k : Int)).toNat
theorem cl_spec {l : List Bool} (hm : mayL l = true) (k : Nat) (hk : k < l.length) (hb : l.getD k false = true) : k < cl l k ∧ cl l k < l.length ∧ closeL l (k : Int) = (cl l k : Int) ∧ exc l (cl l k + 1) = exc l k ∧ l.getD (cl l k) false = false := by
  obtain ⟨c, h1, h2, h3, h4, _, h6⟩ := close_spec hm k hk hb
  have : cl l k = c := by unfold cl; rw [h3]; exact Int.toNat_natCast c
  rw [this]
  exact ⟨h1, h2, h3, h4, h6⟩
/-- is place K within the pair that begins at k? -/
def inN (l : List Bool) (K k : Nat) : Nat := if l.getD k false = true ∧ K ≤ cl l k then 1 else 0
theorem in_open {l : List Bool} (hm : mayL l = true) (K : Nat) (hK : K < l.length) (hb : l.getD K false = true) (k : Nat) (hk : k < K) : inN l (K + 1) k = inN l K k := by
  unfold inN
  by_cases ho : l.getD k false = true
  · obtain ⟨_, _, _, _, h5⟩ := cl_spec hm k (by omega) ho
    by_cases e : cl l k = K
    · rw [e, hb] at h5; exact absurd h5 (by decide)
    · by_cases h : K ≤ cl l k
      · rw [if_pos ⟨ho, by omega⟩, if_pos ⟨ho, h⟩]
      · rw [if_neg (fun x => h (by omega)), if_neg (fun x => h x.2)]
  · rw [if_neg (fun x => ho x.1), if_neg (fun x => ho x.1)]
theorem in_shut {l : List Bool} (hm : mayL l = true) (K : Nat) (hK : K < l.length) (hb : l.getD K false = false) : sumTo (inN l K) K = sumTo (inN l (K + 1)) K + 1 := by
  obtain ⟨b, hbK, hb2, _, _, hbo⟩ := begin_spec hm K hK hb
  have hcb := close_begin hm K b hK hb hb2
  have hclb : cl l b = K := by unfold cl; rw [hcb]; exact Int.toNat_natCast K
  let f : Nat → Nat := fun k => if k = b then 1 else 0
  have h1 : sumTo f K = 1 := sumTo_one f b (if_pos rfl) K hbK (fun k _ hk => if_neg hk)
  have h2 : sumTo (inN l K) K = sumTo (fun k => inN l (K + 1) k + f k) K := by
    refine sumTo_congr _ _ K (fun k hk => ?_)
    show inN l K k = inN l (K + 1) k + if k = b then 1 else 0
    unfold inN
    by_cases e : k = b
    · subst e
      rw [if_pos rfl, if_pos ⟨hbo, by omega⟩, if_neg (fun x => by omega)]
    · rw [if_neg e]
      by_cases ho : l.getD k false = true
      · obtain ⟨_, _, h3, _, _⟩ := cl_spec hm k (by omega) ho
        by_cases ec : cl l k = K
        · have hbg := begin_close hm k K (by omega) ho (by rw [h3, ec])
          exact absurd (by omega) e
        · by_cases h : K ≤ cl l k
          · rw [if_pos ⟨ho, h⟩, if_pos ⟨ho, by omega⟩]
          · rw [if_neg (fun x => h x.2), if_neg (fun x => h (by omega))]
      · rw [if_neg (fun x => ho x.1), if_neg (fun x => ho x.1)]
  rw [h2, sumTo_add, h1]
/-- the excess at K counts the pairs that K lies in -/
theorem in_exc {l : List Bool} (hm : mayL l = true) : ∀ K, K ≤ l.length → (sumTo (inN l K) K : Int) = exc l K
  | 0, _ => rfl
  | K + 1, hK => by
    have ih := in_exc hm K (by omega)
    show ((sumTo (inN l (K + 1)) K + inN l (K + 1) K : Nat) : Int) = _
    rcases exc_one l K (by omega) with ⟨h1, h2⟩ | ⟨h1, h2⟩
    · obtain ⟨g1, _⟩ := cl_spec hm K (by omega) h2
      have e : inN l (K + 1) K = 1 := by unfold inN; exact if_pos ⟨h2, by omega⟩
      rw [e, sumTo_congr _ _ K (fun k hk => in_open hm K (by omega) h2 k hk)]
      omega
    · have e : inN l (K + 1) K = 0 := by unfold inN; exact if_neg (fun x => by rw [h2] at x; exact absurd x.1 (by decide))
      have := in_shut hm K (by omega) h2
      rw [e]
      omega
/-- how many opening ones of the pair of k lie ahead of K -/
def gN (l : List Bool) (K k : Nat) : Nat := if l.getD k false = true then rankN l (min (cl l k + 1) K) true - rankN l k true else 0
def hiN (l : List Bool) (k : Nat) : Nat := if l.getD k false = true then (exc l (k + 1)).toNat else 0
def spN (l : List Bool) (k : Nat) : Nat := if l.getD k false = true then (spanL l (k : Int)).toNat else 0
theorem g_sum {l : List Bool} (hm : mayL l = true) : ∀ K, K ≤ l.length → sumTo (gN l K) K = sumTo (hiN l) K
  | 0, _ => rfl
  | K + 1, hK => by
    have ih := g_sum hm K (by omega)
    show sumTo (gN l (K + 1)) K + gN l (K + 1) K = sumTo (hiN l) K + hiN l K
    rcases exc_one l K (by omega) with ⟨h1, h2⟩ | ⟨h1, h2⟩
    · have hr := rankN_succ l K true true (by omega) h2
      rw [if_pos rfl] at hr
      have e0 : sumTo (gN l (K + 1)) K = sumTo (fun k => gN l K k + inN l K k) K := by
        refine sumTo_congr _ _ K (fun k hk => ?_)
        show gN l (K + 1) k = gN l K k + inN l K k
        unfold gN inN
        by_cases ho : l.getD k false = true
        · rw [if_pos ho, if_pos ho]
          have hmk : rankN l k true ≤ rankN l K true := rankN_up l true k K (by omega)
          by_cases h : K ≤ cl l k
          · rw [if_pos ⟨ho, h⟩, show min (cl l k + 1) (K + 1) = K + 1 by omega, show min (cl l k + 1) K = K by omega, hr]
            omega
          · rw [if_neg (fun x => h x.2), show min (cl l k + 1) (K + 1) = min (cl l k + 1) K by omega]
            rfl
        · rw [if_neg ho, if_neg ho, if_neg (fun x => ho x.1)]
      obtain ⟨g1, _⟩ := cl_spec hm K (by omega) h2
      have e1 : gN l (K + 1) K = 1 := by
        unfold gN
        rw [if_pos h2, show min (cl l K + 1) (K + 1) = K + 1 by omega, hr]
        omega
      have e2 : hiN l K = (exc l (K + 1)).toNat := by unfold hiN; exact if_pos h2
      have e3 := in_exc hm K (by omega)
      rw [e0, sumTo_add, ih, e1, e2]
      omega
    · have hr := rankN_succ l K true false (by omega) h2
      rw [if_neg (by decide)] at hr
      have e0 : sumTo (gN l (K + 1)) K = sumTo (gN l K) K := by
        refine sumTo_congr _ _ K (fun k hk => ?_)
        unfold gN
        by_cases ho : l.getD k false = true
        · rw [if_pos ho, if_pos ho]
          by_cases h : K ≤ cl l k
          · rw [show min (cl l k + 1) (K + 1) = K + 1 by omega, show min (cl l k + 1) K = K by omega, hr]
            rfl
          · rw [show min (cl l k + 1) (K + 1) = min (cl l k + 1) K by omega]
        · rw [if_neg ho, if_neg ho]
      have e1 : gN l (K + 1) K = 0 := by unfold gN; exact if_neg (by rw [h2]; decide)
      have e2 : hiN l K = 0 := by unfold hiN; exact if_neg (by rw [h2]; decide)
      rw [e0, ih, e1, e2]
/-- ALL SPANS TOGETHER ARE ALL EXCESSES. -/
theorem spans_high {l : List Bool} (hm : mayL l = true) : sumTo (spN l) l.length = sumTo (hiN l) l.length := by
  rw [← g_sum hm l.length (Nat.le_refl _)]
  refine sumTo_congr _ _ _ (fun k hk => ?_)
  unfold spN gN
  by_cases ho : l.getD k false = true
  · obtain ⟨g1, g2, g3, g4, _⟩ := cl_spec hm k hk ho
    rw [if_pos ho, if_pos ho, spanL_nat k (cl l k) hk ho g3 g1, Int.toNat_natCast, show min (cl l k + 1) l.length = cl l k + 1 by omega]
    have a1 := exc_rank l k (by omega)
    have a2 := exc_rank l (cl l k + 1) (by omega)
    have b1 := rank_both l k (by omega)
    have b2 := rank_both l (cl l k + 1) (by omega)
    omega
  · rw [if_neg ho, if_neg ho]
theorem hi_le (l : List Bool) (m : Nat) (h : l.length ≤ m) (k : Nat) : hiN l k ≤ m := by
  unfold hiN
  by_cases ho : l.getD k false = true
  · rw [if_pos ho]
    have hk : k < l.length := by
      by_cases hk : k < l.length
      · exact hk
      · rw [List.getD_eq_getElem?_getD, List.getElem?_eq_none (by omega)] at ho
        exact absurd ho (by decide)
    have := exc_le_len l (k + 1)
    omega
  · rw [if_neg ho]
    omega
theorem sp_le (l : List Bool) (hm : mayL l = true) (m : Nat) (h : l.length ≤ m) (k : Nat) : spN l k ≤ m := by
  unfold spN
  by_cases ho : l.getD k false = true
  · have hk : k < l.length := by
      by_cases hk : k < l.length
      · exact hk
      · rw [List.getD_eq_getElem?_getD, List.getElem?_eq_none (by omega)] at ho
        exact absurd ho (by decide)
    obtain ⟨g1, g2, g3, g4, _⟩ := cl_spec hm k hk ho
    rw [if_pos ho, spanL_nat k (cl l k) hk ho g3 g1, Int.toNat_natCast]
    omega
  · rw [if_neg ho]
    omega
/-- at the top level stands an opening one, and its pair takes an even part of the row -/
theorem top_step {l : List Bool} (hm : mayL l = true) (k : Nat) (hk : k < l.length) (h0 : exc l k = 0) :
    ∃ c : Nat, k < c ∧ c < l.length ∧ closeL l (k : Int) = (c : Int) ∧ exc l (c + 1) = 0 ∧ ∃ s : Nat, spanL l (k : Int) = (s : Int) ∧ 2 * s = c + 1 - k := by
  have hb : l.getD k false = true := by
    rcases exc_one l k hk with ⟨_, h⟩ | ⟨h, _⟩
    · exact h
    · have := may_ge hm (k + 1) (by omega)
      omega
  obtain ⟨g1, g2, g3, g4, _⟩ := cl_spec hm k hk hb
  refine ⟨cl l k, g1, g2, g3, by rw [g4, h0], _, spanL_nat k (cl l k) hk hb g3 g1, ?_⟩
  have a1 := exc_rank l k (by omega)
  have a2 := exc_rank l (cl l k + 1) (by omega)
  have b1 := rank_both l k (by omega)
  have b2 := rank_both l (cl l k + 1) (by omega)
  omega
end Go.Proofs.Yteecanaibkpmfaa
