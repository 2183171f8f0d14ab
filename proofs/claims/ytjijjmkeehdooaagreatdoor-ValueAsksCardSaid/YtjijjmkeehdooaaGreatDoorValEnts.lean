/-
  PLAIN MATHEMATICS FOR LAYER 13 (law ValueAsks): how much a value can spend whatever room it has (costL, phi), for the nine entities of the law. No program stands in this text.
  THE CONTRACT OF brackenlaw13.entities: the nine, turned round.
-/
import Derived.Test.YtjijjmkeehdooaaGreatDoorValTold
import Derived.Test.YtjijjmkeehdooaaGreatDoorBitNum
import Derived.Laws.AppendOwnNone
import Derived.IntWalk
import Derived.Handy
import Derived.Deep.AppendLies
import Derived.Deep.RegionLaw
namespace Go.Proofs.YtjijjmkeehdooaaGreatDoor
open Go Go.Lib

/-- what the references in a text may spend, where one may spend as f says of its name -/
def costL (g : List UInt8 → Nat) : Nat → List UInt8 → Nat
  | 0, _ => 0
  | _ + 1, [] => 0
  | f + 1, b :: t => if b ≠ 38 then costL g f t else match refL (b :: t) with
    | none => 0
    | some (k, n) => (if k.kind = 7 then 0 else g k.name.data.toList) + costL g f ((b :: t).drop n)
def phiV (look : List UInt8 → Option (Option (List UInt8))) : Nat → List UInt8 → Nat
  | 0, _ => 0
  | d + 1, x => match look x with
    | some (some t) => t.length + costL (phiV look d) t.length t
    | _ => 0
section
variable {look : List UInt8 → Option (Option (List UInt8))} {most : Int}
theorem loop_cost {rec : RefD → List UInt8 → VRes} {g : List UInt8 → Nat} (hk : ∀ r s, Kept13 [] s r (rec r s)) (hs : ∀ r x, r.look = look → (stepV rec most r x).2.2.n ≤ r.n + g x) (ins : Bool) : ∀ (f : Nat) (out : List UInt8) (r : RefD) (s : List UInt8), r.look = look → (loopV rec most ins f out r s).2.2.n ≤ r.n + costL g f s
  | 0, out, r, s, _ => Nat.le_add_right _ _
  | f + 1, out, r, [], _ => Nat.le_add_right _ _
  | f + 1, out, r, b :: t, hl => by
    unfold loopV costL
    by_cases h1 : b = 60 ∧ ins = true
    · rw [if_pos h1]; exact Nat.le_add_right _ _
    · rw [if_neg h1]
      by_cases h2 : b ≠ 38
      · rw [if_pos h2, if_pos h2]; exact loop_cost hk hs ins f _ r t hl
      · rw [if_neg h2, if_neg h2]
        cases hr : refL (b :: t) with
        | none => exact Nat.le_add_right _ _
        | some kn =>
          obtain ⟨k, n⟩ := kn
          simp only
          by_cases h7 : k.kind = 7
          · rw [if_pos h7, if_pos h7, Nat.zero_add]
            exact loop_cost hk hs ins f _ r _ hl
          · rw [if_neg h7, if_neg h7]
            have hst := hs r k.name.data.toList hl
            have hlk := (step_kept hk most r k.name.data.toList).1
            by_cases hv : (stepV rec most r k.name.data.toList).2.1 = 0
            · rw [if_neg (by rw [hv]; decide)]
              have ih := loop_cost hk hs ins f (out ++ (stepV rec most r k.name.data.toList).1) (stepV rec most r k.name.data.toList).2.2 ((b :: t).drop n) (hlk.trans hl)
              omega
            · rw [if_pos hv]
              show (stepV rec most r k.name.data.toList).2.2.n ≤ _
              omega
theorem close_n (r : RefD) (x : List UInt8) : (closeS r x).n = r.n := by unfold closeS; split <;> rfl
theorem step_cost {rec : RefD → List UInt8 → VRes} {d : Nat} (hr : ∀ r s, r.look = look → (rec r s).2.2.n ≤ r.n + costL (phiV look d) s.length s) (r : RefD) (x : List UInt8) (hl : r.look = look) : (stepV rec most r x).2.2.n ≤ r.n + phiV look (d + 1) x := by
  unfold stepV
  cases h5 : fiveL x with
  | some c => exact Nat.le_add_right _ _
  | none =>
    simp only
    by_cases h0 : (openT r x most).2 = 0
    · obtain ⟨hx, _, _, hS⟩ := open_ok h0
      rw [if_neg (by rw [h0]; decide), if_neg (by rw [h0]; decide)]
      have ih := hr (openS r x most) (openT r x most).1 (by rw [hS]; exact hl)
      rw [hl] at hx
      have hp : phiV look (d + 1) x = (openT r x most).1.length + costL (phiV look d) (openT r x most).1.length (openT r x most).1 := by
        rw [phiV, hx]
      have hn : (openS r x most).n = r.n + (openT r x most).1.length := by rw [hS]
      split
      · show (rec (openS r x most) (openT r x most).1).2.2.n ≤ _
        omega
      · show (closeS (rec (openS r x most) (openT r x most).1).2.2 x).n ≤ _
        rw [close_n]
        omega
    · obtain ⟨hS, _⟩ := open_no h0
      rw [hS]
      by_cases h3 : (openT r x most).2 = 3
      · rw [if_pos h3]; exact Nat.le_add_right _ _
      · rw [if_neg h3, if_pos h0]; exact Nat.le_add_right _ _
theorem valD_cost : ∀ (d : Nat) (r : RefD) (s : List UInt8), r.look = look → (valD most d r s).2.2.n ≤ r.n + costL (phiV look d) s.length s
  | 0, _, _, _ => Nat.le_add_right _ _
  | d + 1, r, s, hl => loop_cost (valD_kept most d) (fun r x h => step_cost (fun r s h => valD_cost d r s h) r x h) true s.length [] r s hl
theorem rawV_cost (D : Nat) (r : RefD) (raw : List UInt8) (ins : Bool) (hl : r.look = look) : (rawV D r raw most ins).2.2.n ≤ r.n + costL (phiV look (D + 1)) raw.length raw :=
  loop_cost (valD_kept most D) (fun r x h => step_cost (fun r s h => valD_cost D r s h) r x h) ins raw.length [] r raw hl
end
theorem cost_le {g : List UInt8 → Nat} {K : Nat} (hg : ∀ x, g x ≤ K) : ∀ (f : Nat) (s : List UInt8), costL g f s ≤ K * s.length
  | 0, s => Nat.zero_le _
  | f + 1, [] => Nat.zero_le _
  | f + 1, b :: t => by
    unfold costL
    have e : K * (b :: t).length = K * t.length + K := by rw [List.length_cons, Nat.mul_succ]
    by_cases h2 : b ≠ 38
    · rw [if_pos h2]
      have := cost_le hg f t
      omega
    · rw [if_neg h2]
      cases hr : refL (b :: t) with
      | none => exact Nat.zero_le _
      | some kn =>
        obtain ⟨k, n⟩ := kn
        obtain ⟨h0, _, _⟩ := refL_len hr
        have ih := cost_le hg f ((b :: t).drop n)
        have hd : ((b :: t).drop n).length ≤ t.length := by rw [List.length_drop, List.length_cons]; omega
        have hm := Nat.mul_le_mul_left K hd
        have hk := hg k.name.data.toList
        simp only
        split <;> omega
/-- the nine -/
def entA : List EntD := [⟨[101], [120, 32, 121], false⟩, ⟨[102], [38, 101, 59, 38, 101, 59], false⟩, ⟨[103], [38, 102, 59, 38, 102, 59, 38, 102, 59], false⟩, ⟨[104], [], true⟩, ⟨[105], [60], false⟩, ⟨[106], [38, 107, 59], false⟩, ⟨[107], [38, 106, 59], false⟩, ⟨[109], [38, 35, 57, 59, 38, 108, 116, 59], false⟩, ⟨[111], [], false⟩]
def rotA (k : Nat) : List EntD := entA.drop k ++ entA.take k
theorem rot_phi : ∀ k : Fin 9, ∀ e ∈ rotA k.val, phiV (lookE (rotA k.val)) 10 e.name ≤ 45 := by decide +kernel
theorem rot_len (k : Nat) (hk : k < 9) : (rotA k).length = 9 := by
  rcases (show k = 0 ∨ k = 1 ∨ k = 2 ∨ k = 3 ∨ k = 4 ∨ k = 5 ∨ k = 6 ∨ k = 7 ∨ k = 8 by omega) with rfl | rfl | rfl | rfl | rfl | rfl | rfl | rfl | rfl <;> rfl
theorem rot_few (k : Nat) (hk : k < 9) : ∀ e ∈ rotA k, e.name.length ≤ 1 ∧ e.value.length ≤ 9 := by
  rcases (show k = 0 ∨ k = 1 ∨ k = 2 ∨ k = 3 ∨ k = 4 ∨ k = 5 ∨ k = 6 ∨ k = 7 ∨ k = 8 by omega) with rfl | rfl | rfl | rfl | rfl | rfl | rfl | rfl | rfl <;> decide
theorem rot_all (k : Nat) (hk : k < 9) (x : List UInt8) : phiV (lookE (rotA k)) 10 x ≤ 45 := by
  cases hl : lookE (rotA k) x with
  | none => rw [phiV, hl]; exact Nat.zero_le _
  | some o =>
    obtain ⟨_, e, he, hn, _⟩ := lookE_mem hl
    rw [← hn]
    exact rot_phi ⟨k, hk⟩ e he
/-- whatever room there is -/
theorem rot_short (k : Nat) (hk : k < 9) (raw : List UInt8) (hr : raw.length ≤ 200) (most : Int) : ShortV 9 (ref0 (rotA k)) raw most := by
  have hc : (rawV 9 (ref0 (rotA k)) raw most false).2.2.n ≤ 0 + costL (phiV (lookE (rotA k)) 10) raw.length raw := rawV_cost 9 (ref0 (rotA k)) raw false rfl
  have h2 := cost_le (rot_all k hk) raw.length raw
  have hs := short_of (l := rotA k) (o := []) (n := 0) (raw := raw) (most := most) (by rw [rot_len k hk]; decide) (fun e he => by have := (rot_few k hk e he).2; omega) (by omega) (k := (rawV (rotA k).length (ref0 (rotA k)) raw most false).2.2.n) rfl (by rw [rot_len k hk]; omega)
  rw [rot_len k hk] at hs
  exact hs
end Go.Proofs.YtjijjmkeehdooaaGreatDoor

namespace Go.Proofs.YtjijjmkeehdooaaGreatDoor
open Go.RowKit

theorem flatE_app (a b : List EntD) : flatE (a ++ b) = flatE a ++ flatE b := by unfold flatE; rw [List.flatMap_append]
theorem flatE_one13 : ∀ (l : List EntD), ∀ u ∈ flatE l, u.oneCell' = true := by
  intro l u hu
  unfold flatE at hu
  obtain ⟨e, _, hu⟩ := List.mem_flatMap.1 hu
  simp at hu
  rcases hu with rfl | rfl | rfl <;> rfl
theorem info_ent13 : ∃ i0, Tryz.prog.info? 26 = some i0 ∧ i0.zero = some (.agg #[.string ⟨#[]⟩, .string ⟨#[]⟩, .bool false]) ∧ i0.size = 3 ∧ i0.bytes = 40 := by
  obtain ⟨i0, hi, hz⟩ := Option.map_eq_some_iff.1 info_ent
  simp only [Prod.mk.injEq] at hz
  exact ⟨i0, hi, hz.1, hz.2.1, hz.2.2⟩
theorem own_nothing13 (w : World) : (w.alloc (.cells #[] 26)).ownsRow w.heap.size 26 3 (.slice (some ⟨w.heap.size, 0, none⟩) 0 0) 0 (flatE []) := by
  refine ⟨rfl, Or.inr ⟨w.heap.size, 0, #[], rfl, Nat.le_refl _, ?_, Nat.le_refl _, Nat.zero_le _, rfl, rfl⟩⟩
  show (w.heap.push (Obj.cells #[] 26 (0, 0)))[w.heap.size]? = _
  rw [Array.getElem?_push_size]
/-- a part of a row of entities, cell by cell -/
theorem part_cells {w : World} {B : Nat} {C : Array Value} {t : TypeId} {fr : Nat × Nat} (h : w.heap[B]? = some (.cells C t fr)) (a m b : List EntD) (hC : C.toList = flatE (a ++ m ++ b)) (p : Nat) (hp : p = a.length * 3) : ∀ j u, (flatE m)[j]? = some u → w.cell? ((⟨B, p, none⟩ : Addr).add j) = some u := by
  intro j u hj
  subst hp
  have hjl := (List.getElem?_eq_some_iff.1 hj).1
  have e : C[a.length * 3 + j]? = some u := by
    rw [← Array.getElem?_toList, hC, flatE_app, flatE_app, List.append_assoc, List.getElem?_append_right (by rw [flatE_len]; omega), flatE_len, Nat.add_sub_cancel_left, List.getElem?_append_left hjl]
    exact hj
  rw [Go.WideShapes.add_plain]
  simp [World.cell?, h, e]
theorem own_ge13 {w : World} {B : Nat} {e : TypeId} {z n : Nat} {v : Value} {xs : List Value} (h : w.ownsRow B e z v n xs) : ∀ q, v.ownBlock = some q → B ≤ q := by
  intro q hq
  rcases h.2 with ⟨rfl, _⟩ | ⟨g, cap, cur, rfl, hB, _⟩
  · cases hq
  · simp only [Value.ownBlock, Option.some.injEq] at hq
    omega
theorem own_val13 {w : World} {B : Nat} {e : TypeId} {z n : Nat} {v : Value} {xs : List Value} (h : w.ownsRow B e z v n xs) : ∃ a c, v = .slice a n c := by
  rcases h.2 with ⟨rfl, h0⟩ | ⟨g, cap, cur, rfl, _⟩
  · exact ⟨none, 0, by rw [h0]⟩
  · exact ⟨_, cap, rfl⟩
theorem own_keep13 {w w' : World} {B : Nat} {e : TypeId} {z n : Nat} {v : Value} {xs : List Value} (h : w.ownsRow B e z v n xs) (hb : ∀ k, B ≤ k → w'.heap[k]? = w.heap[k]?) : w'.ownsRow B e z v n xs := by
  refine ⟨h.1, ?_⟩
  rcases h.2 with h2 | ⟨g, cap, cur, rfl, hg, hh, h3⟩
  · exact Or.inl h2
  · exact Or.inr ⟨g, cap, cur, rfl, hg, (hb g hg).trans hh, h3⟩
theorem step_ents {ops : Array Oper} {o : Oper} {a : Act} {w : World} {K : Act → World → Prop} {Q : Exit → Act → World → Prop} {E : Prop} (hgd : o.guard = none) (s x : Operand)
    (ho : o.op = .call { callee := .builtin .append, args := #[s, x], argTypes := #[27, 27] })
    (base : Nat) (v : Value) (n : Nat) (l1 : List EntD) (hs : a.eval s = v) (hown : w.ownsRow base 26 3 v n (flatE l1)) (ad : Addr) (m c : Nat) (l2 : List EntD) (hx : a.eval x = .slice (some ad) m c) (hl : l2.length = m)
    (hnews : ∀ j u, (flatE l2)[j]? = some u → w.cell? (ad.add j) = some u) (hsm : n + m ≤ 100) (hbase : base ≤ w.heap.size)
    (h : ∀ a' c' w', w'.ownsRow base 26 3 (.slice a' (n + m) c') (n + m) (flatE (l1 ++ l2)) → w.grownBy w' v.ownBlock → K (a.put o.dst (.slice a' (n + m) c')) w') :
    if Region.wanted o (yielded ops a.tmps) = true then Oper.wp Tryz.prog o a w K Q else E := by
  obtain ⟨i0, hi, hz0, hz1, hz2⟩ := info_ent13
  have hw : Region.wanted o (yielded ops a.tmps) = true := by simp [Region.wanted, hgd]
  rw [if_pos hw]
  refine wp_append_own w s x 27 ho base 26 i0 (.agg #[.string ⟨#[]⟩, .string ⟨#[]⟩, .bool false]) 3 40 Tryz.underlying27 hi hz0 hz1 hz2 rfl (by decide) v n (flatE l1) hs hown ad m c (flatE l2) hx (by rw [flatE_len, hl]) hnews (flatE_one13 _) (by unfold maxLen; omega) (by omega) hbase ?_
  intro v' w' h2 h3 _
  obtain ⟨a', c', rfl⟩ := own_val13 h2
  rw [← flatE_app] at h2
  exact h a' c' w' h2 h3
set_option maxHeartbeats 4000000 in
set_option maxRecDepth 100000 in
theorem ents13_0 (n : Int) (u : Nat) (hk1 : IntKind.u64.wrap n = (u : Int)) (hk2 : Int.tmod (u : Int) 9 = 0) (w : World) :
    Calls Tryz.prog 12 #[.int .i64 n] w fun e w' => ∃ v, e = .returned (.agg #[.string ⟨#[]⟩, v, .slice none 0 0]) ∧ EntsAt w'.heap.size w' v (rotA 0) ∧ Below w.heap.size w w' := by
  have hb0 := ((Below.refl w.heap.size w).alloc (Nat.le_refl _) (.cells #[.string ⟨#[]⟩, .slice none 0 0, .slice none 0 0] 30))
  have hb1 := hb0.alloc hb0.size (.cells #[.string ⟨#[101]⟩, .string ⟨#[120, 32, 121]⟩, .bool false, .string ⟨#[102]⟩, .string ⟨#[38, 101, 59, 38, 101, 59]⟩, .bool false, .string ⟨#[103]⟩, .string ⟨#[38, 102, 59, 38, 102, 59, 38, 102, 59]⟩, .bool false, .string ⟨#[104]⟩, .string ⟨#[]⟩, .bool true, .string ⟨#[105]⟩, .string ⟨#[60]⟩, .bool false, .string ⟨#[106]⟩, .string ⟨#[38, 107, 59]⟩, .bool false, .string ⟨#[107]⟩, .string ⟨#[38, 106, 59]⟩, .bool false, .string ⟨#[109]⟩, .string ⟨#[38, 35, 57, 59, 38, 108, 116, 59]⟩, .bool false, .string ⟨#[111]⟩, .string ⟨#[]⟩, .bool false] 26)
  have hsz0 : (w.alloc (.cells #[.string ⟨#[]⟩, .slice none 0 0, .slice none 0 0] 30)).heap.size = w.heap.size + 1 := by show (w.heap.push _).size = _; rw [Array.size_push]
  have hblk : ((w.alloc (.cells #[.string ⟨#[]⟩, .slice none 0 0, .slice none 0 0] 30)).alloc (.cells #[.string ⟨#[101]⟩, .string ⟨#[120, 32, 121]⟩, .bool false, .string ⟨#[102]⟩, .string ⟨#[38, 101, 59, 38, 101, 59]⟩, .bool false, .string ⟨#[103]⟩, .string ⟨#[38, 102, 59, 38, 102, 59, 38, 102, 59]⟩, .bool false, .string ⟨#[104]⟩, .string ⟨#[]⟩, .bool true, .string ⟨#[105]⟩, .string ⟨#[60]⟩, .bool false, .string ⟨#[106]⟩, .string ⟨#[38, 107, 59]⟩, .bool false, .string ⟨#[107]⟩, .string ⟨#[38, 106, 59]⟩, .bool false, .string ⟨#[109]⟩, .string ⟨#[38, 35, 57, 59, 38, 108, 116, 59]⟩, .bool false, .string ⟨#[111]⟩, .string ⟨#[]⟩, .bool false] 26)).heap[w.heap.size + 1]? = some (.cells #[.string ⟨#[101]⟩, .string ⟨#[120, 32, 121]⟩, .bool false, .string ⟨#[102]⟩, .string ⟨#[38, 101, 59, 38, 101, 59]⟩, .bool false, .string ⟨#[103]⟩, .string ⟨#[38, 102, 59, 38, 102, 59, 38, 102, 59]⟩, .bool false, .string ⟨#[104]⟩, .string ⟨#[]⟩, .bool true, .string ⟨#[105]⟩, .string ⟨#[60]⟩, .bool false, .string ⟨#[106]⟩, .string ⟨#[38, 107, 59]⟩, .bool false, .string ⟨#[107]⟩, .string ⟨#[38, 106, 59]⟩, .bool false, .string ⟨#[109]⟩, .string ⟨#[38, 35, 57, 59, 38, 108, 116, 59]⟩, .bool false, .string ⟨#[111]⟩, .string ⟨#[]⟩, .bool false] 26 (0, 0)) := by
    rw [← hsz0]
    show (Array.push _ _)[_]? = _
    rw [Array.getElem?_push_size]
  have hbox := (World.rowIs_alloc w #[.string ⟨#[]⟩, .slice none 0 0, .slice none 0 0] 30 (fun i => if i = 0 then .string ⟨#[]⟩ else .slice none 0 0) (by
    intro i hi
    rcases (show i = 0 ∨ i = 1 ∨ i = 2 by have : i < 3 := hi; omega) with rfl | rfl | rfl <;> rfl)).alloc (.cells #[.string ⟨#[101]⟩, .string ⟨#[120, 32, 121]⟩, .bool false, .string ⟨#[102]⟩, .string ⟨#[38, 101, 59, 38, 101, 59]⟩, .bool false, .string ⟨#[103]⟩, .string ⟨#[38, 102, 59, 38, 102, 59, 38, 102, 59]⟩, .bool false, .string ⟨#[104]⟩, .string ⟨#[]⟩, .bool true, .string ⟨#[105]⟩, .string ⟨#[60]⟩, .bool false, .string ⟨#[106]⟩, .string ⟨#[38, 107, 59]⟩, .bool false, .string ⟨#[107]⟩, .string ⟨#[38, 106, 59]⟩, .bool false, .string ⟨#[109]⟩, .string ⟨#[38, 35, 57, 59, 38, 108, 116, 59]⟩, .bool false, .string ⟨#[111]⟩, .string ⟨#[]⟩, .bool false] 26)
  go_enter Tryz.func12, Tryz.ntmps12
  go_wp2_with fail
  obtain ⟨W1, hW1⟩ : ∃ W1, (w.alloc (.cells #[.string ⟨#[]⟩, .slice none 0 0, .slice none 0 0] 30)).alloc (.cells #[.string ⟨#[101]⟩, .string ⟨#[120, 32, 121]⟩, .bool false, .string ⟨#[102]⟩, .string ⟨#[38, 101, 59, 38, 101, 59]⟩, .bool false, .string ⟨#[103]⟩, .string ⟨#[38, 102, 59, 38, 102, 59, 38, 102, 59]⟩, .bool false, .string ⟨#[104]⟩, .string ⟨#[]⟩, .bool true, .string ⟨#[105]⟩, .string ⟨#[60]⟩, .bool false, .string ⟨#[106]⟩, .string ⟨#[38, 107, 59]⟩, .bool false, .string ⟨#[107]⟩, .string ⟨#[38, 106, 59]⟩, .bool false, .string ⟨#[109]⟩, .string ⟨#[38, 35, 57, 59, 38, 108, 116, 59]⟩, .bool false, .string ⟨#[111]⟩, .string ⟨#[]⟩, .bool false] 26) = W1 := ⟨_, rfl⟩
  rw [hW1] at hb1 hblk hbox ⊢
  clear hW1 hb0 hsz0
  have HBX := Lib.hid hbox
  have HB1 := Lib.hid hb1
  have hlt1 : w.heap.size < W1.heap.size := hbox.lt
  have hb2 := (Below.refl W1.heap.size W1).alloc (Nat.le_refl _) (.cells #[] 26)
  have HO2 : Hid ((W1.alloc (.cells #[] 26)).drew.ownsRow W1.heap.size 26 3 (.slice (some ⟨W1.heap.size, 0, none⟩) 0 0) 0 (flatE [])) := Lib.hid (own_nothing13 W1)
  have HB2 := Lib.hid hb2.drew
  have HK2 : Hid ((W1.alloc (.cells #[] 26)).drew.heap[w.heap.size + 1]? = some (.cells #[.string ⟨#[101]⟩, .string ⟨#[120, 32, 121]⟩, .bool false, .string ⟨#[102]⟩, .string ⟨#[38, 101, 59, 38, 101, 59]⟩, .bool false, .string ⟨#[103]⟩, .string ⟨#[38, 102, 59, 38, 102, 59, 38, 102, 59]⟩, .bool false, .string ⟨#[104]⟩, .string ⟨#[]⟩, .bool true, .string ⟨#[105]⟩, .string ⟨#[60]⟩, .bool false, .string ⟨#[106]⟩, .string ⟨#[38, 107, 59]⟩, .bool false, .string ⟨#[107]⟩, .string ⟨#[38, 106, 59]⟩, .bool false, .string ⟨#[109]⟩, .string ⟨#[38, 35, 57, 59, 38, 108, 116, 59]⟩, .bool false, .string ⟨#[111]⟩, .string ⟨#[]⟩, .bool false] 26 (0, 0))) := Lib.hid ((hb2.block _ (by have := (Array.getElem?_eq_some_iff.1 hblk).1; exact this)).trans hblk)
  have HBK := Lib.hid hblk
  have PC1 := Lib.hid (part_cells HK2.out (entA.take 0) (entA.drop 0) [] (by kernel_rfl) 0 rfl)
  have PC2 : Hid (∀ W : World, W.heap[w.heap.size + 1]? = some (.cells #[.string ⟨#[101]⟩, .string ⟨#[120, 32, 121]⟩, .bool false, .string ⟨#[102]⟩, .string ⟨#[38, 101, 59, 38, 101, 59]⟩, .bool false, .string ⟨#[103]⟩, .string ⟨#[38, 102, 59, 38, 102, 59, 38, 102, 59]⟩, .bool false, .string ⟨#[104]⟩, .string ⟨#[]⟩, .bool true, .string ⟨#[105]⟩, .string ⟨#[60]⟩, .bool false, .string ⟨#[106]⟩, .string ⟨#[38, 107, 59]⟩, .bool false, .string ⟨#[107]⟩, .string ⟨#[38, 106, 59]⟩, .bool false, .string ⟨#[109]⟩, .string ⟨#[38, 35, 57, 59, 38, 108, 116, 59]⟩, .bool false, .string ⟨#[111]⟩, .string ⟨#[]⟩, .bool false] 26 (0, 0)) → ∀ j u, (flatE (entA.take 0))[j]? = some u → W.cell? ((⟨w.heap.size + 1, 0, none⟩ : Addr).add j) = some u) := Lib.hid (fun W hW => part_cells hW [] (entA.take 0) (entA.drop 0) (by kernel_rfl) 0 rfl)
  clear hb1 hblk hb2 hbox
  go_region_law (first
    | (refine step_ents (by rfl) _ _ (by rfl) W1.heap.size (.slice (some ⟨W1.heap.size, 0, none⟩) 0 0) 0 [] (by rfl) HO2.out ⟨w.heap.size + 1, 0, none⟩ 9 9 (entA.drop 0) (by rfl) (by rfl) PC1.out (by decide) HB2.out.size ?_; intro a4 c4 W4 hown4 hgr4; have HB4 := Lib.hid (HB2.out.grown hgr4 HB2.out.size (own_ge13 HO2.out)); have HO4 := Lib.hid hown4; have HK4 := Lib.hid ((HB4.out.block (w.heap.size + 1) (Array.getElem?_eq_some_iff.1 HBK.out).1).trans HBK.out); clear hgr4 hown4)
    | (refine step_ents (by rfl) _ _ (by rfl) W1.heap.size _ _ _ (by rfl) HO4.out ⟨w.heap.size + 1, 0, none⟩ 0 9 (entA.take 0) (by rfl) (by rfl) (PC2.out _ HK4.out) (by decide) HB4.out.size ?_; intro a5 c5 W5 hown5 hgr5; have HB5 := Lib.hid (HB4.out.grown hgr5 HB4.out.size (own_ge13 HO4.out)); have HO5 := Lib.hid hown5; have hr5 := HBX.out.of_block (HB5.out.block w.heap.size hlt1); have p0 := hr5.cell (i := 0) (show 0 < 3 by decide); have p1 := hr5.cell (i := 1) (show 1 < 3 by decide); have p2 := hr5.cell (i := 2) (show 2 < 3 by decide); have f0 := hr5.frozen 0; have f1 := hr5.frozen 1; have f2 := hr5.frozen 2; have HR5 := Lib.hid hr5; clear hr5 hgr5 hown5))
  obtain ⟨W6, hW6⟩ : ∃ W6, ((W5.setCell ⟨w.heap.size, 0, none⟩ (.string ⟨#[]⟩)).setCell ⟨w.heap.size, 1, none⟩ (.slice a5 9 c5)).setCell ⟨w.heap.size, 2, none⟩ (.slice none 0 0) = W6 := ⟨_, rfl⟩
  have hr6 := (World.rowIs.set (World.rowIs.set (World.rowIs.set HR5.out 0 (.string ⟨#[]⟩)) 1 (.slice a5 9 c5)) 2 (.slice none 0 0))
  have hk6 : ∀ q, W1.heap.size ≤ q → (((W5.setCell ⟨w.heap.size, 0, none⟩ (.string ⟨#[]⟩)).setCell ⟨w.heap.size, 1, none⟩ (.slice a5 9 c5)).setCell ⟨w.heap.size, 2, none⟩ (.slice none 0 0)).heap[q]? = W5.heap[q]? := fun q hq => ((Below.heap_setCell _ _ _ _ (by show q ≠ w.heap.size; omega)).trans (Below.heap_setCell _ _ _ _ (by show q ≠ w.heap.size; omega))).trans (Below.heap_setCell _ _ _ _ (by show q ≠ w.heap.size; omega))
  have hb6 : Below w.heap.size w (((W5.setCell ⟨w.heap.size, 0, none⟩ (.string ⟨#[]⟩)).setCell ⟨w.heap.size, 1, none⟩ (.slice a5 9 c5)).setCell ⟨w.heap.size, 2, none⟩ (.slice none 0 0)) := (((HB1.out.trans (HB5.out.mono (Nat.le_of_lt hlt1))).setCell (Nat.le_refl _) _).setCell (Nat.le_refl _) _).setCell (Nat.le_refl _) _
  rw [hW6] at hr6 hk6 hb6 ⊢
  clear hW6
  have d0 : W6.cell? ⟨w.heap.size, 0, none⟩ = some (.string ⟨#[]⟩) := hr6.cell (i := 0) (show 0 < 3 by decide)
  have d1 : W6.cell? ⟨w.heap.size, 1, none⟩ = some (.slice a5 9 c5) := hr6.cell (i := 1) (show 1 < 3 by decide)
  have d2 : W6.cell? ⟨w.heap.size, 2, none⟩ = some (.slice none 0 0) := hr6.cell (i := 2) (show 2 < 3 by decide)
  have HEN : Hid (EntsAt W6.heap.size W6 (.slice a5 9 c5) (rotA 0)) := Lib.hid (owns_ents (own_keep13 (show W5.ownsRow W1.heap.size 26 3 (.slice a5 9 c5) (rotA 0).length (flatE (rotA 0)) from HO5.out) hk6))
  have HB6 := Lib.hid hb6
  clear hr6 hk6 hb6 p0 p1 p2 f0 f1 f2
  go_wp2
  refine bodyPost_ret (by simp [results, Tryz.results12, d0, d1, d2, go_sem]; try rfl) rfl ?_
  exact ⟨_, rfl, HEN.out, HB6.out⟩
set_option maxHeartbeats 4000000 in
set_option maxRecDepth 100000 in
theorem ents13_1 (n : Int) (u : Nat) (hk1 : IntKind.u64.wrap n = (u : Int)) (hk2 : Int.tmod (u : Int) 9 = 1) (w : World) :
    Calls Tryz.prog 12 #[.int .i64 n] w fun e w' => ∃ v, e = .returned (.agg #[.string ⟨#[]⟩, v, .slice none 0 0]) ∧ EntsAt w'.heap.size w' v (rotA 1) ∧ Below w.heap.size w w' := by
  have hb0 := ((Below.refl w.heap.size w).alloc (Nat.le_refl _) (.cells #[.string ⟨#[]⟩, .slice none 0 0, .slice none 0 0] 30))
  have hb1 := hb0.alloc hb0.size (.cells #[.string ⟨#[101]⟩, .string ⟨#[120, 32, 121]⟩, .bool false, .string ⟨#[102]⟩, .string ⟨#[38, 101, 59, 38, 101, 59]⟩, .bool false, .string ⟨#[103]⟩, .string ⟨#[38, 102, 59, 38, 102, 59, 38, 102, 59]⟩, .bool false, .string ⟨#[104]⟩, .string ⟨#[]⟩, .bool true, .string ⟨#[105]⟩, .string ⟨#[60]⟩, .bool false, .string ⟨#[106]⟩, .string ⟨#[38, 107, 59]⟩, .bool false, .string ⟨#[107]⟩, .string ⟨#[38, 106, 59]⟩, .bool false, .string ⟨#[109]⟩, .string ⟨#[38, 35, 57, 59, 38, 108, 116, 59]⟩, .bool false, .string ⟨#[111]⟩, .string ⟨#[]⟩, .bool false] 26)
  have hsz0 : (w.alloc (.cells #[.string ⟨#[]⟩, .slice none 0 0, .slice none 0 0] 30)).heap.size = w.heap.size + 1 := by show (w.heap.push _).size = _; rw [Array.size_push]
  have hblk : ((w.alloc (.cells #[.string ⟨#[]⟩, .slice none 0 0, .slice none 0 0] 30)).alloc (.cells #[.string ⟨#[101]⟩, .string ⟨#[120, 32, 121]⟩, .bool false, .string ⟨#[102]⟩, .string ⟨#[38, 101, 59, 38, 101, 59]⟩, .bool false, .string ⟨#[103]⟩, .string ⟨#[38, 102, 59, 38, 102, 59, 38, 102, 59]⟩, .bool false, .string ⟨#[104]⟩, .string ⟨#[]⟩, .bool true, .string ⟨#[105]⟩, .string ⟨#[60]⟩, .bool false, .string ⟨#[106]⟩, .string ⟨#[38, 107, 59]⟩, .bool false, .string ⟨#[107]⟩, .string ⟨#[38, 106, 59]⟩, .bool false, .string ⟨#[109]⟩, .string ⟨#[38, 35, 57, 59, 38, 108, 116, 59]⟩, .bool false, .string ⟨#[111]⟩, .string ⟨#[]⟩, .bool false] 26)).heap[w.heap.size + 1]? = some (.cells #[.string ⟨#[101]⟩, .string ⟨#[120, 32, 121]⟩, .bool false, .string ⟨#[102]⟩, .string ⟨#[38, 101, 59, 38, 101, 59]⟩, .bool false, .string ⟨#[103]⟩, .string ⟨#[38, 102, 59, 38, 102, 59, 38, 102, 59]⟩, .bool false, .string ⟨#[104]⟩, .string ⟨#[]⟩, .bool true, .string ⟨#[105]⟩, .string ⟨#[60]⟩, .bool false, .string ⟨#[106]⟩, .string ⟨#[38, 107, 59]⟩, .bool false, .string ⟨#[107]⟩, .string ⟨#[38, 106, 59]⟩, .bool false, .string ⟨#[109]⟩, .string ⟨#[38, 35, 57, 59, 38, 108, 116, 59]⟩, .bool false, .string ⟨#[111]⟩, .string ⟨#[]⟩, .bool false] 26 (0, 0)) := by
    rw [← hsz0]
    show (Array.push _ _)[_]? = _
    rw [Array.getElem?_push_size]
  have hbox := (World.rowIs_alloc w #[.string ⟨#[]⟩, .slice none 0 0, .slice none 0 0] 30 (fun i => if i = 0 then .string ⟨#[]⟩ else .slice none 0 0) (by
    intro i hi
    rcases (show i = 0 ∨ i = 1 ∨ i = 2 by have : i < 3 := hi; omega) with rfl | rfl | rfl <;> rfl)).alloc (.cells #[.string ⟨#[101]⟩, .string ⟨#[120, 32, 121]⟩, .bool false, .string ⟨#[102]⟩, .string ⟨#[38, 101, 59, 38, 101, 59]⟩, .bool false, .string ⟨#[103]⟩, .string ⟨#[38, 102, 59, 38, 102, 59, 38, 102, 59]⟩, .bool false, .string ⟨#[104]⟩, .string ⟨#[]⟩, .bool true, .string ⟨#[105]⟩, .string ⟨#[60]⟩, .bool false, .string ⟨#[106]⟩, .string ⟨#[38, 107, 59]⟩, .bool false, .string ⟨#[107]⟩, .string ⟨#[38, 106, 59]⟩, .bool false, .string ⟨#[109]⟩, .string ⟨#[38, 35, 57, 59, 38, 108, 116, 59]⟩, .bool false, .string ⟨#[111]⟩, .string ⟨#[]⟩, .bool false] 26)
  go_enter Tryz.func12, Tryz.ntmps12
  go_wp2_with fail
  obtain ⟨W1, hW1⟩ : ∃ W1, (w.alloc (.cells #[.string ⟨#[]⟩, .slice none 0 0, .slice none 0 0] 30)).alloc (.cells #[.string ⟨#[101]⟩, .string ⟨#[120, 32, 121]⟩, .bool false, .string ⟨#[102]⟩, .string ⟨#[38, 101, 59, 38, 101, 59]⟩, .bool false, .string ⟨#[103]⟩, .string ⟨#[38, 102, 59, 38, 102, 59, 38, 102, 59]⟩, .bool false, .string ⟨#[104]⟩, .string ⟨#[]⟩, .bool true, .string ⟨#[105]⟩, .string ⟨#[60]⟩, .bool false, .string ⟨#[106]⟩, .string ⟨#[38, 107, 59]⟩, .bool false, .string ⟨#[107]⟩, .string ⟨#[38, 106, 59]⟩, .bool false, .string ⟨#[109]⟩, .string ⟨#[38, 35, 57, 59, 38, 108, 116, 59]⟩, .bool false, .string ⟨#[111]⟩, .string ⟨#[]⟩, .bool false] 26) = W1 := ⟨_, rfl⟩
  rw [hW1] at hb1 hblk hbox ⊢
  clear hW1 hb0 hsz0
  have HBX := Lib.hid hbox
  have HB1 := Lib.hid hb1
  have hlt1 : w.heap.size < W1.heap.size := hbox.lt
  have hb2 := (Below.refl W1.heap.size W1).alloc (Nat.le_refl _) (.cells #[] 26)
  have HO2 : Hid ((W1.alloc (.cells #[] 26)).drew.ownsRow W1.heap.size 26 3 (.slice (some ⟨W1.heap.size, 0, none⟩) 0 0) 0 (flatE [])) := Lib.hid (own_nothing13 W1)
  have HB2 := Lib.hid hb2.drew
  have HK2 : Hid ((W1.alloc (.cells #[] 26)).drew.heap[w.heap.size + 1]? = some (.cells #[.string ⟨#[101]⟩, .string ⟨#[120, 32, 121]⟩, .bool false, .string ⟨#[102]⟩, .string ⟨#[38, 101, 59, 38, 101, 59]⟩, .bool false, .string ⟨#[103]⟩, .string ⟨#[38, 102, 59, 38, 102, 59, 38, 102, 59]⟩, .bool false, .string ⟨#[104]⟩, .string ⟨#[]⟩, .bool true, .string ⟨#[105]⟩, .string ⟨#[60]⟩, .bool false, .string ⟨#[106]⟩, .string ⟨#[38, 107, 59]⟩, .bool false, .string ⟨#[107]⟩, .string ⟨#[38, 106, 59]⟩, .bool false, .string ⟨#[109]⟩, .string ⟨#[38, 35, 57, 59, 38, 108, 116, 59]⟩, .bool false, .string ⟨#[111]⟩, .string ⟨#[]⟩, .bool false] 26 (0, 0))) := Lib.hid ((hb2.block _ (by have := (Array.getElem?_eq_some_iff.1 hblk).1; exact this)).trans hblk)
  have HBK := Lib.hid hblk
  have PC1 := Lib.hid (part_cells HK2.out (entA.take 1) (entA.drop 1) [] (by kernel_rfl) 3 rfl)
  have PC2 : Hid (∀ W : World, W.heap[w.heap.size + 1]? = some (.cells #[.string ⟨#[101]⟩, .string ⟨#[120, 32, 121]⟩, .bool false, .string ⟨#[102]⟩, .string ⟨#[38, 101, 59, 38, 101, 59]⟩, .bool false, .string ⟨#[103]⟩, .string ⟨#[38, 102, 59, 38, 102, 59, 38, 102, 59]⟩, .bool false, .string ⟨#[104]⟩, .string ⟨#[]⟩, .bool true, .string ⟨#[105]⟩, .string ⟨#[60]⟩, .bool false, .string ⟨#[106]⟩, .string ⟨#[38, 107, 59]⟩, .bool false, .string ⟨#[107]⟩, .string ⟨#[38, 106, 59]⟩, .bool false, .string ⟨#[109]⟩, .string ⟨#[38, 35, 57, 59, 38, 108, 116, 59]⟩, .bool false, .string ⟨#[111]⟩, .string ⟨#[]⟩, .bool false] 26 (0, 0)) → ∀ j u, (flatE (entA.take 1))[j]? = some u → W.cell? ((⟨w.heap.size + 1, 0, none⟩ : Addr).add j) = some u) := Lib.hid (fun W hW => part_cells hW [] (entA.take 1) (entA.drop 1) (by kernel_rfl) 0 rfl)
  clear hb1 hblk hb2 hbox
  go_region_law (first
    | (refine step_ents (by rfl) _ _ (by rfl) W1.heap.size (.slice (some ⟨W1.heap.size, 0, none⟩) 0 0) 0 [] (by rfl) HO2.out ⟨w.heap.size + 1, 3, none⟩ 8 8 (entA.drop 1) (by rfl) (by rfl) PC1.out (by decide) HB2.out.size ?_; intro a4 c4 W4 hown4 hgr4; have HB4 := Lib.hid (HB2.out.grown hgr4 HB2.out.size (own_ge13 HO2.out)); have HO4 := Lib.hid hown4; have HK4 := Lib.hid ((HB4.out.block (w.heap.size + 1) (Array.getElem?_eq_some_iff.1 HBK.out).1).trans HBK.out); clear hgr4 hown4)
    | (refine step_ents (by rfl) _ _ (by rfl) W1.heap.size _ _ _ (by rfl) HO4.out ⟨w.heap.size + 1, 0, none⟩ 1 9 (entA.take 1) (by rfl) (by rfl) (PC2.out _ HK4.out) (by decide) HB4.out.size ?_; intro a5 c5 W5 hown5 hgr5; have HB5 := Lib.hid (HB4.out.grown hgr5 HB4.out.size (own_ge13 HO4.out)); have HO5 := Lib.hid hown5; have hr5 := HBX.out.of_block (HB5.out.block w.heap.size hlt1); have p0 := hr5.cell (i := 0) (show 0 < 3 by decide); have p1 := hr5.cell (i := 1) (show 1 < 3 by decide); have p2 := hr5.cell (i := 2) (show 2 < 3 by decide); have f0 := hr5.frozen 0; have f1 := hr5.frozen 1; have f2 := hr5.frozen 2; have HR5 := Lib.hid hr5; clear hr5 hgr5 hown5))
  obtain ⟨W6, hW6⟩ : ∃ W6, ((W5.setCell ⟨w.heap.size, 0, none⟩ (.string ⟨#[]⟩)).setCell ⟨w.heap.size, 1, none⟩ (.slice a5 9 c5)).setCell ⟨w.heap.size, 2, none⟩ (.slice none 0 0) = W6 := ⟨_, rfl⟩
  have hr6 := (World.rowIs.set (World.rowIs.set (World.rowIs.set HR5.out 0 (.string ⟨#[]⟩)) 1 (.slice a5 9 c5)) 2 (.slice none 0 0))
  have hk6 : ∀ q, W1.heap.size ≤ q → (((W5.setCell ⟨w.heap.size, 0, none⟩ (.string ⟨#[]⟩)).setCell ⟨w.heap.size, 1, none⟩ (.slice a5 9 c5)).setCell ⟨w.heap.size, 2, none⟩ (.slice none 0 0)).heap[q]? = W5.heap[q]? := fun q hq => ((Below.heap_setCell _ _ _ _ (by show q ≠ w.heap.size; omega)).trans (Below.heap_setCell _ _ _ _ (by show q ≠ w.heap.size; omega))).trans (Below.heap_setCell _ _ _ _ (by show q ≠ w.heap.size; omega))
  have hb6 : Below w.heap.size w (((W5.setCell ⟨w.heap.size, 0, none⟩ (.string ⟨#[]⟩)).setCell ⟨w.heap.size, 1, none⟩ (.slice a5 9 c5)).setCell ⟨w.heap.size, 2, none⟩ (.slice none 0 0)) := (((HB1.out.trans (HB5.out.mono (Nat.le_of_lt hlt1))).setCell (Nat.le_refl _) _).setCell (Nat.le_refl _) _).setCell (Nat.le_refl _) _
  rw [hW6] at hr6 hk6 hb6 ⊢
  clear hW6
  have d0 : W6.cell? ⟨w.heap.size, 0, none⟩ = some (.string ⟨#[]⟩) := hr6.cell (i := 0) (show 0 < 3 by decide)
  have d1 : W6.cell? ⟨w.heap.size, 1, none⟩ = some (.slice a5 9 c5) := hr6.cell (i := 1) (show 1 < 3 by decide)
  have d2 : W6.cell? ⟨w.heap.size, 2, none⟩ = some (.slice none 0 0) := hr6.cell (i := 2) (show 2 < 3 by decide)
  have HEN : Hid (EntsAt W6.heap.size W6 (.slice a5 9 c5) (rotA 1)) := Lib.hid (owns_ents (own_keep13 (show W5.ownsRow W1.heap.size 26 3 (.slice a5 9 c5) (rotA 1).length (flatE (rotA 1)) from HO5.out) hk6))
  have HB6 := Lib.hid hb6
  clear hr6 hk6 hb6 p0 p1 p2 f0 f1 f2
  go_wp2
  refine bodyPost_ret (by simp [results, Tryz.results12, d0, d1, d2, go_sem]; try rfl) rfl ?_
  exact ⟨_, rfl, HEN.out, HB6.out⟩
set_option maxHeartbeats 4000000 in
set_option maxRecDepth 100000 in
theorem ents13_2 (n : Int) (u : Nat) (hk1 : IntKind.u64.wrap n = (u : Int)) (hk2 : Int.tmod (u : Int) 9 = 2) (w : World) :
    Calls Tryz.prog 12 #[.int .i64 n] w fun e w' => ∃ v, e = .returned (.agg #[.string ⟨#[]⟩, v, .slice none 0 0]) ∧ EntsAt w'.heap.size w' v (rotA 2) ∧ Below w.heap.size w w' := by
  have hb0 := ((Below.refl w.heap.size w).alloc (Nat.le_refl _) (.cells #[.string ⟨#[]⟩, .slice none 0 0, .slice none 0 0] 30))
  have hb1 := hb0.alloc hb0.size (.cells #[.string ⟨#[101]⟩, .string ⟨#[120, 32, 121]⟩, .bool false, .string ⟨#[102]⟩, .string ⟨#[38, 101, 59, 38, 101, 59]⟩, .bool false, .string ⟨#[103]⟩, .string ⟨#[38, 102, 59, 38, 102, 59, 38, 102, 59]⟩, .bool false, .string ⟨#[104]⟩, .string ⟨#[]⟩, .bool true, .string ⟨#[105]⟩, .string ⟨#[60]⟩, .bool false, .string ⟨#[106]⟩, .string ⟨#[38, 107, 59]⟩, .bool false, .string ⟨#[107]⟩, .string ⟨#[38, 106, 59]⟩, .bool false, .string ⟨#[109]⟩, .string ⟨#[38, 35, 57, 59, 38, 108, 116, 59]⟩, .bool false, .string ⟨#[111]⟩, .string ⟨#[]⟩, .bool false] 26)
  have hsz0 : (w.alloc (.cells #[.string ⟨#[]⟩, .slice none 0 0, .slice none 0 0] 30)).heap.size = w.heap.size + 1 := by show (w.heap.push _).size = _; rw [Array.size_push]
  have hblk : ((w.alloc (.cells #[.string ⟨#[]⟩, .slice none 0 0, .slice none 0 0] 30)).alloc (.cells #[.string ⟨#[101]⟩, .string ⟨#[120, 32, 121]⟩, .bool false, .string ⟨#[102]⟩, .string ⟨#[38, 101, 59, 38, 101, 59]⟩, .bool false, .string ⟨#[103]⟩, .string ⟨#[38, 102, 59, 38, 102, 59, 38, 102, 59]⟩, .bool false, .string ⟨#[104]⟩, .string ⟨#[]⟩, .bool true, .string ⟨#[105]⟩, .string ⟨#[60]⟩, .bool false, .string ⟨#[106]⟩, .string ⟨#[38, 107, 59]⟩, .bool false, .string ⟨#[107]⟩, .string ⟨#[38, 106, 59]⟩, .bool false, .string ⟨#[109]⟩, .string ⟨#[38, 35, 57, 59, 38, 108, 116, 59]⟩, .bool false, .string ⟨#[111]⟩, .string ⟨#[]⟩, .bool false] 26)).heap[w.heap.size + 1]? = some (.cells #[.string ⟨#[101]⟩, .string ⟨#[120, 32, 121]⟩, .bool false, .string ⟨#[102]⟩, .string ⟨#[38, 101, 59, 38, 101, 59]⟩, .bool false, .string ⟨#[103]⟩, .string ⟨#[38, 102, 59, 38, 102, 59, 38, 102, 59]⟩, .bool false, .string ⟨#[104]⟩, .string ⟨#[]⟩, .bool true, .string ⟨#[105]⟩, .string ⟨#[60]⟩, .bool false, .string ⟨#[106]⟩, .string ⟨#[38, 107, 59]⟩, .bool false, .string ⟨#[107]⟩, .string ⟨#[38, 106, 59]⟩, .bool false, .string ⟨#[109]⟩, .string ⟨#[38, 35, 57, 59, 38, 108, 116, 59]⟩, .bool false, .string ⟨#[111]⟩, .string ⟨#[]⟩, .bool false] 26 (0, 0)) := by
    rw [← hsz0]
    show (Array.push _ _)[_]? = _
    rw [Array.getElem?_push_size]
  have hbox := (World.rowIs_alloc w #[.string ⟨#[]⟩, .slice none 0 0, .slice none 0 0] 30 (fun i => if i = 0 then .string ⟨#[]⟩ else .slice none 0 0) (by
    intro i hi
    rcases (show i = 0 ∨ i = 1 ∨ i = 2 by have : i < 3 := hi; omega) with rfl | rfl | rfl <;> rfl)).alloc (.cells #[.string ⟨#[101]⟩, .string ⟨#[120, 32, 121]⟩, .bool false, .string ⟨#[102]⟩, .string ⟨#[38, 101, 59, 38, 101, 59]⟩, .bool false, .string ⟨#[103]⟩, .string ⟨#[38, 102, 59, 38, 102, 59, 38, 102, 59]⟩, .bool false, .string ⟨#[104]⟩, .string ⟨#[]⟩, .bool true, .string ⟨#[105]⟩, .string ⟨#[60]⟩, .bool false, .string ⟨#[106]⟩, .string ⟨#[38, 107, 59]⟩, .bool false, .string ⟨#[107]⟩, .string ⟨#[38, 106, 59]⟩, .bool false, .string ⟨#[109]⟩, .string ⟨#[38, 35, 57, 59, 38, 108, 116, 59]⟩, .bool false, .string ⟨#[111]⟩, .string ⟨#[]⟩, .bool false] 26)
  go_enter Tryz.func12, Tryz.ntmps12
  go_wp2_with fail
  obtain ⟨W1, hW1⟩ : ∃ W1, (w.alloc (.cells #[.string ⟨#[]⟩, .slice none 0 0, .slice none 0 0] 30)).alloc (.cells #[.string ⟨#[101]⟩, .string ⟨#[120, 32, 121]⟩, .bool false, .string ⟨#[102]⟩, .string ⟨#[38, 101, 59, 38, 101, 59]⟩, .bool false, .string ⟨#[103]⟩, .string ⟨#[38, 102, 59, 38, 102, 59, 38, 102, 59]⟩, .bool false, .string ⟨#[104]⟩, .string ⟨#[]⟩, .bool true, .string ⟨#[105]⟩, .string ⟨#[60]⟩, .bool false, .string ⟨#[106]⟩, .string ⟨#[38, 107, 59]⟩, .bool false, .string ⟨#[107]⟩, .string ⟨#[38, 106, 59]⟩, .bool false, .string ⟨#[109]⟩, .string ⟨#[38, 35, 57, 59, 38, 108, 116, 59]⟩, .bool false, .string ⟨#[111]⟩, .string ⟨#[]⟩, .bool false] 26) = W1 := ⟨_, rfl⟩
  rw [hW1] at hb1 hblk hbox ⊢
  clear hW1 hb0 hsz0
  have HBX := Lib.hid hbox
  have HB1 := Lib.hid hb1
  have hlt1 : w.heap.size < W1.heap.size := hbox.lt
  have hb2 := (Below.refl W1.heap.size W1).alloc (Nat.le_refl _) (.cells #[] 26)
  have HO2 : Hid ((W1.alloc (.cells #[] 26)).drew.ownsRow W1.heap.size 26 3 (.slice (some ⟨W1.heap.size, 0, none⟩) 0 0) 0 (flatE [])) := Lib.hid (own_nothing13 W1)
  have HB2 := Lib.hid hb2.drew
  have HK2 : Hid ((W1.alloc (.cells #[] 26)).drew.heap[w.heap.size + 1]? = some (.cells #[.string ⟨#[101]⟩, .string ⟨#[120, 32, 121]⟩, .bool false, .string ⟨#[102]⟩, .string ⟨#[38, 101, 59, 38, 101, 59]⟩, .bool false, .string ⟨#[103]⟩, .string ⟨#[38, 102, 59, 38, 102, 59, 38, 102, 59]⟩, .bool false, .string ⟨#[104]⟩, .string ⟨#[]⟩, .bool true, .string ⟨#[105]⟩, .string ⟨#[60]⟩, .bool false, .string ⟨#[106]⟩, .string ⟨#[38, 107, 59]⟩, .bool false, .string ⟨#[107]⟩, .string ⟨#[38, 106, 59]⟩, .bool false, .string ⟨#[109]⟩, .string ⟨#[38, 35, 57, 59, 38, 108, 116, 59]⟩, .bool false, .string ⟨#[111]⟩, .string ⟨#[]⟩, .bool false] 26 (0, 0))) := Lib.hid ((hb2.block _ (by have := (Array.getElem?_eq_some_iff.1 hblk).1; exact this)).trans hblk)
  have HBK := Lib.hid hblk
  have PC1 := Lib.hid (part_cells HK2.out (entA.take 2) (entA.drop 2) [] (by kernel_rfl) 6 rfl)
  have PC2 : Hid (∀ W : World, W.heap[w.heap.size + 1]? = some (.cells #[.string ⟨#[101]⟩, .string ⟨#[120, 32, 121]⟩, .bool false, .string ⟨#[102]⟩, .string ⟨#[38, 101, 59, 38, 101, 59]⟩, .bool false, .string ⟨#[103]⟩, .string ⟨#[38, 102, 59, 38, 102, 59, 38, 102, 59]⟩, .bool false, .string ⟨#[104]⟩, .string ⟨#[]⟩, .bool true, .string ⟨#[105]⟩, .string ⟨#[60]⟩, .bool false, .string ⟨#[106]⟩, .string ⟨#[38, 107, 59]⟩, .bool false, .string ⟨#[107]⟩, .string ⟨#[38, 106, 59]⟩, .bool false, .string ⟨#[109]⟩, .string ⟨#[38, 35, 57, 59, 38, 108, 116, 59]⟩, .bool false, .string ⟨#[111]⟩, .string ⟨#[]⟩, .bool false] 26 (0, 0)) → ∀ j u, (flatE (entA.take 2))[j]? = some u → W.cell? ((⟨w.heap.size + 1, 0, none⟩ : Addr).add j) = some u) := Lib.hid (fun W hW => part_cells hW [] (entA.take 2) (entA.drop 2) (by kernel_rfl) 0 rfl)
  clear hb1 hblk hb2 hbox
  go_region_law (first
    | (refine step_ents (by rfl) _ _ (by rfl) W1.heap.size (.slice (some ⟨W1.heap.size, 0, none⟩) 0 0) 0 [] (by rfl) HO2.out ⟨w.heap.size + 1, 6, none⟩ 7 7 (entA.drop 2) (by rfl) (by rfl) PC1.out (by decide) HB2.out.size ?_; intro a4 c4 W4 hown4 hgr4; have HB4 := Lib.hid (HB2.out.grown hgr4 HB2.out.size (own_ge13 HO2.out)); have HO4 := Lib.hid hown4; have HK4 := Lib.hid ((HB4.out.block (w.heap.size + 1) (Array.getElem?_eq_some_iff.1 HBK.out).1).trans HBK.out); clear hgr4 hown4)
    | (refine step_ents (by rfl) _ _ (by rfl) W1.heap.size _ _ _ (by rfl) HO4.out ⟨w.heap.size + 1, 0, none⟩ 2 9 (entA.take 2) (by rfl) (by rfl) (PC2.out _ HK4.out) (by decide) HB4.out.size ?_; intro a5 c5 W5 hown5 hgr5; have HB5 := Lib.hid (HB4.out.grown hgr5 HB4.out.size (own_ge13 HO4.out)); have HO5 := Lib.hid hown5; have hr5 := HBX.out.of_block (HB5.out.block w.heap.size hlt1); have p0 := hr5.cell (i := 0) (show 0 < 3 by decide); have p1 := hr5.cell (i := 1) (show 1 < 3 by decide); have p2 := hr5.cell (i := 2) (show 2 < 3 by decide); have f0 := hr5.frozen 0; have f1 := hr5.frozen 1; have f2 := hr5.frozen 2; have HR5 := Lib.hid hr5; clear hr5 hgr5 hown5))
  obtain ⟨W6, hW6⟩ : ∃ W6, ((W5.setCell ⟨w.heap.size, 0, none⟩ (.string ⟨#[]⟩)).setCell ⟨w.heap.size, 1, none⟩ (.slice a5 9 c5)).setCell ⟨w.heap.size, 2, none⟩ (.slice none 0 0) = W6 := ⟨_, rfl⟩
  have hr6 := (World.rowIs.set (World.rowIs.set (World.rowIs.set HR5.out 0 (.string ⟨#[]⟩)) 1 (.slice a5 9 c5)) 2 (.slice none 0 0))
  have hk6 : ∀ q, W1.heap.size ≤ q → (((W5.setCell ⟨w.heap.size, 0, none⟩ (.string ⟨#[]⟩)).setCell ⟨w.heap.size, 1, none⟩ (.slice a5 9 c5)).setCell ⟨w.heap.size, 2, none⟩ (.slice none 0 0)).heap[q]? = W5.heap[q]? := fun q hq => ((Below.heap_setCell _ _ _ _ (by show q ≠ w.heap.size; omega)).trans (Below.heap_setCell _ _ _ _ (by show q ≠ w.heap.size; omega))).trans (Below.heap_setCell _ _ _ _ (by show q ≠ w.heap.size; omega))
  have hb6 : Below w.heap.size w (((W5.setCell ⟨w.heap.size, 0, none⟩ (.string ⟨#[]⟩)).setCell ⟨w.heap.size, 1, none⟩ (.slice a5 9 c5)).setCell ⟨w.heap.size, 2, none⟩ (.slice none 0 0)) := (((HB1.out.trans (HB5.out.mono (Nat.le_of_lt hlt1))).setCell (Nat.le_refl _) _).setCell (Nat.le_refl _) _).setCell (Nat.le_refl _) _
  rw [hW6] at hr6 hk6 hb6 ⊢
  clear hW6
  have d0 : W6.cell? ⟨w.heap.size, 0, none⟩ = some (.string ⟨#[]⟩) := hr6.cell (i := 0) (show 0 < 3 by decide)
  have d1 : W6.cell? ⟨w.heap.size, 1, none⟩ = some (.slice a5 9 c5) := hr6.cell (i := 1) (show 1 < 3 by decide)
  have d2 : W6.cell? ⟨w.heap.size, 2, none⟩ = some (.slice none 0 0) := hr6.cell (i := 2) (show 2 < 3 by decide)
  have HEN : Hid (EntsAt W6.heap.size W6 (.slice a5 9 c5) (rotA 2)) := Lib.hid (owns_ents (own_keep13 (show W5.ownsRow W1.heap.size 26 3 (.slice a5 9 c5) (rotA 2).length (flatE (rotA 2)) from HO5.out) hk6))
  have HB6 := Lib.hid hb6
  clear hr6 hk6 hb6 p0 p1 p2 f0 f1 f2
  go_wp2
  refine bodyPost_ret (by simp [results, Tryz.results12, d0, d1, d2, go_sem]; try rfl) rfl ?_
  exact ⟨_, rfl, HEN.out, HB6.out⟩
set_option maxHeartbeats 4000000 in
set_option maxRecDepth 100000 in
theorem ents13_3 (n : Int) (u : Nat) (hk1 : IntKind.u64.wrap n = (u : Int)) (hk2 : Int.tmod (u : Int) 9 = 3) (w : World) :
    Calls Tryz.prog 12 #[.int .i64 n] w fun e w' => ∃ v, e = .returned (.agg #[.string ⟨#[]⟩, v, .slice none 0 0]) ∧ EntsAt w'.heap.size w' v (rotA 3) ∧ Below w.heap.size w w' := by
  have hb0 := ((Below.refl w.heap.size w).alloc (Nat.le_refl _) (.cells #[.string ⟨#[]⟩, .slice none 0 0, .slice none 0 0] 30))
  have hb1 := hb0.alloc hb0.size (.cells #[.string ⟨#[101]⟩, .string ⟨#[120, 32, 121]⟩, .bool false, .string ⟨#[102]⟩, .string ⟨#[38, 101, 59, 38, 101, 59]⟩, .bool false, .string ⟨#[103]⟩, .string ⟨#[38, 102, 59, 38, 102, 59, 38, 102, 59]⟩, .bool false, .string ⟨#[104]⟩, .string ⟨#[]⟩, .bool true, .string ⟨#[105]⟩, .string ⟨#[60]⟩, .bool false, .string ⟨#[106]⟩, .string ⟨#[38, 107, 59]⟩, .bool false, .string ⟨#[107]⟩, .string ⟨#[38, 106, 59]⟩, .bool false, .string ⟨#[109]⟩, .string ⟨#[38, 35, 57, 59, 38, 108, 116, 59]⟩, .bool false, .string ⟨#[111]⟩, .string ⟨#[]⟩, .bool false] 26)
  have hsz0 : (w.alloc (.cells #[.string ⟨#[]⟩, .slice none 0 0, .slice none 0 0] 30)).heap.size = w.heap.size + 1 := by show (w.heap.push _).size = _; rw [Array.size_push]
  have hblk : ((w.alloc (.cells #[.string ⟨#[]⟩, .slice none 0 0, .slice none 0 0] 30)).alloc (.cells #[.string ⟨#[101]⟩, .string ⟨#[120, 32, 121]⟩, .bool false, .string ⟨#[102]⟩, .string ⟨#[38, 101, 59, 38, 101, 59]⟩, .bool false, .string ⟨#[103]⟩, .string ⟨#[38, 102, 59, 38, 102, 59, 38, 102, 59]⟩, .bool false, .string ⟨#[104]⟩, .string ⟨#[]⟩, .bool true, .string ⟨#[105]⟩, .string ⟨#[60]⟩, .bool false, .string ⟨#[106]⟩, .string ⟨#[38, 107, 59]⟩, .bool false, .string ⟨#[107]⟩, .string ⟨#[38, 106, 59]⟩, .bool false, .string ⟨#[109]⟩, .string ⟨#[38, 35, 57, 59, 38, 108, 116, 59]⟩, .bool false, .string ⟨#[111]⟩, .string ⟨#[]⟩, .bool false] 26)).heap[w.heap.size + 1]? = some (.cells #[.string ⟨#[101]⟩, .string ⟨#[120, 32, 121]⟩, .bool false, .string ⟨#[102]⟩, .string ⟨#[38, 101, 59, 38, 101, 59]⟩, .bool false, .string ⟨#[103]⟩, .string ⟨#[38, 102, 59, 38, 102, 59, 38, 102, 59]⟩, .bool false, .string ⟨#[104]⟩, .string ⟨#[]⟩, .bool true, .string ⟨#[105]⟩, .string ⟨#[60]⟩, .bool false, .string ⟨#[106]⟩, .string ⟨#[38, 107, 59]⟩, .bool false, .string ⟨#[107]⟩, .string ⟨#[38, 106, 59]⟩, .bool false, .string ⟨#[109]⟩, .string ⟨#[38, 35, 57, 59, 38, 108, 116, 59]⟩, .bool false, .string ⟨#[111]⟩, .string ⟨#[]⟩, .bool false] 26 (0, 0)) := by
    rw [← hsz0]
    show (Array.push _ _)[_]? = _
    rw [Array.getElem?_push_size]
  have hbox := (World.rowIs_alloc w #[.string ⟨#[]⟩, .slice none 0 0, .slice none 0 0] 30 (fun i => if i = 0 then .string ⟨#[]⟩ else .slice none 0 0) (by
    intro i hi
    rcases (show i = 0 ∨ i = 1 ∨ i = 2 by have : i < 3 := hi; omega) with rfl | rfl | rfl <;> rfl)).alloc (.cells #[.string ⟨#[101]⟩, .string ⟨#[120, 32, 121]⟩, .bool false, .string ⟨#[102]⟩, .string ⟨#[38, 101, 59, 38, 101, 59]⟩, .bool false, .string ⟨#[103]⟩, .string ⟨#[38, 102, 59, 38, 102, 59, 38, 102, 59]⟩, .bool false, .string ⟨#[104]⟩, .string ⟨#[]⟩, .bool true, .string ⟨#[105]⟩, .string ⟨#[60]⟩, .bool false, .string ⟨#[106]⟩, .string ⟨#[38, 107, 59]⟩, .bool false, .string ⟨#[107]⟩, .string ⟨#[38, 106, 59]⟩, .bool false, .string ⟨#[109]⟩, .string ⟨#[38, 35, 57, 59, 38, 108, 116, 59]⟩, .bool false, .string ⟨#[111]⟩, .string ⟨#[]⟩, .bool false] 26)
  go_enter Tryz.func12, Tryz.ntmps12
  go_wp2_with fail
  obtain ⟨W1, hW1⟩ : ∃ W1, (w.alloc (.cells #[.string ⟨#[]⟩, .slice none 0 0, .slice none 0 0] 30)).alloc (.cells #[.string ⟨#[101]⟩, .string ⟨#[120, 32, 121]⟩, .bool false, .string ⟨#[102]⟩, .string ⟨#[38, 101, 59, 38, 101, 59]⟩, .bool false, .string ⟨#[103]⟩, .string ⟨#[38, 102, 59, 38, 102, 59, 38, 102, 59]⟩, .bool false, .string ⟨#[104]⟩, .string ⟨#[]⟩, .bool true, .string ⟨#[105]⟩, .string ⟨#[60]⟩, .bool false, .string ⟨#[106]⟩, .string ⟨#[38, 107, 59]⟩, .bool false, .string ⟨#[107]⟩, .string ⟨#[38, 106, 59]⟩, .bool false, .string ⟨#[109]⟩, .string ⟨#[38, 35, 57, 59, 38, 108, 116, 59]⟩, .bool false, .string ⟨#[111]⟩, .string ⟨#[]⟩, .bool false] 26) = W1 := ⟨_, rfl⟩
  rw [hW1] at hb1 hblk hbox ⊢
  clear hW1 hb0 hsz0
  have HBX := Lib.hid hbox
  have HB1 := Lib.hid hb1
  have hlt1 : w.heap.size < W1.heap.size := hbox.lt
  have hb2 := (Below.refl W1.heap.size W1).alloc (Nat.le_refl _) (.cells #[] 26)
  have HO2 : Hid ((W1.alloc (.cells #[] 26)).drew.ownsRow W1.heap.size 26 3 (.slice (some ⟨W1.heap.size, 0, none⟩) 0 0) 0 (flatE [])) := Lib.hid (own_nothing13 W1)
  have HB2 := Lib.hid hb2.drew
  have HK2 : Hid ((W1.alloc (.cells #[] 26)).drew.heap[w.heap.size + 1]? = some (.cells #[.string ⟨#[101]⟩, .string ⟨#[120, 32, 121]⟩, .bool false, .string ⟨#[102]⟩, .string ⟨#[38, 101, 59, 38, 101, 59]⟩, .bool false, .string ⟨#[103]⟩, .string ⟨#[38, 102, 59, 38, 102, 59, 38, 102, 59]⟩, .bool false, .string ⟨#[104]⟩, .string ⟨#[]⟩, .bool true, .string ⟨#[105]⟩, .string ⟨#[60]⟩, .bool false, .string ⟨#[106]⟩, .string ⟨#[38, 107, 59]⟩, .bool false, .string ⟨#[107]⟩, .string ⟨#[38, 106, 59]⟩, .bool false, .string ⟨#[109]⟩, .string ⟨#[38, 35, 57, 59, 38, 108, 116, 59]⟩, .bool false, .string ⟨#[111]⟩, .string ⟨#[]⟩, .bool false] 26 (0, 0))) := Lib.hid ((hb2.block _ (by have := (Array.getElem?_eq_some_iff.1 hblk).1; exact this)).trans hblk)
  have HBK := Lib.hid hblk
  have PC1 := Lib.hid (part_cells HK2.out (entA.take 3) (entA.drop 3) [] (by kernel_rfl) 9 rfl)
  have PC2 : Hid (∀ W : World, W.heap[w.heap.size + 1]? = some (.cells #[.string ⟨#[101]⟩, .string ⟨#[120, 32, 121]⟩, .bool false, .string ⟨#[102]⟩, .string ⟨#[38, 101, 59, 38, 101, 59]⟩, .bool false, .string ⟨#[103]⟩, .string ⟨#[38, 102, 59, 38, 102, 59, 38, 102, 59]⟩, .bool false, .string ⟨#[104]⟩, .string ⟨#[]⟩, .bool true, .string ⟨#[105]⟩, .string ⟨#[60]⟩, .bool false, .string ⟨#[106]⟩, .string ⟨#[38, 107, 59]⟩, .bool false, .string ⟨#[107]⟩, .string ⟨#[38, 106, 59]⟩, .bool false, .string ⟨#[109]⟩, .string ⟨#[38, 35, 57, 59, 38, 108, 116, 59]⟩, .bool false, .string ⟨#[111]⟩, .string ⟨#[]⟩, .bool false] 26 (0, 0)) → ∀ j u, (flatE (entA.take 3))[j]? = some u → W.cell? ((⟨w.heap.size + 1, 0, none⟩ : Addr).add j) = some u) := Lib.hid (fun W hW => part_cells hW [] (entA.take 3) (entA.drop 3) (by kernel_rfl) 0 rfl)
  clear hb1 hblk hb2 hbox
  go_region_law (first
    | (refine step_ents (by rfl) _ _ (by rfl) W1.heap.size (.slice (some ⟨W1.heap.size, 0, none⟩) 0 0) 0 [] (by rfl) HO2.out ⟨w.heap.size + 1, 9, none⟩ 6 6 (entA.drop 3) (by rfl) (by rfl) PC1.out (by decide) HB2.out.size ?_; intro a4 c4 W4 hown4 hgr4; have HB4 := Lib.hid (HB2.out.grown hgr4 HB2.out.size (own_ge13 HO2.out)); have HO4 := Lib.hid hown4; have HK4 := Lib.hid ((HB4.out.block (w.heap.size + 1) (Array.getElem?_eq_some_iff.1 HBK.out).1).trans HBK.out); clear hgr4 hown4)
    | (refine step_ents (by rfl) _ _ (by rfl) W1.heap.size _ _ _ (by rfl) HO4.out ⟨w.heap.size + 1, 0, none⟩ 3 9 (entA.take 3) (by rfl) (by rfl) (PC2.out _ HK4.out) (by decide) HB4.out.size ?_; intro a5 c5 W5 hown5 hgr5; have HB5 := Lib.hid (HB4.out.grown hgr5 HB4.out.size (own_ge13 HO4.out)); have HO5 := Lib.hid hown5; have hr5 := HBX.out.of_block (HB5.out.block w.heap.size hlt1); have p0 := hr5.cell (i := 0) (show 0 < 3 by decide); have p1 := hr5.cell (i := 1) (show 1 < 3 by decide); have p2 := hr5.cell (i := 2) (show 2 < 3 by decide); have f0 := hr5.frozen 0; have f1 := hr5.frozen 1; have f2 := hr5.frozen 2; have HR5 := Lib.hid hr5; clear hr5 hgr5 hown5))
  obtain ⟨W6, hW6⟩ : ∃ W6, ((W5.setCell ⟨w.heap.size, 0, none⟩ (.string ⟨#[]⟩)).setCell ⟨w.heap.size, 1, none⟩ (.slice a5 9 c5)).setCell ⟨w.heap.size, 2, none⟩ (.slice none 0 0) = W6 := ⟨_, rfl⟩
  have hr6 := (World.rowIs.set (World.rowIs.set (World.rowIs.set HR5.out 0 (.string ⟨#[]⟩)) 1 (.slice a5 9 c5)) 2 (.slice none 0 0))
  have hk6 : ∀ q, W1.heap.size ≤ q → (((W5.setCell ⟨w.heap.size, 0, none⟩ (.string ⟨#[]⟩)).setCell ⟨w.heap.size, 1, none⟩ (.slice a5 9 c5)).setCell ⟨w.heap.size, 2, none⟩ (.slice none 0 0)).heap[q]? = W5.heap[q]? := fun q hq => ((Below.heap_setCell _ _ _ _ (by show q ≠ w.heap.size; omega)).trans (Below.heap_setCell _ _ _ _ (by show q ≠ w.heap.size; omega))).trans (Below.heap_setCell _ _ _ _ (by show q ≠ w.heap.size; omega))
  have hb6 : Below w.heap.size w (((W5.setCell ⟨w.heap.size, 0, none⟩ (.string ⟨#[]⟩)).setCell ⟨w.heap.size, 1, none⟩ (.slice a5 9 c5)).setCell ⟨w.heap.size, 2, none⟩ (.slice none 0 0)) := (((HB1.out.trans (HB5.out.mono (Nat.le_of_lt hlt1))).setCell (Nat.le_refl _) _).setCell (Nat.le_refl _) _).setCell (Nat.le_refl _) _
  rw [hW6] at hr6 hk6 hb6 ⊢
  clear hW6
  have d0 : W6.cell? ⟨w.heap.size, 0, none⟩ = some (.string ⟨#[]⟩) := hr6.cell (i := 0) (show 0 < 3 by decide)
  have d1 : W6.cell? ⟨w.heap.size, 1, none⟩ = some (.slice a5 9 c5) := hr6.cell (i := 1) (show 1 < 3 by decide)
  have d2 : W6.cell? ⟨w.heap.size, 2, none⟩ = some (.slice none 0 0) := hr6.cell (i := 2) (show 2 < 3 by decide)
  have HEN : Hid (EntsAt W6.heap.size W6 (.slice a5 9 c5) (rotA 3)) := Lib.hid (owns_ents (own_keep13 (show W5.ownsRow W1.heap.size 26 3 (.slice a5 9 c5) (rotA 3).length (flatE (rotA 3)) from HO5.out) hk6))
  have HB6 := Lib.hid hb6
  clear hr6 hk6 hb6 p0 p1 p2 f0 f1 f2
  go_wp2
  refine bodyPost_ret (by simp [results, Tryz.results12, d0, d1, d2, go_sem]; try rfl) rfl ?_
  exact ⟨_, rfl, HEN.out, HB6.out⟩
set_option maxHeartbeats 4000000 in
set_option maxRecDepth 100000 in
theorem ents13_4 (n : Int) (u : Nat) (hk1 : IntKind.u64.wrap n = (u : Int)) (hk2 : Int.tmod (u : Int) 9 = 4) (w : World) :
    Calls Tryz.prog 12 #[.int .i64 n] w fun e w' => ∃ v, e = .returned (.agg #[.string ⟨#[]⟩, v, .slice none 0 0]) ∧ EntsAt w'.heap.size w' v (rotA 4) ∧ Below w.heap.size w w' := by
  have hb0 := ((Below.refl w.heap.size w).alloc (Nat.le_refl _) (.cells #[.string ⟨#[]⟩, .slice none 0 0, .slice none 0 0] 30))
  have hb1 := hb0.alloc hb0.size (.cells #[.string ⟨#[101]⟩, .string ⟨#[120, 32, 121]⟩, .bool false, .string ⟨#[102]⟩, .string ⟨#[38, 101, 59, 38, 101, 59]⟩, .bool false, .string ⟨#[103]⟩, .string ⟨#[38, 102, 59, 38, 102, 59, 38, 102, 59]⟩, .bool false, .string ⟨#[104]⟩, .string ⟨#[]⟩, .bool true, .string ⟨#[105]⟩, .string ⟨#[60]⟩, .bool false, .string ⟨#[106]⟩, .string ⟨#[38, 107, 59]⟩, .bool false, .string ⟨#[107]⟩, .string ⟨#[38, 106, 59]⟩, .bool false, .string ⟨#[109]⟩, .string ⟨#[38, 35, 57, 59, 38, 108, 116, 59]⟩, .bool false, .string ⟨#[111]⟩, .string ⟨#[]⟩, .bool false] 26)
  have hsz0 : (w.alloc (.cells #[.string ⟨#[]⟩, .slice none 0 0, .slice none 0 0] 30)).heap.size = w.heap.size + 1 := by show (w.heap.push _).size = _; rw [Array.size_push]
  have hblk : ((w.alloc (.cells #[.string ⟨#[]⟩, .slice none 0 0, .slice none 0 0] 30)).alloc (.cells #[.string ⟨#[101]⟩, .string ⟨#[120, 32, 121]⟩, .bool false, .string ⟨#[102]⟩, .string ⟨#[38, 101, 59, 38, 101, 59]⟩, .bool false, .string ⟨#[103]⟩, .string ⟨#[38, 102, 59, 38, 102, 59, 38, 102, 59]⟩, .bool false, .string ⟨#[104]⟩, .string ⟨#[]⟩, .bool true, .string ⟨#[105]⟩, .string ⟨#[60]⟩, .bool false, .string ⟨#[106]⟩, .string ⟨#[38, 107, 59]⟩, .bool false, .string ⟨#[107]⟩, .string ⟨#[38, 106, 59]⟩, .bool false, .string ⟨#[109]⟩, .string ⟨#[38, 35, 57, 59, 38, 108, 116, 59]⟩, .bool false, .string ⟨#[111]⟩, .string ⟨#[]⟩, .bool false] 26)).heap[w.heap.size + 1]? = some (.cells #[.string ⟨#[101]⟩, .string ⟨#[120, 32, 121]⟩, .bool false, .string ⟨#[102]⟩, .string ⟨#[38, 101, 59, 38, 101, 59]⟩, .bool false, .string ⟨#[103]⟩, .string ⟨#[38, 102, 59, 38, 102, 59, 38, 102, 59]⟩, .bool false, .string ⟨#[104]⟩, .string ⟨#[]⟩, .bool true, .string ⟨#[105]⟩, .string ⟨#[60]⟩, .bool false, .string ⟨#[106]⟩, .string ⟨#[38, 107, 59]⟩, .bool false, .string ⟨#[107]⟩, .string ⟨#[38, 106, 59]⟩, .bool false, .string ⟨#[109]⟩, .string ⟨#[38, 35, 57, 59, 38, 108, 116, 59]⟩, .bool false, .string ⟨#[111]⟩, .string ⟨#[]⟩, .bool false] 26 (0, 0)) := by
    rw [← hsz0]
    show (Array.push _ _)[_]? = _
    rw [Array.getElem?_push_size]
  have hbox := (World.rowIs_alloc w #[.string ⟨#[]⟩, .slice none 0 0, .slice none 0 0] 30 (fun i => if i = 0 then .string ⟨#[]⟩ else .slice none 0 0) (by
    intro i hi
    rcases (show i = 0 ∨ i = 1 ∨ i = 2 by have : i < 3 := hi; omega) with rfl | rfl | rfl <;> rfl)).alloc (.cells #[.string ⟨#[101]⟩, .string ⟨#[120, 32, 121]⟩, .bool false, .string ⟨#[102]⟩, .string ⟨#[38, 101, 59, 38, 101, 59]⟩, .bool false, .string ⟨#[103]⟩, .string ⟨#[38, 102, 59, 38, 102, 59, 38, 102, 59]⟩, .bool false, .string ⟨#[104]⟩, .string ⟨#[]⟩, .bool true, .string ⟨#[105]⟩, .string ⟨#[60]⟩, .bool false, .string ⟨#[106]⟩, .string ⟨#[38, 107, 59]⟩, .bool false, .string ⟨#[107]⟩, .string ⟨#[38, 106, 59]⟩, .bool false, .string ⟨#[109]⟩, .string ⟨#[38, 35, 57, 59, 38, 108, 116, 59]⟩, .bool false, .string ⟨#[111]⟩, .string ⟨#[]⟩, .bool false] 26)
  go_enter Tryz.func12, Tryz.ntmps12
  go_wp2_with fail
  obtain ⟨W1, hW1⟩ : ∃ W1, (w.alloc (.cells #[.string ⟨#[]⟩, .slice none 0 0, .slice none 0 0] 30)).alloc (.cells #[.string ⟨#[101]⟩, .string ⟨#[120, 32, 121]⟩, .bool false, .string ⟨#[102]⟩, .string ⟨#[38, 101, 59, 38, 101, 59]⟩, .bool false, .string ⟨#[103]⟩, .string ⟨#[38, 102, 59, 38, 102, 59, 38, 102, 59]⟩, .bool false, .string ⟨#[104]⟩, .string ⟨#[]⟩, .bool true, .string ⟨#[105]⟩, .string ⟨#[60]⟩, .bool false, .string ⟨#[106]⟩, .string ⟨#[38, 107, 59]⟩, .bool false, .string ⟨#[107]⟩, .string ⟨#[38, 106, 59]⟩, .bool false, .string ⟨#[109]⟩, .string ⟨#[38, 35, 57, 59, 38, 108, 116, 59]⟩, .bool false, .string ⟨#[111]⟩, .string ⟨#[]⟩, .bool false] 26) = W1 := ⟨_, rfl⟩
  rw [hW1] at hb1 hblk hbox ⊢
  clear hW1 hb0 hsz0
  have HBX := Lib.hid hbox
  have HB1 := Lib.hid hb1
  have hlt1 : w.heap.size < W1.heap.size := hbox.lt
  have hb2 := (Below.refl W1.heap.size W1).alloc (Nat.le_refl _) (.cells #[] 26)
  have HO2 : Hid ((W1.alloc (.cells #[] 26)).drew.ownsRow W1.heap.size 26 3 (.slice (some ⟨W1.heap.size, 0, none⟩) 0 0) 0 (flatE [])) := Lib.hid (own_nothing13 W1)
  have HB2 := Lib.hid hb2.drew
  have HK2 : Hid ((W1.alloc (.cells #[] 26)).drew.heap[w.heap.size + 1]? = some (.cells #[.string ⟨#[101]⟩, .string ⟨#[120, 32, 121]⟩, .bool false, .string ⟨#[102]⟩, .string ⟨#[38, 101, 59, 38, 101, 59]⟩, .bool false, .string ⟨#[103]⟩, .string ⟨#[38, 102, 59, 38, 102, 59, 38, 102, 59]⟩, .bool false, .string ⟨#[104]⟩, .string ⟨#[]⟩, .bool true, .string ⟨#[105]⟩, .string ⟨#[60]⟩, .bool false, .string ⟨#[106]⟩, .string ⟨#[38, 107, 59]⟩, .bool false, .string ⟨#[107]⟩, .string ⟨#[38, 106, 59]⟩, .bool false, .string ⟨#[109]⟩, .string ⟨#[38, 35, 57, 59, 38, 108, 116, 59]⟩, .bool false, .string ⟨#[111]⟩, .string ⟨#[]⟩, .bool false] 26 (0, 0))) := Lib.hid ((hb2.block _ (by have := (Array.getElem?_eq_some_iff.1 hblk).1; exact this)).trans hblk)
  have HBK := Lib.hid hblk
  have PC1 := Lib.hid (part_cells HK2.out (entA.take 4) (entA.drop 4) [] (by kernel_rfl) 12 rfl)
  have PC2 : Hid (∀ W : World, W.heap[w.heap.size + 1]? = some (.cells #[.string ⟨#[101]⟩, .string ⟨#[120, 32, 121]⟩, .bool false, .string ⟨#[102]⟩, .string ⟨#[38, 101, 59, 38, 101, 59]⟩, .bool false, .string ⟨#[103]⟩, .string ⟨#[38, 102, 59, 38, 102, 59, 38, 102, 59]⟩, .bool false, .string ⟨#[104]⟩, .string ⟨#[]⟩, .bool true, .string ⟨#[105]⟩, .string ⟨#[60]⟩, .bool false, .string ⟨#[106]⟩, .string ⟨#[38, 107, 59]⟩, .bool false, .string ⟨#[107]⟩, .string ⟨#[38, 106, 59]⟩, .bool false, .string ⟨#[109]⟩, .string ⟨#[38, 35, 57, 59, 38, 108, 116, 59]⟩, .bool false, .string ⟨#[111]⟩, .string ⟨#[]⟩, .bool false] 26 (0, 0)) → ∀ j u, (flatE (entA.take 4))[j]? = some u → W.cell? ((⟨w.heap.size + 1, 0, none⟩ : Addr).add j) = some u) := Lib.hid (fun W hW => part_cells hW [] (entA.take 4) (entA.drop 4) (by kernel_rfl) 0 rfl)
  clear hb1 hblk hb2 hbox
  go_region_law (first
    | (refine step_ents (by rfl) _ _ (by rfl) W1.heap.size (.slice (some ⟨W1.heap.size, 0, none⟩) 0 0) 0 [] (by rfl) HO2.out ⟨w.heap.size + 1, 12, none⟩ 5 5 (entA.drop 4) (by rfl) (by rfl) PC1.out (by decide) HB2.out.size ?_; intro a4 c4 W4 hown4 hgr4; have HB4 := Lib.hid (HB2.out.grown hgr4 HB2.out.size (own_ge13 HO2.out)); have HO4 := Lib.hid hown4; have HK4 := Lib.hid ((HB4.out.block (w.heap.size + 1) (Array.getElem?_eq_some_iff.1 HBK.out).1).trans HBK.out); clear hgr4 hown4)
    | (refine step_ents (by rfl) _ _ (by rfl) W1.heap.size _ _ _ (by rfl) HO4.out ⟨w.heap.size + 1, 0, none⟩ 4 9 (entA.take 4) (by rfl) (by rfl) (PC2.out _ HK4.out) (by decide) HB4.out.size ?_; intro a5 c5 W5 hown5 hgr5; have HB5 := Lib.hid (HB4.out.grown hgr5 HB4.out.size (own_ge13 HO4.out)); have HO5 := Lib.hid hown5; have hr5 := HBX.out.of_block (HB5.out.block w.heap.size hlt1); have p0 := hr5.cell (i := 0) (show 0 < 3 by decide); have p1 := hr5.cell (i := 1) (show 1 < 3 by decide); have p2 := hr5.cell (i := 2) (show 2 < 3 by decide); have f0 := hr5.frozen 0; have f1 := hr5.frozen 1; have f2 := hr5.frozen 2; have HR5 := Lib.hid hr5; clear hr5 hgr5 hown5))
  obtain ⟨W6, hW6⟩ : ∃ W6, ((W5.setCell ⟨w.heap.size, 0, none⟩ (.string ⟨#[]⟩)).setCell ⟨w.heap.size, 1, none⟩ (.slice a5 9 c5)).setCell ⟨w.heap.size, 2, none⟩ (.slice none 0 0) = W6 := ⟨_, rfl⟩
  have hr6 := (World.rowIs.set (World.rowIs.set (World.rowIs.set HR5.out 0 (.string ⟨#[]⟩)) 1 (.slice a5 9 c5)) 2 (.slice none 0 0))
  have hk6 : ∀ q, W1.heap.size ≤ q → (((W5.setCell ⟨w.heap.size, 0, none⟩ (.string ⟨#[]⟩)).setCell ⟨w.heap.size, 1, none⟩ (.slice a5 9 c5)).setCell ⟨w.heap.size, 2, none⟩ (.slice none 0 0)).heap[q]? = W5.heap[q]? := fun q hq => ((Below.heap_setCell _ _ _ _ (by show q ≠ w.heap.size; omega)).trans (Below.heap_setCell _ _ _ _ (by show q ≠ w.heap.size; omega))).trans (Below.heap_setCell _ _ _ _ (by show q ≠ w.heap.size; omega))
  have hb6 : Below w.heap.size w (((W5.setCell ⟨w.heap.size, 0, none⟩ (.string ⟨#[]⟩)).setCell ⟨w.heap.size, 1, none⟩ (.slice a5 9 c5)).setCell ⟨w.heap.size, 2, none⟩ (.slice none 0 0)) := (((HB1.out.trans (HB5.out.mono (Nat.le_of_lt hlt1))).setCell (Nat.le_refl _) _).setCell (Nat.le_refl _) _).setCell (Nat.le_refl _) _
  rw [hW6] at hr6 hk6 hb6 ⊢
  clear hW6
  have d0 : W6.cell? ⟨w.heap.size, 0, none⟩ = some (.string ⟨#[]⟩) := hr6.cell (i := 0) (show 0 < 3 by decide)
  have d1 : W6.cell? ⟨w.heap.size, 1, none⟩ = some (.slice a5 9 c5) := hr6.cell (i := 1) (show 1 < 3 by decide)
  have d2 : W6.cell? ⟨w.heap.size, 2, none⟩ = some (.slice none 0 0) := hr6.cell (i := 2) (show 2 < 3 by decide)
  have HEN : Hid (EntsAt W6.heap.size W6 (.slice a5 9 c5) (rotA 4)) := Lib.hid (owns_ents (own_keep13 (show W5.ownsRow W1.heap.size 26 3 (.slice a5 9 c5) (rotA 4).length (flatE (rotA 4)) from HO5.out) hk6))
  have HB6 := Lib.hid hb6
  clear hr6 hk6 hb6 p0 p1 p2 f0 f1 f2
  go_wp2
  refine bodyPost_ret (by simp [results, Tryz.results12, d0, d1, d2, go_sem]; try rfl) rfl ?_
  exact ⟨_, rfl, HEN.out, HB6.out⟩
set_option maxHeartbeats 4000000 in
set_option maxRecDepth 100000 in
theorem ents13_5 (n : Int) (u : Nat) (hk1 : IntKind.u64.wrap n = (u : Int)) (hk2 : Int.tmod (u : Int) 9 = 5) (w : World) :
    Calls Tryz.prog 12 #[.int .i64 n] w fun e w' => ∃ v, e = .returned (.agg #[.string ⟨#[]⟩, v, .slice none 0 0]) ∧ EntsAt w'.heap.size w' v (rotA 5) ∧ Below w.heap.size w w' := by
  have hb0 := ((Below.refl w.heap.size w).alloc (Nat.le_refl _) (.cells #[.string ⟨#[]⟩, .slice none 0 0, .slice none 0 0] 30))
  have hb1 := hb0.alloc hb0.size (.cells #[.string ⟨#[101]⟩, .string ⟨#[120, 32, 121]⟩, .bool false, .string ⟨#[102]⟩, .string ⟨#[38, 101, 59, 38, 101, 59]⟩, .bool false, .string ⟨#[103]⟩, .string ⟨#[38, 102, 59, 38, 102, 59, 38, 102, 59]⟩, .bool false, .string ⟨#[104]⟩, .string ⟨#[]⟩, .bool true, .string ⟨#[105]⟩, .string ⟨#[60]⟩, .bool false, .string ⟨#[106]⟩, .string ⟨#[38, 107, 59]⟩, .bool false, .string ⟨#[107]⟩, .string ⟨#[38, 106, 59]⟩, .bool false, .string ⟨#[109]⟩, .string ⟨#[38, 35, 57, 59, 38, 108, 116, 59]⟩, .bool false, .string ⟨#[111]⟩, .string ⟨#[]⟩, .bool false] 26)
  have hsz0 : (w.alloc (.cells #[.string ⟨#[]⟩, .slice none 0 0, .slice none 0 0] 30)).heap.size = w.heap.size + 1 := by show (w.heap.push _).size = _; rw [Array.size_push]
  have hblk : ((w.alloc (.cells #[.string ⟨#[]⟩, .slice none 0 0, .slice none 0 0] 30)).alloc (.cells #[.string ⟨#[101]⟩, .string ⟨#[120, 32, 121]⟩, .bool false, .string ⟨#[102]⟩, .string ⟨#[38, 101, 59, 38, 101, 59]⟩, .bool false, .string ⟨#[103]⟩, .string ⟨#[38, 102, 59, 38, 102, 59, 38, 102, 59]⟩, .bool false, .string ⟨#[104]⟩, .string ⟨#[]⟩, .bool true, .string ⟨#[105]⟩, .string ⟨#[60]⟩, .bool false, .string ⟨#[106]⟩, .string ⟨#[38, 107, 59]⟩, .bool false, .string ⟨#[107]⟩, .string ⟨#[38, 106, 59]⟩, .bool false, .string ⟨#[109]⟩, .string ⟨#[38, 35, 57, 59, 38, 108, 116, 59]⟩, .bool false, .string ⟨#[111]⟩, .string ⟨#[]⟩, .bool false] 26)).heap[w.heap.size + 1]? = some (.cells #[.string ⟨#[101]⟩, .string ⟨#[120, 32, 121]⟩, .bool false, .string ⟨#[102]⟩, .string ⟨#[38, 101, 59, 38, 101, 59]⟩, .bool false, .string ⟨#[103]⟩, .string ⟨#[38, 102, 59, 38, 102, 59, 38, 102, 59]⟩, .bool false, .string ⟨#[104]⟩, .string ⟨#[]⟩, .bool true, .string ⟨#[105]⟩, .string ⟨#[60]⟩, .bool false, .string ⟨#[106]⟩, .string ⟨#[38, 107, 59]⟩, .bool false, .string ⟨#[107]⟩, .string ⟨#[38, 106, 59]⟩, .bool false, .string ⟨#[109]⟩, .string ⟨#[38, 35, 57, 59, 38, 108, 116, 59]⟩, .bool false, .string ⟨#[111]⟩, .string ⟨#[]⟩, .bool false] 26 (0, 0)) := by
    rw [← hsz0]
    show (Array.push _ _)[_]? = _
    rw [Array.getElem?_push_size]
  have hbox := (World.rowIs_alloc w #[.string ⟨#[]⟩, .slice none 0 0, .slice none 0 0] 30 (fun i => if i = 0 then .string ⟨#[]⟩ else .slice none 0 0) (by
    intro i hi
    rcases (show i = 0 ∨ i = 1 ∨ i = 2 by have : i < 3 := hi; omega) with rfl | rfl | rfl <;> rfl)).alloc (.cells #[.string ⟨#[101]⟩, .string ⟨#[120, 32, 121]⟩, .bool false, .string ⟨#[102]⟩, .string ⟨#[38, 101, 59, 38, 101, 59]⟩, .bool false, .string ⟨#[103]⟩, .string ⟨#[38, 102, 59, 38, 102, 59, 38, 102, 59]⟩, .bool false, .string ⟨#[104]⟩, .string ⟨#[]⟩, .bool true, .string ⟨#[105]⟩, .string ⟨#[60]⟩, .bool false, .string ⟨#[106]⟩, .string ⟨#[38, 107, 59]⟩, .bool false, .string ⟨#[107]⟩, .string ⟨#[38, 106, 59]⟩, .bool false, .string ⟨#[109]⟩, .string ⟨#[38, 35, 57, 59, 38, 108, 116, 59]⟩, .bool false, .string ⟨#[111]⟩, .string ⟨#[]⟩, .bool false] 26)
  go_enter Tryz.func12, Tryz.ntmps12
  go_wp2_with fail
  obtain ⟨W1, hW1⟩ : ∃ W1, (w.alloc (.cells #[.string ⟨#[]⟩, .slice none 0 0, .slice none 0 0] 30)).alloc (.cells #[.string ⟨#[101]⟩, .string ⟨#[120, 32, 121]⟩, .bool false, .string ⟨#[102]⟩, .string ⟨#[38, 101, 59, 38, 101, 59]⟩, .bool false, .string ⟨#[103]⟩, .string ⟨#[38, 102, 59, 38, 102, 59, 38, 102, 59]⟩, .bool false, .string ⟨#[104]⟩, .string ⟨#[]⟩, .bool true, .string ⟨#[105]⟩, .string ⟨#[60]⟩, .bool false, .string ⟨#[106]⟩, .string ⟨#[38, 107, 59]⟩, .bool false, .string ⟨#[107]⟩, .string ⟨#[38, 106, 59]⟩, .bool false, .string ⟨#[109]⟩, .string ⟨#[38, 35, 57, 59, 38, 108, 116, 59]⟩, .bool false, .string ⟨#[111]⟩, .string ⟨#[]⟩, .bool false] 26) = W1 := ⟨_, rfl⟩
  rw [hW1] at hb1 hblk hbox ⊢
  clear hW1 hb0 hsz0
  have HBX := Lib.hid hbox
  have HB1 := Lib.hid hb1
  have hlt1 : w.heap.size < W1.heap.size := hbox.lt
  have hb2 := (Below.refl W1.heap.size W1).alloc (Nat.le_refl _) (.cells #[] 26)
  have HO2 : Hid ((W1.alloc (.cells #[] 26)).drew.ownsRow W1.heap.size 26 3 (.slice (some ⟨W1.heap.size, 0, none⟩) 0 0) 0 (flatE [])) := Lib.hid (own_nothing13 W1)
  have HB2 := Lib.hid hb2.drew
  have HK2 : Hid ((W1.alloc (.cells #[] 26)).drew.heap[w.heap.size + 1]? = some (.cells #[.string ⟨#[101]⟩, .string ⟨#[120, 32, 121]⟩, .bool false, .string ⟨#[102]⟩, .string ⟨#[38, 101, 59, 38, 101, 59]⟩, .bool false, .string ⟨#[103]⟩, .string ⟨#[38, 102, 59, 38, 102, 59, 38, 102, 59]⟩, .bool false, .string ⟨#[104]⟩, .string ⟨#[]⟩, .bool true, .string ⟨#[105]⟩, .string ⟨#[60]⟩, .bool false, .string ⟨#[106]⟩, .string ⟨#[38, 107, 59]⟩, .bool false, .string ⟨#[107]⟩, .string ⟨#[38, 106, 59]⟩, .bool false, .string ⟨#[109]⟩, .string ⟨#[38, 35, 57, 59, 38, 108, 116, 59]⟩, .bool false, .string ⟨#[111]⟩, .string ⟨#[]⟩, .bool false] 26 (0, 0))) := Lib.hid ((hb2.block _ (by have := (Array.getElem?_eq_some_iff.1 hblk).1; exact this)).trans hblk)
  have HBK := Lib.hid hblk
  have PC1 := Lib.hid (part_cells HK2.out (entA.take 5) (entA.drop 5) [] (by kernel_rfl) 15 rfl)
  have PC2 : Hid (∀ W : World, W.heap[w.heap.size + 1]? = some (.cells #[.string ⟨#[101]⟩, .string ⟨#[120, 32, 121]⟩, .bool false, .string ⟨#[102]⟩, .string ⟨#[38, 101, 59, 38, 101, 59]⟩, .bool false, .string ⟨#[103]⟩, .string ⟨#[38, 102, 59, 38, 102, 59, 38, 102, 59]⟩, .bool false, .string ⟨#[104]⟩, .string ⟨#[]⟩, .bool true, .string ⟨#[105]⟩, .string ⟨#[60]⟩, .bool false, .string ⟨#[106]⟩, .string ⟨#[38, 107, 59]⟩, .bool false, .string ⟨#[107]⟩, .string ⟨#[38, 106, 59]⟩, .bool false, .string ⟨#[109]⟩, .string ⟨#[38, 35, 57, 59, 38, 108, 116, 59]⟩, .bool false, .string ⟨#[111]⟩, .string ⟨#[]⟩, .bool false] 26 (0, 0)) → ∀ j u, (flatE (entA.take 5))[j]? = some u → W.cell? ((⟨w.heap.size + 1, 0, none⟩ : Addr).add j) = some u) := Lib.hid (fun W hW => part_cells hW [] (entA.take 5) (entA.drop 5) (by kernel_rfl) 0 rfl)
  clear hb1 hblk hb2 hbox
  go_region_law (first
    | (refine step_ents (by rfl) _ _ (by rfl) W1.heap.size (.slice (some ⟨W1.heap.size, 0, none⟩) 0 0) 0 [] (by rfl) HO2.out ⟨w.heap.size + 1, 15, none⟩ 4 4 (entA.drop 5) (by rfl) (by rfl) PC1.out (by decide) HB2.out.size ?_; intro a4 c4 W4 hown4 hgr4; have HB4 := Lib.hid (HB2.out.grown hgr4 HB2.out.size (own_ge13 HO2.out)); have HO4 := Lib.hid hown4; have HK4 := Lib.hid ((HB4.out.block (w.heap.size + 1) (Array.getElem?_eq_some_iff.1 HBK.out).1).trans HBK.out); clear hgr4 hown4)
    | (refine step_ents (by rfl) _ _ (by rfl) W1.heap.size _ _ _ (by rfl) HO4.out ⟨w.heap.size + 1, 0, none⟩ 5 9 (entA.take 5) (by rfl) (by rfl) (PC2.out _ HK4.out) (by decide) HB4.out.size ?_; intro a5 c5 W5 hown5 hgr5; have HB5 := Lib.hid (HB4.out.grown hgr5 HB4.out.size (own_ge13 HO4.out)); have HO5 := Lib.hid hown5; have hr5 := HBX.out.of_block (HB5.out.block w.heap.size hlt1); have p0 := hr5.cell (i := 0) (show 0 < 3 by decide); have p1 := hr5.cell (i := 1) (show 1 < 3 by decide); have p2 := hr5.cell (i := 2) (show 2 < 3 by decide); have f0 := hr5.frozen 0; have f1 := hr5.frozen 1; have f2 := hr5.frozen 2; have HR5 := Lib.hid hr5; clear hr5 hgr5 hown5))
  obtain ⟨W6, hW6⟩ : ∃ W6, ((W5.setCell ⟨w.heap.size, 0, none⟩ (.string ⟨#[]⟩)).setCell ⟨w.heap.size, 1, none⟩ (.slice a5 9 c5)).setCell ⟨w.heap.size, 2, none⟩ (.slice none 0 0) = W6 := ⟨_, rfl⟩
  have hr6 := (World.rowIs.set (World.rowIs.set (World.rowIs.set HR5.out 0 (.string ⟨#[]⟩)) 1 (.slice a5 9 c5)) 2 (.slice none 0 0))
  have hk6 : ∀ q, W1.heap.size ≤ q → (((W5.setCell ⟨w.heap.size, 0, none⟩ (.string ⟨#[]⟩)).setCell ⟨w.heap.size, 1, none⟩ (.slice a5 9 c5)).setCell ⟨w.heap.size, 2, none⟩ (.slice none 0 0)).heap[q]? = W5.heap[q]? := fun q hq => ((Below.heap_setCell _ _ _ _ (by show q ≠ w.heap.size; omega)).trans (Below.heap_setCell _ _ _ _ (by show q ≠ w.heap.size; omega))).trans (Below.heap_setCell _ _ _ _ (by show q ≠ w.heap.size; omega))
  have hb6 : Below w.heap.size w (((W5.setCell ⟨w.heap.size, 0, none⟩ (.string ⟨#[]⟩)).setCell ⟨w.heap.size, 1, none⟩ (.slice a5 9 c5)).setCell ⟨w.heap.size, 2, none⟩ (.slice none 0 0)) := (((HB1.out.trans (HB5.out.mono (Nat.le_of_lt hlt1))).setCell (Nat.le_refl _) _).setCell (Nat.le_refl _) _).setCell (Nat.le_refl _) _
  rw [hW6] at hr6 hk6 hb6 ⊢
  clear hW6
  have d0 : W6.cell? ⟨w.heap.size, 0, none⟩ = some (.string ⟨#[]⟩) := hr6.cell (i := 0) (show 0 < 3 by decide)
  have d1 : W6.cell? ⟨w.heap.size, 1, none⟩ = some (.slice a5 9 c5) := hr6.cell (i := 1) (show 1 < 3 by decide)
  have d2 : W6.cell? ⟨w.heap.size, 2, none⟩ = some (.slice none 0 0) := hr6.cell (i := 2) (show 2 < 3 by decide)
  have HEN : Hid (EntsAt W6.heap.size W6 (.slice a5 9 c5) (rotA 5)) := Lib.hid (owns_ents (own_keep13 (show W5.ownsRow W1.heap.size 26 3 (.slice a5 9 c5) (rotA 5).length (flatE (rotA 5)) from HO5.out) hk6))
  have HB6 := Lib.hid hb6
  clear hr6 hk6 hb6 p0 p1 p2 f0 f1 f2
  go_wp2
  refine bodyPost_ret (by simp [results, Tryz.results12, d0, d1, d2, go_sem]; try rfl) rfl ?_
  exact ⟨_, rfl, HEN.out, HB6.out⟩
set_option maxHeartbeats 4000000 in
set_option maxRecDepth 100000 in
theorem ents13_6 (n : Int) (u : Nat) (hk1 : IntKind.u64.wrap n = (u : Int)) (hk2 : Int.tmod (u : Int) 9 = 6) (w : World) :
    Calls Tryz.prog 12 #[.int .i64 n] w fun e w' => ∃ v, e = .returned (.agg #[.string ⟨#[]⟩, v, .slice none 0 0]) ∧ EntsAt w'.heap.size w' v (rotA 6) ∧ Below w.heap.size w w' := by
  have hb0 := ((Below.refl w.heap.size w).alloc (Nat.le_refl _) (.cells #[.string ⟨#[]⟩, .slice none 0 0, .slice none 0 0] 30))
  have hb1 := hb0.alloc hb0.size (.cells #[.string ⟨#[101]⟩, .string ⟨#[120, 32, 121]⟩, .bool false, .string ⟨#[102]⟩, .string ⟨#[38, 101, 59, 38, 101, 59]⟩, .bool false, .string ⟨#[103]⟩, .string ⟨#[38, 102, 59, 38, 102, 59, 38, 102, 59]⟩, .bool false, .string ⟨#[104]⟩, .string ⟨#[]⟩, .bool true, .string ⟨#[105]⟩, .string ⟨#[60]⟩, .bool false, .string ⟨#[106]⟩, .string ⟨#[38, 107, 59]⟩, .bool false, .string ⟨#[107]⟩, .string ⟨#[38, 106, 59]⟩, .bool false, .string ⟨#[109]⟩, .string ⟨#[38, 35, 57, 59, 38, 108, 116, 59]⟩, .bool false, .string ⟨#[111]⟩, .string ⟨#[]⟩, .bool false] 26)
  have hsz0 : (w.alloc (.cells #[.string ⟨#[]⟩, .slice none 0 0, .slice none 0 0] 30)).heap.size = w.heap.size + 1 := by show (w.heap.push _).size = _; rw [Array.size_push]
  have hblk : ((w.alloc (.cells #[.string ⟨#[]⟩, .slice none 0 0, .slice none 0 0] 30)).alloc (.cells #[.string ⟨#[101]⟩, .string ⟨#[120, 32, 121]⟩, .bool false, .string ⟨#[102]⟩, .string ⟨#[38, 101, 59, 38, 101, 59]⟩, .bool false, .string ⟨#[103]⟩, .string ⟨#[38, 102, 59, 38, 102, 59, 38, 102, 59]⟩, .bool false, .string ⟨#[104]⟩, .string ⟨#[]⟩, .bool true, .string ⟨#[105]⟩, .string ⟨#[60]⟩, .bool false, .string ⟨#[106]⟩, .string ⟨#[38, 107, 59]⟩, .bool false, .string ⟨#[107]⟩, .string ⟨#[38, 106, 59]⟩, .bool false, .string ⟨#[109]⟩, .string ⟨#[38, 35, 57, 59, 38, 108, 116, 59]⟩, .bool false, .string ⟨#[111]⟩, .string ⟨#[]⟩, .bool false] 26)).heap[w.heap.size + 1]? = some (.cells #[.string ⟨#[101]⟩, .string ⟨#[120, 32, 121]⟩, .bool false, .string ⟨#[102]⟩, .string ⟨#[38, 101, 59, 38, 101, 59]⟩, .bool false, .string ⟨#[103]⟩, .string ⟨#[38, 102, 59, 38, 102, 59, 38, 102, 59]⟩, .bool false, .string ⟨#[104]⟩, .string ⟨#[]⟩, .bool true, .string ⟨#[105]⟩, .string ⟨#[60]⟩, .bool false, .string ⟨#[106]⟩, .string ⟨#[38, 107, 59]⟩, .bool false, .string ⟨#[107]⟩, .string ⟨#[38, 106, 59]⟩, .bool false, .string ⟨#[109]⟩, .string ⟨#[38, 35, 57, 59, 38, 108, 116, 59]⟩, .bool false, .string ⟨#[111]⟩, .string ⟨#[]⟩, .bool false] 26 (0, 0)) := by
    rw [← hsz0]
    show (Array.push _ _)[_]? = _
    rw [Array.getElem?_push_size]
  have hbox := (World.rowIs_alloc w #[.string ⟨#[]⟩, .slice none 0 0, .slice none 0 0] 30 (fun i => if i = 0 then .string ⟨#[]⟩ else .slice none 0 0) (by
    intro i hi
    rcases (show i = 0 ∨ i = 1 ∨ i = 2 by have : i < 3 := hi; omega) with rfl | rfl | rfl <;> rfl)).alloc (.cells #[.string ⟨#[101]⟩, .string ⟨#[120, 32, 121]⟩, .bool false, .string ⟨#[102]⟩, .string ⟨#[38, 101, 59, 38, 101, 59]⟩, .bool false, .string ⟨#[103]⟩, .string ⟨#[38, 102, 59, 38, 102, 59, 38, 102, 59]⟩, .bool false, .string ⟨#[104]⟩, .string ⟨#[]⟩, .bool true, .string ⟨#[105]⟩, .string ⟨#[60]⟩, .bool false, .string ⟨#[106]⟩, .string ⟨#[38, 107, 59]⟩, .bool false, .string ⟨#[107]⟩, .string ⟨#[38, 106, 59]⟩, .bool false, .string ⟨#[109]⟩, .string ⟨#[38, 35, 57, 59, 38, 108, 116, 59]⟩, .bool false, .string ⟨#[111]⟩, .string ⟨#[]⟩, .bool false] 26)
  go_enter Tryz.func12, Tryz.ntmps12
  go_wp2_with fail
  obtain ⟨W1, hW1⟩ : ∃ W1, (w.alloc (.cells #[.string ⟨#[]⟩, .slice none 0 0, .slice none 0 0] 30)).alloc (.cells #[.string ⟨#[101]⟩, .string ⟨#[120, 32, 121]⟩, .bool false, .string ⟨#[102]⟩, .string ⟨#[38, 101, 59, 38, 101, 59]⟩, .bool false, .string ⟨#[103]⟩, .string ⟨#[38, 102, 59, 38, 102, 59, 38, 102, 59]⟩, .bool false, .string ⟨#[104]⟩, .string ⟨#[]⟩, .bool true, .string ⟨#[105]⟩, .string ⟨#[60]⟩, .bool false, .string ⟨#[106]⟩, .string ⟨#[38, 107, 59]⟩, .bool false, .string ⟨#[107]⟩, .string ⟨#[38, 106, 59]⟩, .bool false, .string ⟨#[109]⟩, .string ⟨#[38, 35, 57, 59, 38, 108, 116, 59]⟩, .bool false, .string ⟨#[111]⟩, .string ⟨#[]⟩, .bool false] 26) = W1 := ⟨_, rfl⟩
  rw [hW1] at hb1 hblk hbox ⊢
  clear hW1 hb0 hsz0
  have HBX := Lib.hid hbox
  have HB1 := Lib.hid hb1
  have hlt1 : w.heap.size < W1.heap.size := hbox.lt
  have hb2 := (Below.refl W1.heap.size W1).alloc (Nat.le_refl _) (.cells #[] 26)
  have HO2 : Hid ((W1.alloc (.cells #[] 26)).drew.ownsRow W1.heap.size 26 3 (.slice (some ⟨W1.heap.size, 0, none⟩) 0 0) 0 (flatE [])) := Lib.hid (own_nothing13 W1)
  have HB2 := Lib.hid hb2.drew
  have HK2 : Hid ((W1.alloc (.cells #[] 26)).drew.heap[w.heap.size + 1]? = some (.cells #[.string ⟨#[101]⟩, .string ⟨#[120, 32, 121]⟩, .bool false, .string ⟨#[102]⟩, .string ⟨#[38, 101, 59, 38, 101, 59]⟩, .bool false, .string ⟨#[103]⟩, .string ⟨#[38, 102, 59, 38, 102, 59, 38, 102, 59]⟩, .bool false, .string ⟨#[104]⟩, .string ⟨#[]⟩, .bool true, .string ⟨#[105]⟩, .string ⟨#[60]⟩, .bool false, .string ⟨#[106]⟩, .string ⟨#[38, 107, 59]⟩, .bool false, .string ⟨#[107]⟩, .string ⟨#[38, 106, 59]⟩, .bool false, .string ⟨#[109]⟩, .string ⟨#[38, 35, 57, 59, 38, 108, 116, 59]⟩, .bool false, .string ⟨#[111]⟩, .string ⟨#[]⟩, .bool false] 26 (0, 0))) := Lib.hid ((hb2.block _ (by have := (Array.getElem?_eq_some_iff.1 hblk).1; exact this)).trans hblk)
  have HBK := Lib.hid hblk
  have PC1 := Lib.hid (part_cells HK2.out (entA.take 6) (entA.drop 6) [] (by kernel_rfl) 18 rfl)
  have PC2 : Hid (∀ W : World, W.heap[w.heap.size + 1]? = some (.cells #[.string ⟨#[101]⟩, .string ⟨#[120, 32, 121]⟩, .bool false, .string ⟨#[102]⟩, .string ⟨#[38, 101, 59, 38, 101, 59]⟩, .bool false, .string ⟨#[103]⟩, .string ⟨#[38, 102, 59, 38, 102, 59, 38, 102, 59]⟩, .bool false, .string ⟨#[104]⟩, .string ⟨#[]⟩, .bool true, .string ⟨#[105]⟩, .string ⟨#[60]⟩, .bool false, .string ⟨#[106]⟩, .string ⟨#[38, 107, 59]⟩, .bool false, .string ⟨#[107]⟩, .string ⟨#[38, 106, 59]⟩, .bool false, .string ⟨#[109]⟩, .string ⟨#[38, 35, 57, 59, 38, 108, 116, 59]⟩, .bool false, .string ⟨#[111]⟩, .string ⟨#[]⟩, .bool false] 26 (0, 0)) → ∀ j u, (flatE (entA.take 6))[j]? = some u → W.cell? ((⟨w.heap.size + 1, 0, none⟩ : Addr).add j) = some u) := Lib.hid (fun W hW => part_cells hW [] (entA.take 6) (entA.drop 6) (by kernel_rfl) 0 rfl)
  clear hb1 hblk hb2 hbox
  go_region_law (first
    | (refine step_ents (by rfl) _ _ (by rfl) W1.heap.size (.slice (some ⟨W1.heap.size, 0, none⟩) 0 0) 0 [] (by rfl) HO2.out ⟨w.heap.size + 1, 18, none⟩ 3 3 (entA.drop 6) (by rfl) (by rfl) PC1.out (by decide) HB2.out.size ?_; intro a4 c4 W4 hown4 hgr4; have HB4 := Lib.hid (HB2.out.grown hgr4 HB2.out.size (own_ge13 HO2.out)); have HO4 := Lib.hid hown4; have HK4 := Lib.hid ((HB4.out.block (w.heap.size + 1) (Array.getElem?_eq_some_iff.1 HBK.out).1).trans HBK.out); clear hgr4 hown4)
    | (refine step_ents (by rfl) _ _ (by rfl) W1.heap.size _ _ _ (by rfl) HO4.out ⟨w.heap.size + 1, 0, none⟩ 6 9 (entA.take 6) (by rfl) (by rfl) (PC2.out _ HK4.out) (by decide) HB4.out.size ?_; intro a5 c5 W5 hown5 hgr5; have HB5 := Lib.hid (HB4.out.grown hgr5 HB4.out.size (own_ge13 HO4.out)); have HO5 := Lib.hid hown5; have hr5 := HBX.out.of_block (HB5.out.block w.heap.size hlt1); have p0 := hr5.cell (i := 0) (show 0 < 3 by decide); have p1 := hr5.cell (i := 1) (show 1 < 3 by decide); have p2 := hr5.cell (i := 2) (show 2 < 3 by decide); have f0 := hr5.frozen 0; have f1 := hr5.frozen 1; have f2 := hr5.frozen 2; have HR5 := Lib.hid hr5; clear hr5 hgr5 hown5))
  obtain ⟨W6, hW6⟩ : ∃ W6, ((W5.setCell ⟨w.heap.size, 0, none⟩ (.string ⟨#[]⟩)).setCell ⟨w.heap.size, 1, none⟩ (.slice a5 9 c5)).setCell ⟨w.heap.size, 2, none⟩ (.slice none 0 0) = W6 := ⟨_, rfl⟩
  have hr6 := (World.rowIs.set (World.rowIs.set (World.rowIs.set HR5.out 0 (.string ⟨#[]⟩)) 1 (.slice a5 9 c5)) 2 (.slice none 0 0))
  have hk6 : ∀ q, W1.heap.size ≤ q → (((W5.setCell ⟨w.heap.size, 0, none⟩ (.string ⟨#[]⟩)).setCell ⟨w.heap.size, 1, none⟩ (.slice a5 9 c5)).setCell ⟨w.heap.size, 2, none⟩ (.slice none 0 0)).heap[q]? = W5.heap[q]? := fun q hq => ((Below.heap_setCell _ _ _ _ (by show q ≠ w.heap.size; omega)).trans (Below.heap_setCell _ _ _ _ (by show q ≠ w.heap.size; omega))).trans (Below.heap_setCell _ _ _ _ (by show q ≠ w.heap.size; omega))
  have hb6 : Below w.heap.size w (((W5.setCell ⟨w.heap.size, 0, none⟩ (.string ⟨#[]⟩)).setCell ⟨w.heap.size, 1, none⟩ (.slice a5 9 c5)).setCell ⟨w.heap.size, 2, none⟩ (.slice none 0 0)) := (((HB1.out.trans (HB5.out.mono (Nat.le_of_lt hlt1))).setCell (Nat.le_refl _) _).setCell (Nat.le_refl _) _).setCell (Nat.le_refl _) _
  rw [hW6] at hr6 hk6 hb6 ⊢
  clear hW6
  have d0 : W6.cell? ⟨w.heap.size, 0, none⟩ = some (.string ⟨#[]⟩) := hr6.cell (i := 0) (show 0 < 3 by decide)
  have d1 : W6.cell? ⟨w.heap.size, 1, none⟩ = some (.slice a5 9 c5) := hr6.cell (i := 1) (show 1 < 3 by decide)
  have d2 : W6.cell? ⟨w.heap.size, 2, none⟩ = some (.slice none 0 0) := hr6.cell (i := 2) (show 2 < 3 by decide)
  have HEN : Hid (EntsAt W6.heap.size W6 (.slice a5 9 c5) (rotA 6)) := Lib.hid (owns_ents (own_keep13 (show W5.ownsRow W1.heap.size 26 3 (.slice a5 9 c5) (rotA 6).length (flatE (rotA 6)) from HO5.out) hk6))
  have HB6 := Lib.hid hb6
  clear hr6 hk6 hb6 p0 p1 p2 f0 f1 f2
  go_wp2
  refine bodyPost_ret (by simp [results, Tryz.results12, d0, d1, d2, go_sem]; try rfl) rfl ?_
  exact ⟨_, rfl, HEN.out, HB6.out⟩
set_option maxHeartbeats 4000000 in
set_option maxRecDepth 100000 in
theorem ents13_7 (n : Int) (u : Nat) (hk1 : IntKind.u64.wrap n = (u : Int)) (hk2 : Int.tmod (u : Int) 9 = 7) (w : World) :
    Calls Tryz.prog 12 #[.int .i64 n] w fun e w' => ∃ v, e = .returned (.agg #[.string ⟨#[]⟩, v, .slice none 0 0]) ∧ EntsAt w'.heap.size w' v (rotA 7) ∧ Below w.heap.size w w' := by
  have hb0 := ((Below.refl w.heap.size w).alloc (Nat.le_refl _) (.cells #[.string ⟨#[]⟩, .slice none 0 0, .slice none 0 0] 30))
  have hb1 := hb0.alloc hb0.size (.cells #[.string ⟨#[101]⟩, .string ⟨#[120, 32, 121]⟩, .bool false, .string ⟨#[102]⟩, .string ⟨#[38, 101, 59, 38, 101, 59]⟩, .bool false, .string ⟨#[103]⟩, .string ⟨#[38, 102, 59, 38, 102, 59, 38, 102, 59]⟩, .bool false, .string ⟨#[104]⟩, .string ⟨#[]⟩, .bool true, .string ⟨#[105]⟩, .string ⟨#[60]⟩, .bool false, .string ⟨#[106]⟩, .string ⟨#[38, 107, 59]⟩, .bool false, .string ⟨#[107]⟩, .string ⟨#[38, 106, 59]⟩, .bool false, .string ⟨#[109]⟩, .string ⟨#[38, 35, 57, 59, 38, 108, 116, 59]⟩, .bool false, .string ⟨#[111]⟩, .string ⟨#[]⟩, .bool false] 26)
  have hsz0 : (w.alloc (.cells #[.string ⟨#[]⟩, .slice none 0 0, .slice none 0 0] 30)).heap.size = w.heap.size + 1 := by show (w.heap.push _).size = _; rw [Array.size_push]
  have hblk : ((w.alloc (.cells #[.string ⟨#[]⟩, .slice none 0 0, .slice none 0 0] 30)).alloc (.cells #[.string ⟨#[101]⟩, .string ⟨#[120, 32, 121]⟩, .bool false, .string ⟨#[102]⟩, .string ⟨#[38, 101, 59, 38, 101, 59]⟩, .bool false, .string ⟨#[103]⟩, .string ⟨#[38, 102, 59, 38, 102, 59, 38, 102, 59]⟩, .bool false, .string ⟨#[104]⟩, .string ⟨#[]⟩, .bool true, .string ⟨#[105]⟩, .string ⟨#[60]⟩, .bool false, .string ⟨#[106]⟩, .string ⟨#[38, 107, 59]⟩, .bool false, .string ⟨#[107]⟩, .string ⟨#[38, 106, 59]⟩, .bool false, .string ⟨#[109]⟩, .string ⟨#[38, 35, 57, 59, 38, 108, 116, 59]⟩, .bool false, .string ⟨#[111]⟩, .string ⟨#[]⟩, .bool false] 26)).heap[w.heap.size + 1]? = some (.cells #[.string ⟨#[101]⟩, .string ⟨#[120, 32, 121]⟩, .bool false, .string ⟨#[102]⟩, .string ⟨#[38, 101, 59, 38, 101, 59]⟩, .bool false, .string ⟨#[103]⟩, .string ⟨#[38, 102, 59, 38, 102, 59, 38, 102, 59]⟩, .bool false, .string ⟨#[104]⟩, .string ⟨#[]⟩, .bool true, .string ⟨#[105]⟩, .string ⟨#[60]⟩, .bool false, .string ⟨#[106]⟩, .string ⟨#[38, 107, 59]⟩, .bool false, .string ⟨#[107]⟩, .string ⟨#[38, 106, 59]⟩, .bool false, .string ⟨#[109]⟩, .string ⟨#[38, 35, 57, 59, 38, 108, 116, 59]⟩, .bool false, .string ⟨#[111]⟩, .string ⟨#[]⟩, .bool false] 26 (0, 0)) := by
    rw [← hsz0]
    show (Array.push _ _)[_]? = _
    rw [Array.getElem?_push_size]
  have hbox := (World.rowIs_alloc w #[.string ⟨#[]⟩, .slice none 0 0, .slice none 0 0] 30 (fun i => if i = 0 then .string ⟨#[]⟩ else .slice none 0 0) (by
    intro i hi
    rcases (show i = 0 ∨ i = 1 ∨ i = 2 by have : i < 3 := hi; omega) with rfl | rfl | rfl <;> rfl)).alloc (.cells #[.string ⟨#[101]⟩, .string ⟨#[120, 32, 121]⟩, .bool false, .string ⟨#[102]⟩, .string ⟨#[38, 101, 59, 38, 101, 59]⟩, .bool false, .string ⟨#[103]⟩, .string ⟨#[38, 102, 59, 38, 102, 59, 38, 102, 59]⟩, .bool false, .string ⟨#[104]⟩, .string ⟨#[]⟩, .bool true, .string ⟨#[105]⟩, .string ⟨#[60]⟩, .bool false, .string ⟨#[106]⟩, .string ⟨#[38, 107, 59]⟩, .bool false, .string ⟨#[107]⟩, .string ⟨#[38, 106, 59]⟩, .bool false, .string ⟨#[109]⟩, .string ⟨#[38, 35, 57, 59, 38, 108, 116, 59]⟩, .bool false, .string ⟨#[111]⟩, .string ⟨#[]⟩, .bool false] 26)
  go_enter Tryz.func12, Tryz.ntmps12
  go_wp2_with fail
  obtain ⟨W1, hW1⟩ : ∃ W1, (w.alloc (.cells #[.string ⟨#[]⟩, .slice none 0 0, .slice none 0 0] 30)).alloc (.cells #[.string ⟨#[101]⟩, .string ⟨#[120, 32, 121]⟩, .bool false, .string ⟨#[102]⟩, .string ⟨#[38, 101, 59, 38, 101, 59]⟩, .bool false, .string ⟨#[103]⟩, .string ⟨#[38, 102, 59, 38, 102, 59, 38, 102, 59]⟩, .bool false, .string ⟨#[104]⟩, .string ⟨#[]⟩, .bool true, .string ⟨#[105]⟩, .string ⟨#[60]⟩, .bool false, .string ⟨#[106]⟩, .string ⟨#[38, 107, 59]⟩, .bool false, .string ⟨#[107]⟩, .string ⟨#[38, 106, 59]⟩, .bool false, .string ⟨#[109]⟩, .string ⟨#[38, 35, 57, 59, 38, 108, 116, 59]⟩, .bool false, .string ⟨#[111]⟩, .string ⟨#[]⟩, .bool false] 26) = W1 := ⟨_, rfl⟩
  rw [hW1] at hb1 hblk hbox ⊢
  clear hW1 hb0 hsz0
  have HBX := Lib.hid hbox
  have HB1 := Lib.hid hb1
  have hlt1 : w.heap.size < W1.heap.size := hbox.lt
  have hb2 := (Below.refl W1.heap.size W1).alloc (Nat.le_refl _) (.cells #[] 26)
  have HO2 : Hid ((W1.alloc (.cells #[] 26)).drew.ownsRow W1.heap.size 26 3 (.slice (some ⟨W1.heap.size, 0, none⟩) 0 0) 0 (flatE [])) := Lib.hid (own_nothing13 W1)
  have HB2 := Lib.hid hb2.drew
  have HK2 : Hid ((W1.alloc (.cells #[] 26)).drew.heap[w.heap.size + 1]? = some (.cells #[.string ⟨#[101]⟩, .string ⟨#[120, 32, 121]⟩, .bool false, .string ⟨#[102]⟩, .string ⟨#[38, 101, 59, 38, 101, 59]⟩, .bool false, .string ⟨#[103]⟩, .string ⟨#[38, 102, 59, 38, 102, 59, 38, 102, 59]⟩, .bool false, .string ⟨#[104]⟩, .string ⟨#[]⟩, .bool true, .string ⟨#[105]⟩, .string ⟨#[60]⟩, .bool false, .string ⟨#[106]⟩, .string ⟨#[38, 107, 59]⟩, .bool false, .string ⟨#[107]⟩, .string ⟨#[38, 106, 59]⟩, .bool false, .string ⟨#[109]⟩, .string ⟨#[38, 35, 57, 59, 38, 108, 116, 59]⟩, .bool false, .string ⟨#[111]⟩, .string ⟨#[]⟩, .bool false] 26 (0, 0))) := Lib.hid ((hb2.block _ (by have := (Array.getElem?_eq_some_iff.1 hblk).1; exact this)).trans hblk)
  have HBK := Lib.hid hblk
  have PC1 := Lib.hid (part_cells HK2.out (entA.take 7) (entA.drop 7) [] (by kernel_rfl) 21 rfl)
  have PC2 : Hid (∀ W : World, W.heap[w.heap.size + 1]? = some (.cells #[.string ⟨#[101]⟩, .string ⟨#[120, 32, 121]⟩, .bool false, .string ⟨#[102]⟩, .string ⟨#[38, 101, 59, 38, 101, 59]⟩, .bool false, .string ⟨#[103]⟩, .string ⟨#[38, 102, 59, 38, 102, 59, 38, 102, 59]⟩, .bool false, .string ⟨#[104]⟩, .string ⟨#[]⟩, .bool true, .string ⟨#[105]⟩, .string ⟨#[60]⟩, .bool false, .string ⟨#[106]⟩, .string ⟨#[38, 107, 59]⟩, .bool false, .string ⟨#[107]⟩, .string ⟨#[38, 106, 59]⟩, .bool false, .string ⟨#[109]⟩, .string ⟨#[38, 35, 57, 59, 38, 108, 116, 59]⟩, .bool false, .string ⟨#[111]⟩, .string ⟨#[]⟩, .bool false] 26 (0, 0)) → ∀ j u, (flatE (entA.take 7))[j]? = some u → W.cell? ((⟨w.heap.size + 1, 0, none⟩ : Addr).add j) = some u) := Lib.hid (fun W hW => part_cells hW [] (entA.take 7) (entA.drop 7) (by kernel_rfl) 0 rfl)
  clear hb1 hblk hb2 hbox
  go_region_law (first
    | (refine step_ents (by rfl) _ _ (by rfl) W1.heap.size (.slice (some ⟨W1.heap.size, 0, none⟩) 0 0) 0 [] (by rfl) HO2.out ⟨w.heap.size + 1, 21, none⟩ 2 2 (entA.drop 7) (by rfl) (by rfl) PC1.out (by decide) HB2.out.size ?_; intro a4 c4 W4 hown4 hgr4; have HB4 := Lib.hid (HB2.out.grown hgr4 HB2.out.size (own_ge13 HO2.out)); have HO4 := Lib.hid hown4; have HK4 := Lib.hid ((HB4.out.block (w.heap.size + 1) (Array.getElem?_eq_some_iff.1 HBK.out).1).trans HBK.out); clear hgr4 hown4)
    | (refine step_ents (by rfl) _ _ (by rfl) W1.heap.size _ _ _ (by rfl) HO4.out ⟨w.heap.size + 1, 0, none⟩ 7 9 (entA.take 7) (by rfl) (by rfl) (PC2.out _ HK4.out) (by decide) HB4.out.size ?_; intro a5 c5 W5 hown5 hgr5; have HB5 := Lib.hid (HB4.out.grown hgr5 HB4.out.size (own_ge13 HO4.out)); have HO5 := Lib.hid hown5; have hr5 := HBX.out.of_block (HB5.out.block w.heap.size hlt1); have p0 := hr5.cell (i := 0) (show 0 < 3 by decide); have p1 := hr5.cell (i := 1) (show 1 < 3 by decide); have p2 := hr5.cell (i := 2) (show 2 < 3 by decide); have f0 := hr5.frozen 0; have f1 := hr5.frozen 1; have f2 := hr5.frozen 2; have HR5 := Lib.hid hr5; clear hr5 hgr5 hown5))
  obtain ⟨W6, hW6⟩ : ∃ W6, ((W5.setCell ⟨w.heap.size, 0, none⟩ (.string ⟨#[]⟩)).setCell ⟨w.heap.size, 1, none⟩ (.slice a5 9 c5)).setCell ⟨w.heap.size, 2, none⟩ (.slice none 0 0) = W6 := ⟨_, rfl⟩
  have hr6 := (World.rowIs.set (World.rowIs.set (World.rowIs.set HR5.out 0 (.string ⟨#[]⟩)) 1 (.slice a5 9 c5)) 2 (.slice none 0 0))
  have hk6 : ∀ q, W1.heap.size ≤ q → (((W5.setCell ⟨w.heap.size, 0, none⟩ (.string ⟨#[]⟩)).setCell ⟨w.heap.size, 1, none⟩ (.slice a5 9 c5)).setCell ⟨w.heap.size, 2, none⟩ (.slice none 0 0)).heap[q]? = W5.heap[q]? := fun q hq => ((Below.heap_setCell _ _ _ _ (by show q ≠ w.heap.size; omega)).trans (Below.heap_setCell _ _ _ _ (by show q ≠ w.heap.size; omega))).trans (Below.heap_setCell _ _ _ _ (by show q ≠ w.heap.size; omega))
  have hb6 : Below w.heap.size w (((W5.setCell ⟨w.heap.size, 0, none⟩ (.string ⟨#[]⟩)).setCell ⟨w.heap.size, 1, none⟩ (.slice a5 9 c5)).setCell ⟨w.heap.size, 2, none⟩ (.slice none 0 0)) := (((HB1.out.trans (HB5.out.mono (Nat.le_of_lt hlt1))).setCell (Nat.le_refl _) _).setCell (Nat.le_refl _) _).setCell (Nat.le_refl _) _
  rw [hW6] at hr6 hk6 hb6 ⊢
  clear hW6
  have d0 : W6.cell? ⟨w.heap.size, 0, none⟩ = some (.string ⟨#[]⟩) := hr6.cell (i := 0) (show 0 < 3 by decide)
  have d1 : W6.cell? ⟨w.heap.size, 1, none⟩ = some (.slice a5 9 c5) := hr6.cell (i := 1) (show 1 < 3 by decide)
  have d2 : W6.cell? ⟨w.heap.size, 2, none⟩ = some (.slice none 0 0) := hr6.cell (i := 2) (show 2 < 3 by decide)
  have HEN : Hid (EntsAt W6.heap.size W6 (.slice a5 9 c5) (rotA 7)) := Lib.hid (owns_ents (own_keep13 (show W5.ownsRow W1.heap.size 26 3 (.slice a5 9 c5) (rotA 7).length (flatE (rotA 7)) from HO5.out) hk6))
  have HB6 := Lib.hid hb6
  clear hr6 hk6 hb6 p0 p1 p2 f0 f1 f2
  go_wp2
  refine bodyPost_ret (by simp [results, Tryz.results12, d0, d1, d2, go_sem]; try rfl) rfl ?_
  exact ⟨_, rfl, HEN.out, HB6.out⟩
set_option maxHeartbeats 4000000 in
set_option maxRecDepth 100000 in
theorem ents13_8 (n : Int) (u : Nat) (hk1 : IntKind.u64.wrap n = (u : Int)) (hk2 : Int.tmod (u : Int) 9 = 8) (w : World) :
    Calls Tryz.prog 12 #[.int .i64 n] w fun e w' => ∃ v, e = .returned (.agg #[.string ⟨#[]⟩, v, .slice none 0 0]) ∧ EntsAt w'.heap.size w' v (rotA 8) ∧ Below w.heap.size w w' := by
  have hb0 := ((Below.refl w.heap.size w).alloc (Nat.le_refl _) (.cells #[.string ⟨#[]⟩, .slice none 0 0, .slice none 0 0] 30))
  have hb1 := hb0.alloc hb0.size (.cells #[.string ⟨#[101]⟩, .string ⟨#[120, 32, 121]⟩, .bool false, .string ⟨#[102]⟩, .string ⟨#[38, 101, 59, 38, 101, 59]⟩, .bool false, .string ⟨#[103]⟩, .string ⟨#[38, 102, 59, 38, 102, 59, 38, 102, 59]⟩, .bool false, .string ⟨#[104]⟩, .string ⟨#[]⟩, .bool true, .string ⟨#[105]⟩, .string ⟨#[60]⟩, .bool false, .string ⟨#[106]⟩, .string ⟨#[38, 107, 59]⟩, .bool false, .string ⟨#[107]⟩, .string ⟨#[38, 106, 59]⟩, .bool false, .string ⟨#[109]⟩, .string ⟨#[38, 35, 57, 59, 38, 108, 116, 59]⟩, .bool false, .string ⟨#[111]⟩, .string ⟨#[]⟩, .bool false] 26)
  have hsz0 : (w.alloc (.cells #[.string ⟨#[]⟩, .slice none 0 0, .slice none 0 0] 30)).heap.size = w.heap.size + 1 := by show (w.heap.push _).size = _; rw [Array.size_push]
  have hblk : ((w.alloc (.cells #[.string ⟨#[]⟩, .slice none 0 0, .slice none 0 0] 30)).alloc (.cells #[.string ⟨#[101]⟩, .string ⟨#[120, 32, 121]⟩, .bool false, .string ⟨#[102]⟩, .string ⟨#[38, 101, 59, 38, 101, 59]⟩, .bool false, .string ⟨#[103]⟩, .string ⟨#[38, 102, 59, 38, 102, 59, 38, 102, 59]⟩, .bool false, .string ⟨#[104]⟩, .string ⟨#[]⟩, .bool true, .string ⟨#[105]⟩, .string ⟨#[60]⟩, .bool false, .string ⟨#[106]⟩, .string ⟨#[38, 107, 59]⟩, .bool false, .string ⟨#[107]⟩, .string ⟨#[38, 106, 59]⟩, .bool false, .string ⟨#[109]⟩, .string ⟨#[38, 35, 57, 59, 38, 108, 116, 59]⟩, .bool false, .string ⟨#[111]⟩, .string ⟨#[]⟩, .bool false] 26)).heap[w.heap.size + 1]? = some (.cells #[.string ⟨#[101]⟩, .string ⟨#[120, 32, 121]⟩, .bool false, .string ⟨#[102]⟩, .string ⟨#[38, 101, 59, 38, 101, 59]⟩, .bool false, .string ⟨#[103]⟩, .string ⟨#[38, 102, 59, 38, 102, 59, 38, 102, 59]⟩, .bool false, .string ⟨#[104]⟩, .string ⟨#[]⟩, .bool true, .string ⟨#[105]⟩, .string ⟨#[60]⟩, .bool false, .string ⟨#[106]⟩, .string ⟨#[38, 107, 59]⟩, .bool false, .string ⟨#[107]⟩, .string ⟨#[38, 106, 59]⟩, .bool false, .string ⟨#[109]⟩, .string ⟨#[38, 35, 57, 59, 38, 108, 116, 59]⟩, .bool false, .string ⟨#[111]⟩, .string ⟨#[]⟩, .bool false] 26 (0, 0)) := by
    rw [← hsz0]
    show (Array.push _ _)[_]? = _
    rw [Array.getElem?_push_size]
  have hbox := (World.rowIs_alloc w #[.string ⟨#[]⟩, .slice none 0 0, .slice none 0 0] 30 (fun i => if i = 0 then .string ⟨#[]⟩ else .slice none 0 0) (by
    intro i hi
    rcases (show i = 0 ∨ i = 1 ∨ i = 2 by have : i < 3 := hi; omega) with rfl | rfl | rfl <;> rfl)).alloc (.cells #[.string ⟨#[101]⟩, .string ⟨#[120, 32, 121]⟩, .bool false, .string ⟨#[102]⟩, .string ⟨#[38, 101, 59, 38, 101, 59]⟩, .bool false, .string ⟨#[103]⟩, .string ⟨#[38, 102, 59, 38, 102, 59, 38, 102, 59]⟩, .bool false, .string ⟨#[104]⟩, .string ⟨#[]⟩, .bool true, .string ⟨#[105]⟩, .string ⟨#[60]⟩, .bool false, .string ⟨#[106]⟩, .string ⟨#[38, 107, 59]⟩, .bool false, .string ⟨#[107]⟩, .string ⟨#[38, 106, 59]⟩, .bool false, .string ⟨#[109]⟩, .string ⟨#[38, 35, 57, 59, 38, 108, 116, 59]⟩, .bool false, .string ⟨#[111]⟩, .string ⟨#[]⟩, .bool false] 26)
  go_enter Tryz.func12, Tryz.ntmps12
  go_wp2_with fail
  obtain ⟨W1, hW1⟩ : ∃ W1, (w.alloc (.cells #[.string ⟨#[]⟩, .slice none 0 0, .slice none 0 0] 30)).alloc (.cells #[.string ⟨#[101]⟩, .string ⟨#[120, 32, 121]⟩, .bool false, .string ⟨#[102]⟩, .string ⟨#[38, 101, 59, 38, 101, 59]⟩, .bool false, .string ⟨#[103]⟩, .string ⟨#[38, 102, 59, 38, 102, 59, 38, 102, 59]⟩, .bool false, .string ⟨#[104]⟩, .string ⟨#[]⟩, .bool true, .string ⟨#[105]⟩, .string ⟨#[60]⟩, .bool false, .string ⟨#[106]⟩, .string ⟨#[38, 107, 59]⟩, .bool false, .string ⟨#[107]⟩, .string ⟨#[38, 106, 59]⟩, .bool false, .string ⟨#[109]⟩, .string ⟨#[38, 35, 57, 59, 38, 108, 116, 59]⟩, .bool false, .string ⟨#[111]⟩, .string ⟨#[]⟩, .bool false] 26) = W1 := ⟨_, rfl⟩
  rw [hW1] at hb1 hblk hbox ⊢
  clear hW1 hb0 hsz0
  have HBX := Lib.hid hbox
  have HB1 := Lib.hid hb1
  have hlt1 : w.heap.size < W1.heap.size := hbox.lt
  have hb2 := (Below.refl W1.heap.size W1).alloc (Nat.le_refl _) (.cells #[] 26)
  have HO2 : Hid ((W1.alloc (.cells #[] 26)).drew.ownsRow W1.heap.size 26 3 (.slice (some ⟨W1.heap.size, 0, none⟩) 0 0) 0 (flatE [])) := Lib.hid (own_nothing13 W1)
  have HB2 := Lib.hid hb2.drew
  have HK2 : Hid ((W1.alloc (.cells #[] 26)).drew.heap[w.heap.size + 1]? = some (.cells #[.string ⟨#[101]⟩, .string ⟨#[120, 32, 121]⟩, .bool false, .string ⟨#[102]⟩, .string ⟨#[38, 101, 59, 38, 101, 59]⟩, .bool false, .string ⟨#[103]⟩, .string ⟨#[38, 102, 59, 38, 102, 59, 38, 102, 59]⟩, .bool false, .string ⟨#[104]⟩, .string ⟨#[]⟩, .bool true, .string ⟨#[105]⟩, .string ⟨#[60]⟩, .bool false, .string ⟨#[106]⟩, .string ⟨#[38, 107, 59]⟩, .bool false, .string ⟨#[107]⟩, .string ⟨#[38, 106, 59]⟩, .bool false, .string ⟨#[109]⟩, .string ⟨#[38, 35, 57, 59, 38, 108, 116, 59]⟩, .bool false, .string ⟨#[111]⟩, .string ⟨#[]⟩, .bool false] 26 (0, 0))) := Lib.hid ((hb2.block _ (by have := (Array.getElem?_eq_some_iff.1 hblk).1; exact this)).trans hblk)
  have HBK := Lib.hid hblk
  have PC1 := Lib.hid (part_cells HK2.out (entA.take 8) (entA.drop 8) [] (by kernel_rfl) 24 rfl)
  have PC2 : Hid (∀ W : World, W.heap[w.heap.size + 1]? = some (.cells #[.string ⟨#[101]⟩, .string ⟨#[120, 32, 121]⟩, .bool false, .string ⟨#[102]⟩, .string ⟨#[38, 101, 59, 38, 101, 59]⟩, .bool false, .string ⟨#[103]⟩, .string ⟨#[38, 102, 59, 38, 102, 59, 38, 102, 59]⟩, .bool false, .string ⟨#[104]⟩, .string ⟨#[]⟩, .bool true, .string ⟨#[105]⟩, .string ⟨#[60]⟩, .bool false, .string ⟨#[106]⟩, .string ⟨#[38, 107, 59]⟩, .bool false, .string ⟨#[107]⟩, .string ⟨#[38, 106, 59]⟩, .bool false, .string ⟨#[109]⟩, .string ⟨#[38, 35, 57, 59, 38, 108, 116, 59]⟩, .bool false, .string ⟨#[111]⟩, .string ⟨#[]⟩, .bool false] 26 (0, 0)) → ∀ j u, (flatE (entA.take 8))[j]? = some u → W.cell? ((⟨w.heap.size + 1, 0, none⟩ : Addr).add j) = some u) := Lib.hid (fun W hW => part_cells hW [] (entA.take 8) (entA.drop 8) (by kernel_rfl) 0 rfl)
  clear hb1 hblk hb2 hbox
  go_region_law (first
    | (refine step_ents (by rfl) _ _ (by rfl) W1.heap.size (.slice (some ⟨W1.heap.size, 0, none⟩) 0 0) 0 [] (by rfl) HO2.out ⟨w.heap.size + 1, 24, none⟩ 1 1 (entA.drop 8) (by rfl) (by rfl) PC1.out (by decide) HB2.out.size ?_; intro a4 c4 W4 hown4 hgr4; have HB4 := Lib.hid (HB2.out.grown hgr4 HB2.out.size (own_ge13 HO2.out)); have HO4 := Lib.hid hown4; have HK4 := Lib.hid ((HB4.out.block (w.heap.size + 1) (Array.getElem?_eq_some_iff.1 HBK.out).1).trans HBK.out); clear hgr4 hown4)
    | (refine step_ents (by rfl) _ _ (by rfl) W1.heap.size _ _ _ (by rfl) HO4.out ⟨w.heap.size + 1, 0, none⟩ 8 9 (entA.take 8) (by rfl) (by rfl) (PC2.out _ HK4.out) (by decide) HB4.out.size ?_; intro a5 c5 W5 hown5 hgr5; have HB5 := Lib.hid (HB4.out.grown hgr5 HB4.out.size (own_ge13 HO4.out)); have HO5 := Lib.hid hown5; have hr5 := HBX.out.of_block (HB5.out.block w.heap.size hlt1); have p0 := hr5.cell (i := 0) (show 0 < 3 by decide); have p1 := hr5.cell (i := 1) (show 1 < 3 by decide); have p2 := hr5.cell (i := 2) (show 2 < 3 by decide); have f0 := hr5.frozen 0; have f1 := hr5.frozen 1; have f2 := hr5.frozen 2; have HR5 := Lib.hid hr5; clear hr5 hgr5 hown5))
  obtain ⟨W6, hW6⟩ : ∃ W6, ((W5.setCell ⟨w.heap.size, 0, none⟩ (.string ⟨#[]⟩)).setCell ⟨w.heap.size, 1, none⟩ (.slice a5 9 c5)).setCell ⟨w.heap.size, 2, none⟩ (.slice none 0 0) = W6 := ⟨_, rfl⟩
  have hr6 := (World.rowIs.set (World.rowIs.set (World.rowIs.set HR5.out 0 (.string ⟨#[]⟩)) 1 (.slice a5 9 c5)) 2 (.slice none 0 0))
  have hk6 : ∀ q, W1.heap.size ≤ q → (((W5.setCell ⟨w.heap.size, 0, none⟩ (.string ⟨#[]⟩)).setCell ⟨w.heap.size, 1, none⟩ (.slice a5 9 c5)).setCell ⟨w.heap.size, 2, none⟩ (.slice none 0 0)).heap[q]? = W5.heap[q]? := fun q hq => ((Below.heap_setCell _ _ _ _ (by show q ≠ w.heap.size; omega)).trans (Below.heap_setCell _ _ _ _ (by show q ≠ w.heap.size; omega))).trans (Below.heap_setCell _ _ _ _ (by show q ≠ w.heap.size; omega))
  have hb6 : Below w.heap.size w (((W5.setCell ⟨w.heap.size, 0, none⟩ (.string ⟨#[]⟩)).setCell ⟨w.heap.size, 1, none⟩ (.slice a5 9 c5)).setCell ⟨w.heap.size, 2, none⟩ (.slice none 0 0)) := (((HB1.out.trans (HB5.out.mono (Nat.le_of_lt hlt1))).setCell (Nat.le_refl _) _).setCell (Nat.le_refl _) _).setCell (Nat.le_refl _) _
  rw [hW6] at hr6 hk6 hb6 ⊢
  clear hW6
  have d0 : W6.cell? ⟨w.heap.size, 0, none⟩ = some (.string ⟨#[]⟩) := hr6.cell (i := 0) (show 0 < 3 by decide)
  have d1 : W6.cell? ⟨w.heap.size, 1, none⟩ = some (.slice a5 9 c5) := hr6.cell (i := 1) (show 1 < 3 by decide)
  have d2 : W6.cell? ⟨w.heap.size, 2, none⟩ = some (.slice none 0 0) := hr6.cell (i := 2) (show 2 < 3 by decide)
  have HEN : Hid (EntsAt W6.heap.size W6 (.slice a5 9 c5) (rotA 8)) := Lib.hid (owns_ents (own_keep13 (show W5.ownsRow W1.heap.size 26 3 (.slice a5 9 c5) (rotA 8).length (flatE (rotA 8)) from HO5.out) hk6))
  have HB6 := Lib.hid hb6
  clear hr6 hk6 hb6 p0 p1 p2 f0 f1 f2
  go_wp2
  refine bodyPost_ret (by simp [results, Tryz.results12, d0, d1, d2, go_sem]; try rfl) rfl ?_
  exact ⟨_, rfl, HEN.out, HB6.out⟩
theorem ents13_any (n : Int) (w : World) : ∃ k, k < 9 ∧ Calls Tryz.prog 12 #[.int .i64 n] w fun e w' => ∃ v, e = .returned (.agg #[.string ⟨#[]⟩, v, .slice none 0 0]) ∧ EntsAt w'.heap.size w' v (rotA k) ∧ Below w.heap.size w w' := by
  obtain ⟨u, k, hk1, hk2, hk3, _, _⟩ := wrap_mod n 9 (by decide) (by decide)
  refine ⟨k, hk3, ?_⟩
  replace hk2 : Int.tmod (u : Int) 9 = (k : Int) := hk2
  rcases (show k = 0 ∨ k = 1 ∨ k = 2 ∨ k = 3 ∨ k = 4 ∨ k = 5 ∨ k = 6 ∨ k = 7 ∨ k = 8 by omega) with rfl | rfl | rfl | rfl | rfl | rfl | rfl | rfl | rfl
  · exact ents13_0 n u hk1 hk2 w
  · exact ents13_1 n u hk1 hk2 w
  · exact ents13_2 n u hk1 hk2 w
  · exact ents13_3 n u hk1 hk2 w
  · exact ents13_4 n u hk1 hk2 w
  · exact ents13_5 n u hk1 hk2 w
  · exact ents13_6 n u hk1 hk2 w
  · exact ents13_7 n u hk1 hk2 w
  · exact ents13_8 n u hk1 hk2 w
end Go.Proofs.YtjijjmkeehdooaaGreatDoor
