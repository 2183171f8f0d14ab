/-
  AN ARGUMENT OF ENTITIES ([]api.Entity), nil too.
-/
import Derived.Test.YtdgcpeipoiljiaaEntsAt
import Derived.OpenShut
import Derived.Deep.Slices
import Derived.ChangeSame
namespace Go.Proofs.Ytdgcpeipoiljiaa
open Go.RowKit Go.WideShapes

/-- a []api.Entity, nil too, with its capacity -/
def EntArg (w : World) (v : Value) : Prop := ∃ (a : Option Addr) (cap : Nat) (l : List EntD), v = .slice a l.length cap ∧ EntsAt w.heap.size w v l ∧ l.length ≤ cap ∧ l.length ≤ 9223372036854775807 ∧ (∀ i, i < l.length → ((entI l i).name.length ≤ 9223372036854775807 ∧ (entI l i).value.length ≤ 9223372036854775807)) ∧ (a = none → cap = 0)
theorem entArg_nil (w : World) (cap : Nat) (a : Option Addr) (h : a = none → cap = 0) : EntArg w (.slice a 0 cap) := ⟨a, cap, [], rfl, Or.inl ⟨a, cap, rfl, rfl⟩, Nat.zero_le _, Nat.zero_le _, (fun i hi => by cases hi), h⟩
theorem entArg_of {w : World} {a : Addr} {len cap : Nat} (hc : ∀ i, i < len → ∃ (s t : ByteArray) (b : Bool), w.cell? (a.add (i * 3)) = some (.string s) ∧ w.cell? (a.add (i * 3 + 1)) = some (.string t) ∧ w.cell? (a.add (i * 3 + 2)) = some (.bool b) ∧ s.size ≤ 9223372036854775807 ∧ t.size ≤ 9223372036854775807) (hl : len ≤ cap) (hm : len ≤ 9223372036854775807) :
    EntArg w (.slice (some a) len cap) := by
  by_cases h0 : len = 0
  · subst h0
    exact entArg_nil w cap (some a) (fun e => by cases e)
  · obtain ⟨b, off, spot⟩ := a
    have hspot : spot = none := by
      obtain ⟨s, _, _, h, _⟩ := hc 0 (by omega)
      simpa [Addr.add] using World.cell?_spot h
    subst hspot
    have hb : b < w.heap.size := by
      obtain ⟨s, _, _, h, _⟩ := hc 0 (by omega)
      exact World.block_lt_of_cell? _ _ h
    have hex : ∃ f : Nat → EntD, ∀ i, i < len → w.cell? ⟨b, off + i * 3, none⟩ = some (.string (bytes (f i).name)) ∧ w.cell? ⟨b, off + i * 3 + 1, none⟩ = some (.string (bytes (f i).value)) ∧ w.cell? ⟨b, off + i * 3 + 2, none⟩ = some (.bool (f i).ext) ∧ (f i).name.length ≤ 9223372036854775807 ∧ (f i).value.length ≤ 9223372036854775807 := by
      have key : ∀ i, ∃ e : EntD, i < len → w.cell? ⟨b, off + i * 3, none⟩ = some (.string (bytes e.name)) ∧ w.cell? ⟨b, off + i * 3 + 1, none⟩ = some (.string (bytes e.value)) ∧ w.cell? ⟨b, off + i * 3 + 2, none⟩ = some (.bool e.ext) ∧ e.name.length ≤ 9223372036854775807 ∧ e.value.length ≤ 9223372036854775807 := by
        intro i
        by_cases hi : i < len
        · obtain ⟨s, t, x, h1, h2, h3, h4, h5⟩ := hc i hi
          rw [Go.WideShapes.add_plain] at h1 h2 h3
          exact ⟨⟨s.data.toList, t.data.toList, x⟩, fun _ => ⟨h1, by rw [Nat.add_assoc]; exact h2, by rw [Nat.add_assoc]; exact h3, h4, h5⟩⟩
        · exact ⟨⟨[], [], false⟩, fun h => absurd h hi⟩
      exact ⟨fun i => Classical.choose (key i), fun i hi => Classical.choose_spec (key i) hi⟩
    obtain ⟨f, hf⟩ := hex
    have hlen : ((List.range len).map f).length = len := by simp
    have hat : ∀ i, i < len → entI ((List.range len).map f) i = f i := fun i hi => by simp [entI, List.getD, hi]
    have hv : Value.slice (some ⟨b, off, none⟩) len cap = .slice (some ⟨b, off, none⟩) ((List.range len).map f).length cap := by rw [hlen]
    refine ⟨_, cap, (List.range len).map f, hv, Or.inr ⟨b, off, cap, hv, hb, fun i hi => ?_⟩, by omega, by omega, (fun i hi => ?_), (fun e => by cases e)⟩
    · rw [hlen] at hi
      rw [hat i hi]
      exact ⟨(hf i hi).1, (hf i hi).2.1, (hf i hi).2.2.1⟩
    · rw [hlen] at hi
      rw [hat i hi]
      exact ⟨(hf i hi).2.2.2.1, (hf i hi).2.2.2.2⟩
theorem cells_entE : Try.prog.cellsOf 25 = 3 := by kernel_rfl
theorem cells_strE : Try.prog.cellsOf 9 = 1 := by kernel_rfl
theorem cells_boolE : Try.prog.cellsOf 4 = 1 := by kernel_rfl
section
variable {H : Type} {enc : TypeId × Value → H} {w : World} {base : Nat} {spare : Nat → Bool} {held : Bool}
/-- how such an argument reads -/
theorem open_entities {fuel : Nat} {a : Option Addr} {len cap : Nat} {x : DataW H × List MemPlace} (h : DataW.trod enc Try.prog w base spare held fuel 23 [.slice a len cap] = some x) : EntArg w (.slice a len cap) := by
  rcases Go.Deep.open_slice Try.underlying23 h with ⟨h0, _⟩ | ⟨b, len', cap', m, n, D, Pl, hcs, _, hl, hm, hmm, _, hi⟩
  · simp only [List.cons.injEq, Value.slice.injEq, and_true] at h0
    obtain ⟨rfl, rfl, rfl⟩ := h0
    exact entArg_nil w 0 none (fun _ => rfl)
  · simp only [List.cons.injEq, Value.slice.injEq, and_true] at hcs
    obtain ⟨rfl, rfl, rfl⟩ := hcs
    unfold maxLen at hm
    have hlm : len ≤ m := by rw [hmm]; split <;> omega
    refine entArg_of (fun i hil => ?_) hl (by omega)
    obtain ⟨cs', hc, ht⟩ := hi i (by omega)
    rw [cells_entE] at hc
    obtain ⟨ys, n', _, _, hlen, hyl, hf⟩ := DataW.trod_struct Try.underlying25 ht
    rw [cells_entE] at hlen
    obtain ⟨_, _, hat⟩ := World.cells?_some hc
    have hyl3 : ys.length = 3 := hyl
    obtain ⟨y0, e0⟩ : ∃ y, ys[0]? = some y := ⟨_, List.getElem?_eq_getElem (by omega)⟩
    obtain ⟨y1, e1⟩ : ∃ y, ys[1]? = some y := ⟨_, List.getElem?_eq_getElem (by omega)⟩
    obtain ⟨y2, e2⟩ : ∃ y, ys[2]? = some y := ⟨_, List.getElem?_eq_getElem (by omega)⟩
    match cs', hlen with
    | [c0, c1, c2], _ =>
      have f0 : DataW.trod enc Try.prog w base spare held n' 9 (([c0, c1, c2].drop 0).take (Try.prog.cellsOf 9)) = ys[0]? := hf 0 _ rfl
      have f1 : DataW.trod enc Try.prog w base spare held n' 9 (([c0, c1, c2].drop 1).take (Try.prog.cellsOf 9)) = ys[1]? := hf 1 _ rfl
      have f2 : DataW.trod enc Try.prog w base spare held n' 4 (([c0, c1, c2].drop 2).take (Try.prog.cellsOf 4)) = ys[2]? := hf 2 _ rfl
      rw [cells_strE, e0] at f0
      rw [cells_strE, e1] at f1
      rw [cells_boolE, e2] at f2
      have a0 := hat 0 (by decide)
      have a1 := hat 1 (by decide)
      have a2 := hat 2 (by decide)
      rw [Go.Deep.add_add] at a0 a1 a2
      obtain ⟨s, g0, _, g1⟩ := DataW.trod_string Try.underlying9 f0
      obtain ⟨t, k0, _, k1⟩ := DataW.trod_string Try.underlying9 f1
      obtain ⟨b2, m0, _⟩ := DataW.trod_bool Try.underlying4 f2
      simp only [List.drop_zero, List.drop_succ_cons, List.take_succ_cons, List.take_zero, List.cons.injEq, and_true] at g0 k0 m0
      subst g0; subst k0; subst m0
      unfold maxLen at g1 k1
      exact ⟨s, t, b2, a0, a1, a2, g1, k1⟩
end
end Go.Proofs.Ytdgcpeipoiljiaa
