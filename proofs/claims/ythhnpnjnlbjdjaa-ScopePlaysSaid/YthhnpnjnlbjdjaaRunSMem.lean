/-
  THE LANDED PACKAGE scope: what lies in memory.
-/
import Derived.Test.YthhnpnjnlbjdjaaRunSBase
import Derived.Test.YthhnpnjnlbjdjaaScSaid
import Derived.Maps.RangeWalk
import Derived.Maps.Own
import Derived.Maps.OwnSet
import Derived.Maps.Views
import Derived.Sort.KeysCollected
import Derived.Deep.OwnRows
import Derived.Deep.RegionLaw
import Derived.Deep.AppendLies
namespace Go.Proofs.Ythhnpnjnlbjdjaa
open Go.RowKit

/-- a bond with its block -/
abbrev Bb := Nat × Bd
def findB : List Bb → Nm → Option Bb
  | [], _ => none
  | x :: r, p => if x.2.1 = p then some x else findB r p
/-- the nearest bond of a name: its block, level, URI -/
def headB (b0 : Nat) : List (List Bb) → Nm → Option (Nat × Nat × Nm)
  | [], p => if p = xmlN then some (b0, 0, xmlU) else none
  | lv :: r, p => match findB lv p with
    | some x => some (x.1, r.length + 1, x.2.2)
    | none => headB b0 r p
def hdB (b0 : Nat) (T : List (List Bb)) (p : Nm) : Option Nat := (headB b0 T p).map (·.1)
def era (T : List (List Bb)) : List (List Bd) := T.map (·.map (·.2))
theorem findB_inLv (p : Nm) : ∀ lv : List Bb, (findB lv p).map (·.2.2) = inLv (lv.map (·.2)) p
  | [] => rfl
  | x :: r => by
    unfold findB
    rw [List.map_cons]
    unfold inLv
    split
    · rfl
    · exact findB_inLv p r
theorem findB_key {p : Nm} {x : Bb} : ∀ {lv : List Bb}, findB lv p = some x → x.2.1 = p ∧ x ∈ lv
  | y :: r, h => by
    unfold findB at h
    split at h
    · rename_i e
      injection h with h
      subst h
      exact ⟨e, by simp⟩
    · obtain ⟨h1, h2⟩ := findB_key h
      exact ⟨h1, List.mem_cons_of_mem _ h2⟩
theorem headB_look (b0 : Nat) (p : Nm) : ∀ T : List (List Bb), (headB b0 T p).map (·.2.2) = lookS (era T) p
  | [] => by
    unfold headB era
    show _ = lookS [] p
    unfold lookS
    split <;> rfl
  | lv :: r => by
    unfold headB
    show _ = lookS (lv.map (·.2) :: era r) p
    unfold lookS
    rw [← findB_inLv p lv]
    cases h : findB lv p with
    | none => exact headB_look b0 p r
    | some x => rfl
/-- a pointer to a bond, or nil -/
def ptrV (o : Option Nat) : Value := .pointer (o.map fun b => ⟨b, 0, none⟩)
def rowB (b : Bd) (lev : Nat) (nxt : Option Nat) : Nat → Value := fun i => if i = 0 then bondV b else if i = 1 then .int .i64 lev else ptrV nxt
/-- A BOND LIES IN ITS BLOCK. -/
structure BindAt (F : Nat → Prop) (w : World) (x : Bb) (lev : Nat) (nxt : Option Nat) : Prop where
  inF : F x.1
  row : w.rowIs x.1 68 3 (rowB x.2 lev nxt)
def BsAt (F : Nat → Prop) (w : World) (b0 : Nat) : List (List Bb) → Prop
  | [] => BindAt F w (b0, (xmlN, xmlU)) 0 none
  | lv :: r => (∀ x ∈ lv, BindAt F w x (r.length + 1) (hdB b0 r x.2.1)) ∧ BsAt F w b0 r
/-- how the map's elements are read: as the numbers of their blocks -/
def ptrD (o : Option Nat) : DataW Unit := .lit (.int .i64 (match o with | none => -1 | some b => b))
def ptrE : Value → Option (DataW Unit × List MemPlace)
  | .pointer none => some (ptrD none, [])
  | .pointer (some ⟨b, 0, none⟩) => some (ptrD (some b), [])
  | _ => none
theorem ptrE_mk (o : Option Nat) : ptrE (ptrV o) = some (ptrD o, []) := by cases o <;> rfl
theorem ptrD_inj {o o' : Option Nat} (h : ptrD o = ptrD o') : o = o' := by
  unfold ptrD at h
  injection h with h
  injection h with _ h
  cases o <;> cases o' <;> simp at h <;> first | rfl | omega | (exact congrArg some (by omega))
theorem ptrE_inv {v : Value} {z : DataW Unit × List MemPlace} (h : ptrE v = some z) : ∃ o, v = ptrV o ∧ z.1 = ptrD o := by
  unfold ptrE at h
  split at h
  · cases h; exact ⟨none, rfl, rfl⟩
  · cases h; exact ⟨some _, rfl, rfl⟩
  · cases h
/-- THE MAP IN BLOCK mb LEADS EACH NAME TO hd. -/
def MapH (w : World) (mb : Nat) (hd : Nm → Option Nat) : Prop :=
  ∃ D, w.ownsMap Try.prog 9 ptrE mb (Maps.size D) D ∧ ∀ p, D.atKey (.string p) (ptrD none) = ptrD (hd p) ∧ Maps.has D (.string p) = (hd p).isSome
/-- THE LEVELS' OWN LISTS: VN, the nearest first. -/
def InAt (F : Nat → Prop) (w : World) : List (List Bb) → List Value → Prop
  | [], [] => True
  | lv :: r, v :: vr => w.ownsRow 0 65 1 v lv.length (lv.map fun x => ptrV (some x.1)) ∧ (∀ g, v.ownBlock = some g → F g ∧ ∀ v' ∈ vr, v'.ownBlock ≠ some g) ∧ InAt F w r vr
  | _, _ => False
/-- A SCOPE OF THE LEVELS T, in the block sb. -/
structure ScAt (F : Nat → Prop) (w : World) (sb : Nat) (T : List (List Bb)) (VN : List Value) (vl vm : Value) : Prop where
  inF : ∀ k, F k → k < w.heap.size
  fsb : F sb
  box : w.rowIs sb 54 2 (fun i => if i = 0 then vl else vm)
  lev : w.ownsRow 0 74 1 vl T.length VN.reverse
  flev : ∀ g, vl.ownBlock = some g → F g
  inn : InAt F w T VN
/-- .. whose map is made. -/
structure Full (F : Nat → Prop) (w : World) (sb : Nat) (T : List (List Bb)) (VN : List Value) (vl : Value) (mb b0 : Nat) : Prop where
  sc : ScAt F w sb T VN vl (.map (some mb))
  fmb : F mb
  map : MapH w mb (hdB b0 T)
  bs : BsAt F w b0 T
def IsSc (F : Nat → Prop) (w : World) (v : Value) (S : List (List Bd)) : Prop :=
  ∃ sb T VN vl, v = .pointer (some ⟨sb, 0, none⟩) ∧ era T = S ∧ ((ScAt F w sb T VN vl (.map none) ∧ ∀ lv ∈ T, lv = []) ∨ ∃ mb b0, Full F w sb T VN vl mb b0)

/-! ### what stays -/
theorem ownsRow_block {w w' : World} {base : Nat} {e : TypeId} {size n : Nat} {v : Value} {xs : List Value} (h : w.ownsRow base e size v n xs) (hk : ∀ g, v.ownBlock = some g → w'.heap[g]? = w.heap[g]?) : w'.ownsRow base e size v n xs := by
  refine ⟨h.1, ?_⟩
  rcases h.2 with hn | ⟨g, cap, cur, rfl, hb, hgg, rest⟩
  · exact .inl hn
  · exact .inr ⟨g, cap, cur, rfl, hb, (hk g rfl).trans hgg, rest⟩
theorem BindAt.keep {F F' : Nat → Prop} {w w' : World} {x : Bb} {lev : Nat} {nxt : Option Nat} (h : BindAt F w x lev nxt) (hk : w'.heap[x.1]? = w.heap[x.1]?) (hf : F' x.1) : BindAt F' w' x lev nxt := ⟨hf, h.row.of_block hk⟩
theorem BsAt.keep {F F' : Nat → Prop} {w w' : World} {b0 : Nat} (hk : ∀ k, F k → (∃ f, w.rowIs k 68 3 f) → w'.heap[k]? = w.heap[k]?) (hf : ∀ k, F k → F' k) : ∀ {T : List (List Bb)}, BsAt F w b0 T → BsAt F' w' b0 T
  | [], h => BindAt.keep h (hk _ h.inF ⟨_, h.row⟩) (hf _ h.inF)
  | _ :: _, h => ⟨fun x hx => (h.1 x hx).keep (hk _ (h.1 x hx).inF ⟨_, (h.1 x hx).row⟩) (hf _ (h.1 x hx).inF), BsAt.keep hk hf h.2⟩
theorem InAt.keep {F F' : Nat → Prop} {w w' : World} : ∀ {T : List (List Bb)} {VN : List Value}, (∀ v ∈ VN, ∀ g, v.ownBlock = some g → w'.heap[g]? = w.heap[g]?) → (∀ k, F k → F' k) → InAt F w T VN → InAt F' w' T VN
  | [], [], _, _, _ => trivial
  | [], _ :: _, _, _, h => h.elim
  | _ :: _, [], _, _, h => h.elim
  | _ :: _, v :: _, hk, hf, h => ⟨ownsRow_block h.1 fun g hg => hk v (by simp) g hg, fun g hg => ⟨hf g (h.2.1 g hg).1, (h.2.1 g hg).2⟩, InAt.keep (fun v' hv' => hk v' (by simp [hv'])) hf h.2.2⟩
theorem InAt.len {F : Nat → Prop} {w : World} : ∀ {T : List (List Bb)} {VN : List Value}, InAt F w T VN → VN.length = T.length
  | [], [], _ => rfl
  | [], _ :: _, h => h.elim
  | _ :: _, [], h => h.elim
  | _ :: _, _ :: _, h => by rw [List.length_cons, List.length_cons, InAt.len h.2.2]
theorem InAt.mem {F : Nat → Prop} {w : World} : ∀ {T : List (List Bb)} {VN : List Value}, InAt F w T VN → ∀ v ∈ VN, ∀ g, v.ownBlock = some g → F g ∧ ∃ lv : List Bb, w.ownsRow 0 65 1 v lv.length (lv.map fun x => ptrV (some x.1))
  | [], [], _ => fun v hv => by simp at hv
  | [], _ :: _, h => h.elim
  | _ :: _, [], h => h.elim
  | lv :: _, _ :: _, h => fun v' hv' g hg => by
    rcases List.mem_cons.1 hv' with e | hv'
    · rw [e] at hg ⊢
      exact ⟨(h.2.1 g hg).1, lv, h.1⟩
    · exact InAt.mem h.2.2 v' hv' g hg
theorem MapH.keep {w w' : World} {mb : Nat} {hd : Nm → Option Nat} (h : MapH w mb hd) (hk : w'.heap[mb]? = w.heap[mb]?) : MapH w' mb hd := by
  obtain ⟨D, ⟨es, clock, hb, r⟩, hp⟩ := h
  exact ⟨D, ⟨es, clock, hk.trans hb, r⟩, hp⟩
theorem ScAt.keep {F : Nat → Prop} {w w' : World} {sb : Nat} {T : List (List Bb)} {VN : List Value} {vl vm : Value} (h : ScAt F w sb T VN vl vm) (hs : w.heap.size ≤ w'.heap.size) (hk : ∀ k, F k → w'.heap[k]? = w.heap[k]?) : ScAt F w' sb T VN vl vm :=
  ⟨fun k hf => Nat.lt_of_lt_of_le (h.inF k hf) hs, h.fsb, h.box.of_block (hk _ h.fsb), ownsRow_block h.lev fun g hg => hk g (h.flev g hg), h.flev, h.inn.keep (fun v hv g hg => hk g (h.inn.mem v hv g hg).1) fun _ h => h⟩
theorem Full.keep {F : Nat → Prop} {w w' : World} {sb : Nat} {T : List (List Bb)} {VN : List Value} {vl : Value} {mb b0 : Nat} (h : Full F w sb T VN vl mb b0) (hs : w.heap.size ≤ w'.heap.size) (hk : ∀ k, F k → w'.heap[k]? = w.heap[k]?) : Full F w' sb T VN vl mb b0 :=
  ⟨h.sc.keep hs hk, h.fmb, h.map.keep (hk _ h.fmb), h.bs.keep (fun k hf _ => hk k hf) fun _ h => h⟩
theorem Full.below {F : Nat → Prop} {w w' : World} {sb : Nat} {T : List (List Bb)} {VN : List Value} {vl : Value} {mb b0 : Nat} (h : Full F w sb T VN vl mb b0) (hb : Below w.heap.size w w') : Full F w' sb T VN vl mb b0 :=
  h.keep hb.size fun k hf => hb.block k (h.sc.inF k hf)
theorem ScAt.below {F : Nat → Prop} {w w' : World} {sb : Nat} {T : List (List Bb)} {VN : List Value} {vl vm : Value} (h : ScAt F w sb T VN vl vm) (hb : Below w.heap.size w w') : ScAt F w' sb T VN vl vm :=
  h.keep hb.size fun k hf => hb.block k (h.inF k hf)
theorem isSc_keep (F : Nat → Prop) (w w' : World) (v : Value) (S : List (List Bd)) (h : IsSc F w v S) (hs : w.heap.size ≤ w'.heap.size) (hk : ∀ k, F k → w'.heap[k]? = w.heap[k]?) : IsSc F w' v S := by
  obtain ⟨sb, T, VN, vl, rfl, he, h⟩ := h
  refine ⟨sb, T, VN, vl, rfl, he, ?_⟩
  rcases h with ⟨h, hn⟩ | ⟨mb, b0, h⟩
  · exact Or.inl ⟨h.keep hs hk, hn⟩
  · exact Or.inr ⟨mb, b0, h.keep hs hk⟩
theorem isSc_in (F : Nat → Prop) (w : World) (v : Value) (S : List (List Bd)) (h : IsSc F w v S) : ∀ k, F k → k < w.heap.size := by
  obtain ⟨sb, T, VN, vl, rfl, he, h⟩ := h
  rcases h with ⟨h, hn⟩ | ⟨mb, b0, h⟩
  · exact h.inF
  · exact h.sc.inF
/-- where a bond lies -/
theorem BsAt.head {F : Nat → Prop} {w : World} {b0 : Nat} {p : Nm} {b k : Nat} {u : Nm} : ∀ {T : List (List Bb)}, BsAt F w b0 T → headB b0 T p = some (b, k, u) → ∃ nxt, BindAt F w (b, (p, u)) k nxt
  | [], h, he => by
    unfold headB at he
    split at he
    · rename_i e
      injection he with he
      injection he with e1 he
      injection he with e2 e3
      subst e1; subst e2; subst e3; subst e
      exact ⟨_, h⟩
    · cases he
  | lv :: r, h, he => by
    unfold headB at he
    split at he
    · rename_i x hx
      injection he with he
      injection he with e1 he
      injection he with e2 e3
      subst e1; subst e2; subst e3
      obtain ⟨e, hm⟩ := findB_key hx
      subst e
      exact ⟨_, h.1 x hm⟩
    · exact BsAt.head h.2 he
/-! ### the map -/
theorem keyed_s : Maps.Keyed Try.prog 9 := Maps.string_keyed Try.underlying9
theorem key_of (p : Nm) (h : p.length ≤ 8388608) : keyOf Try.prog 9 (.string (bytes p)) = some (.string p) :=
  WideMaps.keyOf_string_mk Try.underlying9 (s := bytes p) (by rw [bytesL_len]; unfold maxLen; omega)
theorem own_tight {w : World} {mb n : Nat} {D : DataW Unit} (h : w.ownsMap Try.prog 9 ptrE mb n D) : w.ownsMap Try.prog 9 ptrE mb (Maps.size D) D := by
  obtain ⟨es, clock, hb, F, hs, rfl⟩ := h
  exact ⟨es, clock, hb, F, by rw [Maps.size, length_sorted]; simp, rfl⟩
theorem keys_perm {w : World} {mb b0 n : Nat} {D : DataW Unit} {T : List (List Bb)} (h : w.ownsMap Try.prog 9 ptrE mb n D) (hp : ∀ p, Maps.has D (.string p) = (hdB b0 T p).isSome) : (allN (era T)).Perm (strKeys D) := by
  obtain ⟨es, rfl, hne⟩ := h.tidy keyed_s
  obtain ⟨es', e, hks⟩ := h.keysOf
  injection e with e
  subst e
  refine perm_strKeys hne (fun q hq => ?_) ?_ fun x => ?_
  · obtain ⟨key, hkey⟩ := hks q hq
    obtain ⟨x, _, hx, _⟩ := Maps.keyOf_str Try.underlying9 hkey
    exact ⟨x, hx⟩
  · exact (sorted_allN _).imp fun {a b} hab (e : a = b) => nm_lt_irrefl a (by rw [← e] at hab; exact hab)
  · rw [mem_allN, hp x, ← headB_look b0 x T]
    unfold hdB
    cases headB b0 T x <;> simp
theorem size_names {w : World} {mb b0 n : Nat} {D : DataW Unit} {T : List (List Bb)} (h : w.ownsMap Try.prog 9 ptrE mb n D) (hp : ∀ p, Maps.has D (.string p) = (hdB b0 T p).isSome) : Maps.size D = (allN (era T)).length := by
  rw [(keys_perm h hp).length_eq]
  obtain ⟨es, rfl⟩ := h.isMap
  exact (List.length_map _).symm
theorem insN_len (p : Nm) : ∀ l : List Nm, (insN p l).length ≤ l.length + 1
  | [] => by simp [insN]
  | x :: r => by
    unfold insN
    split
    · simp
    · split
      · simp
      · have := insN_len p r
        simp; omega
theorem insAll_len : ∀ (lv : List Bd) (l : List Nm), (insAll lv l).length ≤ l.length + lv.length
  | [], l => by simp [insAll]
  | b :: r, l => by
    unfold insAll
    have h1 := insAll_len r (insN b.1 l)
    have h2 := insN_len b.1 l
    simp; omega
theorem allN_len : ∀ (S : List (List Bd)), (∀ lv ∈ S, lv.length ≤ 1048576) → (allN S).length ≤ 1 + S.length * 1048576
  | [], _ => by simp [allN]
  | lv :: r, h => by
    unfold allN
    have h1 := insAll_len lv (allN r)
    have h2 := allN_len r fun l hl => h l (List.mem_cons_of_mem _ hl)
    have h3 := h lv (by simp)
    rw [List.length_cons, Nat.add_mul]
    omega
theorem NiceS.names {S : List (List Bd)} (h : NiceS S) : (allN S).length ≤ 1099511627777 := by
  have h1 := allN_len S h.small
  have h2 := h.few
  have h3 : S.length * 1048576 ≤ 1048576 * 1048576 := Nat.mul_le_mul_right _ h2
  omega
end Go.Proofs.Ythhnpnjnlbjdjaa
