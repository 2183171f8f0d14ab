/-
  THE CONTRACT OF brackenlaw14.Decls: declarations of numbers.
-/
import Derived.Test.YthhnpnjnlbjdjaaScTold
import Derived.Test.YthhnpnjnlbjdjaaBitNum
import Derived.Deep.AppendLies
import Derived.Deep.RegionLaw
import Derived.Deep.RegionHeld3
namespace Go.Proofs.Ythhnpnjnlbjdjaa
open Go.RowKit

/-- what a region leaves, as a relation of frames: its ways become one -/
theorem region_weaken {P : Program} {c : Code} {Q : Exit → Act → World → Prop} {a : Act} {w : World} (R : Act → Act → World → Prop) (h : c.wp P (fun e a' w' => e = .normal ∧ R a a' w') a w) (hQ : ∀ a' w', R a a' w' → Q .normal a' w') : c.wp P Q a w :=
  Code.wp_mono (fun e a' w' he => by obtain ⟨rfl, hr⟩ := he; exact hQ a' w' hr) h
section
variable {P : Program} {ops : Array Oper} {Q : Exit → Act → World → Prop} {md : Region.Mode} {S : World → Prop}
theorem dget {ops : Array Oper} {i : Nat} {oi : Oper} {rest : List Oper} (h : ops.toList.drop i = oi :: rest) : ops[i]? = some oi := by
  have e : ops.toList[i]? = some oi := by
    have := congrArg (fun l => l[0]?) h
    simpa using this
  rw [← Array.getElem?_toList]
  exact e
theorem dtake_wanted (i : Nat) {oi : Oper} {rest : List Oper} {v : Value} {fuel : Nat} {listed : Array Bool} {a : Act} {w : World} (hi : ops.toList.drop i = oi :: rest)
    (hs : Region.noSelect ops = true) (hf : Region.free md ops listed i = true) (hr : (Region.ready md ops listed).contains i = true)
    (hQ : ∀ c a w, Q (.panic c) (a.put oi.dst v) w → Q (.panic c) a w) (hw : Region.wanted oi (yielded ops a.tmps) = true) (hS : S w) (hy : ∀ w, S w → (execOp a.eval oi).run P w = .ok (.value v) w)
    (h : wpAnyH P md ops Q S fuel (listed.setIfInBounds i true) (a.put oi.dst v) w) : wpAnyH P md ops Q S (fuel + 1) listed a w :=
  wpAnyH_take (dget hi) hs hf hr hQ (Or.inl ⟨hw, hy⟩) hS h
theorem dbranch_one (i : Nat) {oi : Oper} {rest : List Oper} {fuel : Nat} {listed : Array Bool} {a : Act} {w : World} (hi : ops.toList.drop i = oi :: rest)
    (hr : Region.ready md ops listed = [i])
    (h : ∀ K' : Act → World → Prop, Shut (∀ a w, S w → (S w → wpAnyH P md ops Q S fuel (listed.setIfInBounds i true) a w) → K' a w) → if Region.wanted oi (yielded ops a.tmps) = true then Oper.wp P oi a w K' Q else K' (a.put oi.dst undef) w) :
    wpAnyH P md ops Q S (fuel + 1) listed a w :=
  wpAnyH_ready hr (by simp) (AllReadyH.cons (dget hi) h AllReadyH.nil)
theorem dbranch_two (i j : Nat) {oi oj : Oper} {ri rj : List Oper} {fuel : Nat} {listed : Array Bool} {a : Act} {w : World} (hi : ops.toList.drop i = oi :: ri) (hj : ops.toList.drop j = oj :: rj)
    (hr : Region.ready md ops listed = [i, j])
    (h : ∀ K' : Act → World → Prop, Shut (∀ a w, S w → (S w → wpAnyH P md ops Q S fuel (listed.setIfInBounds i true) a w) → K' a w) → if Region.wanted oi (yielded ops a.tmps) = true then Oper.wp P oi a w K' Q else K' (a.put oi.dst undef) w)
    (k : ∀ K' : Act → World → Prop, Shut (∀ a w, S w → (S w → wpAnyH P md ops Q S fuel (listed.setIfInBounds j true) a w) → K' a w) → if Region.wanted oj (yielded ops a.tmps) = true then Oper.wp P oj a w K' Q else K' (a.put oj.dst undef) w) :
    wpAnyH P md ops Q S (fuel + 1) listed a w :=
  wpAnyH_ready hr (by simp) (AllReadyH.cons (dget hi) h (AllReadyH.cons (dget hj) k AllReadyH.nil))
theorem dbranch_three (i j l : Nat) {oi oj ol : Oper} {ri rj rl : List Oper} {fuel : Nat} {listed : Array Bool} {a : Act} {w : World} (hi : ops.toList.drop i = oi :: ri) (hj : ops.toList.drop j = oj :: rj) (hl : ops.toList.drop l = ol :: rl)
    (hr : Region.ready md ops listed = [i, j, l])
    (h : ∀ K' : Act → World → Prop, Shut (∀ a w, S w → (S w → wpAnyH P md ops Q S fuel (listed.setIfInBounds i true) a w) → K' a w) → if Region.wanted oi (yielded ops a.tmps) = true then Oper.wp P oi a w K' Q else K' (a.put oi.dst undef) w)
    (k : ∀ K' : Act → World → Prop, Shut (∀ a w, S w → (S w → wpAnyH P md ops Q S fuel (listed.setIfInBounds j true) a w) → K' a w) → if Region.wanted oj (yielded ops a.tmps) = true then Oper.wp P oj a w K' Q else K' (a.put oj.dst undef) w)
    (m : ∀ K' : Act → World → Prop, Shut (∀ a w, S w → (S w → wpAnyH P md ops Q S fuel (listed.setIfInBounds l true) a w) → K' a w) → if Region.wanted ol (yielded ops a.tmps) = true then Oper.wp P ol a w K' Q else K' (a.put ol.dst undef) w) :
    wpAnyH P md ops Q S (fuel + 1) listed a w :=
  wpAnyH_ready hr (by simp) (AllReadyH.cons (dget hi) h (AllReadyH.cons (dget hj) k (AllReadyH.cons (dget hl) m AllReadyH.nil)))
theorem wpAnyH_strong {S' : World → Prop} (hi : ∀ w, S' w → S w) : ∀ (fuel : Nat) (listed : Array Bool) (a : Act) (w : World), wpAnyH P md ops Q S' fuel listed a w → wpAnyH P md ops Q S fuel listed a w
  | 0, _, _, _, h => h
  | fuel + 1, _, _, _, h => ⟨h.1, fun i hh => wpOp_mono (fun a' w' h' => ⟨hi w' h'.1, wpAnyH_strong hi fuel _ a' w' h'.2⟩) (h.2 i hh)⟩
/-- from here on more is held -/
theorem held_switch {S' : World → Prop} {fuel : Nat} {listed : Array Bool} {a : Act} {w : World} (hi : ∀ w, S' w → S w) (hS : S' w) (h : S' w → wpAnyH P md ops Q S' fuel listed a w) : wpAnyH P md ops Q S fuel listed a w :=
  wpAnyH_strong hi _ _ _ _ (h hS)
end
theorem dnew (w : World) (C : Array Value) (t : TypeId) (n x : Nat) (v : Value) (hn : w.heap.size = n) (h : C[x]? = some v) : (w.alloc (.cells C t)).cell? ⟨n, x, none⟩ = some v := by
  subst hn
  exact (cell_of_row _ _ x _ _ (0, 0) (heap_alloc_new w _)).trans h
theorem dsize1 (w : World) (o : Obj) : (w.alloc o).heap.size = w.heap.size + 1 := by show (w.heap.push _).size = _; rw [Array.size_push]
theorem dsize2 (w : World) (o o' : Obj) : ((w.alloc o).alloc o').heap.size = w.heap.size + 1 + 1 := by show ((w.heap.push _).push _).size = _; rw [Array.size_push, Array.size_push]
theorem dcell (w : World) (p : Addr) : w.drew.cell? p = w.cell? p := rfl
theorem dbelow3 (w : World) (o1 o2 o3 : Obj) : Below w.heap.size w (((w.alloc o1).alloc o2).alloc o3).drew :=
  ((((Below.refl w.heap.size w).alloc (Nat.le_refl _) o1).alloc (by rw [dsize1]; omega) o2).alloc (by rw [dsize2]; omega) o3).drew
theorem drow (w : World) (c0 c1 c2 c3 : Value) (n : Nat) (hn : w.heap.size = n) : (w.alloc (.cells #[c0, c1, c2, c3] 35)).rowIs n 35 4 (fun i => if i = 0 then c0 else if i = 1 then c1 else if i = 2 then c2 else c3) := by
  subst hn
  refine World.rowIs_alloc w #[c0, c1, c2, c3] 35 _ ?_
  intro i hi
  rcases (show i = 0 ∨ i = 1 ∨ i = 2 ∨ i = 3 by have : i < 4 := hi; omega) with rfl | rfl | rfl | rfl <;> rfl
theorem dkeep1 {w : World} {o : Obj} {p : Addr} {v : Value} (h : w.cell? p = some v) : (w.alloc o).cell? p = some v := (((Below.refl w.heap.size w).alloc (Nat.le_refl _) o).cell (World.block_lt_of_cell? _ _ h)).trans h
theorem dkeep2 {w : World} {o : Obj} {p q : Addr} {v u : Value} (h : w.cell? p = some v ∧ w.cell? q = some u) : (w.alloc o).cell? p = some v ∧ (w.alloc o).cell? q = some u := ⟨dkeep1 h.1, dkeep1 h.2⟩
def locN : List Nm := [[112], [113], [97], xmlN, xmlnsN, [98], [112], [113], [114]]
def uriN : List Nm := [[117], [118], [119], [], xmlU, xmlnsU, [117], [118], [117], [118], [119]]
/-- the attribute of a number -/
def declU (u : Nat) : At4 :=
  ⟨if u / 99 % 5 = 0 then [] else xmlnsN, if u / 99 % 5 = 0 then xmlnsN else locN.getD (u % 9) [], if u / 99 % 11 = 1 then [] else xmlnsU, uriN.getD (u / 9 % 11) []⟩
def declZ (z : Int) : At4 := declU (IntKind.u64.wrap z).toNat
def declsZ (zs : List Int) (most : Nat) : List At4 := (zs.take most).map declZ
theorem decl_nums (z : Int) : ∃ u x q y r s t : Nat, IntKind.u64.wrap z = (u : Int) ∧ Int.tmod (u : Int) 9 = (x : Int) ∧ x < 9 ∧ Int.tdiv (u : Int) 9 = (q : Int) ∧ Int.tmod (q : Int) 11 = (y : Int) ∧ y < 11 ∧ Int.tdiv (u : Int) 99 = (r : Int) ∧ Int.tmod (r : Int) 5 = (s : Int) ∧ Int.tmod (r : Int) 11 = (t : Int) ∧
    IntKind.u64.wrap (q : Int) = (q : Int) ∧ IntKind.u64.wrap (r : Int) = (r : Int) ∧ IntKind.u64.wrap (x : Int) = (x : Int) ∧ IntKind.u64.wrap (y : Int) = (y : Int) ∧ IntKind.u64.wrap (s : Int) = (s : Int) ∧ IntKind.u64.wrap (t : Int) = (t : Int) ∧
    declZ z = ⟨if s = 0 then [] else xmlnsN, if s = 0 then xmlnsN else locN.getD x [], if t = 1 then [] else xmlnsU, uriN.getD y []⟩ := by
  have hw : ∀ n : Nat, n < 18446744073709551616 → IntKind.u64.wrap (n : Int) = (n : Int) := fun n hn => by simp [IntKind.wrap, IntKind.bits, IntKind.signed]; omega
  have h0 : 0 ≤ IntKind.u64.wrap z ∧ IntKind.u64.wrap z < 18446744073709551616 := by simp [IntKind.wrap, IntKind.bits, IntKind.signed]; omega
  have ht : ∀ (a b : Nat), Int.tmod (a : Int) (b : Int) = ((a % b : Nat) : Int) := fun a b => rfl
  have hd : ∀ (a b : Nat), Int.tdiv (a : Int) (b : Int) = ((a / b : Nat) : Int) := fun a b => rfl
  obtain ⟨u, hu⟩ : ∃ u : Nat, IntKind.u64.wrap z = (u : Int) := ⟨(IntKind.u64.wrap z).toNat, by omega⟩
  have hul : u < 18446744073709551616 := by omega
  refine ⟨u, u % 9, u / 9, u / 9 % 11, u / 99, u / 99 % 5, u / 99 % 11, hu, ht u 9, by omega, hd u 9, ht _ 11, by omega, hd u 99, ht _ 5, ht _ 11, hw _ (by omega), hw _ (by omega), hw _ (by omega), hw _ (by omega), hw _ (by omega), hw _ (by omega), ?_⟩
  unfold declZ declU
  rw [hu]
  rfl
/-- a list of ints, nil too -/
def IntsV (w : World) (v : Value) (zs : List Int) : Prop :=
  zs.length ≤ 9223372036854775807 ∧ ((∃ a cap, v = .slice a 0 cap ∧ zs = []) ∨ ∃ b off cap, v = .slice (some ⟨b, off, none⟩) zs.length cap ∧ b < w.heap.size ∧ ∀ i, i < zs.length → w.cell? ⟨b, off + i, none⟩ = some (.int .i64 (zs.getD i 0)))
theorem loc_of (x : Nat) (hx : x < 9) : ([Value.string ⟨#[112]⟩, .string ⟨#[113]⟩, .string ⟨#[97]⟩, .string ⟨#[120, 109, 108]⟩, .string ⟨#[120, 109, 108, 110, 115]⟩, .string ⟨#[98]⟩, .string ⟨#[112]⟩, .string ⟨#[113]⟩, .string ⟨#[114]⟩][x]'hx) = .string (bytes (locN.getD x [])) := by
  rcases (show x = 0 ∨ x = 1 ∨ x = 2 ∨ x = 3 ∨ x = 4 ∨ x = 5 ∨ x = 6 ∨ x = 7 ∨ x = 8 by omega) with rfl | rfl | rfl | rfl | rfl | rfl | rfl | rfl | rfl <;> rfl
theorem uri_of (x : Nat) (hx : x < 11) : ([Value.string ⟨#[117]⟩, .string ⟨#[118]⟩, .string ⟨#[119]⟩, .string ⟨#[]⟩, .string ⟨#[104, 116, 116, 112, 58, 47, 47, 119, 119, 119, 46, 119, 51, 46, 111, 114, 103, 47, 88, 77, 76, 47, 49, 57, 57, 56, 47, 110, 97, 109, 101, 115, 112, 97, 99, 101]⟩, .string ⟨#[104, 116, 116, 112, 58, 47, 47, 119, 119, 119, 46, 119, 51, 46, 111, 114, 103, 47, 50, 48, 48, 48, 47, 120, 109, 108, 110, 115, 47]⟩, .string ⟨#[117]⟩, .string ⟨#[118]⟩, .string ⟨#[117]⟩, .string ⟨#[118]⟩, .string ⟨#[119]⟩][x]'hx) = .string (bytes (uriN.getD x [])) := by
  rcases (show x = 0 ∨ x = 1 ∨ x = 2 ∨ x = 3 ∨ x = 4 ∨ x = 5 ∨ x = 6 ∨ x = 7 ∨ x = 8 ∨ x = 9 ∨ x = 10 by omega) with rfl | rfl | rfl | rfl | rfl | rfl | rfl | rfl | rfl | rfl | rfl <;> rfl
theorem loc_at (x : Nat) (hx : x < 9) : (#[Value.string ⟨#[112]⟩, .string ⟨#[113]⟩, .string ⟨#[97]⟩, .string ⟨#[120, 109, 108]⟩, .string ⟨#[120, 109, 108, 110, 115]⟩, .string ⟨#[98]⟩, .string ⟨#[112]⟩, .string ⟨#[113]⟩, .string ⟨#[114]⟩] : Array Value)[x]? = some (.string (bytes (locN.getD x []))) := by
  rcases (show x = 0 ∨ x = 1 ∨ x = 2 ∨ x = 3 ∨ x = 4 ∨ x = 5 ∨ x = 6 ∨ x = 7 ∨ x = 8 by omega) with rfl | rfl | rfl | rfl | rfl | rfl | rfl | rfl | rfl <;> rfl
theorem uri_at (x : Nat) (hx : x < 11) : (#[Value.string ⟨#[117]⟩, .string ⟨#[118]⟩, .string ⟨#[119]⟩, .string ⟨#[]⟩, .string ⟨#[104, 116, 116, 112, 58, 47, 47, 119, 119, 119, 46, 119, 51, 46, 111, 114, 103, 47, 88, 77, 76, 47, 49, 57, 57, 56, 47, 110, 97, 109, 101, 115, 112, 97, 99, 101]⟩, .string ⟨#[104, 116, 116, 112, 58, 47, 47, 119, 119, 119, 46, 119, 51, 46, 111, 114, 103, 47, 50, 48, 48, 48, 47, 120, 109, 108, 110, 115, 47]⟩, .string ⟨#[117]⟩, .string ⟨#[118]⟩, .string ⟨#[117]⟩, .string ⟨#[118]⟩, .string ⟨#[119]⟩] : Array Value)[x]? = some (.string (bytes (uriN.getD x []))) := by
  rcases (show x = 0 ∨ x = 1 ∨ x = 2 ∨ x = 3 ∨ x = 4 ∨ x = 5 ∨ x = 6 ∨ x = 7 ∨ x = 8 ∨ x = 9 ∨ x = 10 by omega) with rfl | rfl | rfl | rfl | rfl | rfl | rfl | rfl | rfl | rfl | rfl <;> rfl
/-- V is w but for cells of the block B -/
structure UpB (w : World) (B : Nat) (V : World) : Prop where
  below : Below B w V
  other : ∀ k, k ≠ B → V.heap[k]? = w.heap[k]?
theorem UpB.refl (w : World) (B : Nat) : UpB w B w := ⟨Below.refl _ _, fun _ _ => rfl⟩
theorem UpB.set {w V : World} {B : Nat} (h : UpB w B V) (o : Nat) (v : Value) : UpB w B (V.setCell ⟨B, o, none⟩ v) :=
  ⟨h.below.setCell (Nat.le_refl _) _, fun k hk => (Below.heap_setCell _ _ _ _ hk).trans (h.other k hk)⟩
theorem ownsRow_block14 {w w' : World} {base : Nat} {e : TypeId} {size n : Nat} {v : Value} {xs : List Value} (h : w.ownsRow base e size v n xs) (hk : ∀ g, v.ownBlock = some g → w'.heap[g]? = w.heap[g]?) : w'.ownsRow base e size v n xs := by
  refine ⟨h.1, ?_⟩
  rcases h.2 with hn | ⟨g, cap, cur, rfl, hb, hgg, rest⟩
  · exact .inl hn
  · exact .inr ⟨g, cap, cur, rfl, hb, (hk g rfl).trans hgg, rest⟩
theorem declsZ_snoc (zs : List Int) (i : Nat) (z : Int) (h : i < zs.length) (hz : zs.getD i 0 = z) : declsZ zs (i + 1) = declsZ zs i ++ [declZ z] := by
  unfold declsZ
  rw [List.take_succ_eq_append_getElem h, List.map_append]
  have e : zs[i] = z := by rw [← hz, List.getD_eq_getElem?_getD, List.getElem?_eq_getElem h]; rfl
  rw [e]
  rfl
theorem declsZ_len (zs : List Int) (i : Nat) (h : i ≤ zs.length) : (declsZ zs i).length = i := by
  unfold declsZ
  rw [List.length_map, List.length_take]
  omega
/-- what the attribute's making leaves: its box B, the values of its temporaries -/
def DeclR (wr : World) (LX UY : Nm) (a a' : Act) (w' : World) : Prop :=
  ∃ B : Nat, a' = (((((((((((((a.put (some 25) (a'.tmps.getD 25 undef)).put (some 26) (a'.tmps.getD 26 undef)).put (some 27) (a'.tmps.getD 27 undef)).put (some 28) (a'.tmps.getD 28 undef)).put (some 29) (a'.tmps.getD 29 undef)).put (some 30) (a'.tmps.getD 30 undef)).put (some 31) (a'.tmps.getD 31 undef)).put (some 32) (a'.tmps.getD 32 undef)).put (some 33) (a'.tmps.getD 33 undef)).put (some 34) (a'.tmps.getD 34 undef)).put (some 35) (a'.tmps.getD 35 undef)).put (some 36) (a'.tmps.getD 36 undef)).put (some 8) (a'.tmps.getD 8 undef)) ∧ a'.tmps.getD 8 undef = .pointer (some ⟨B, 0, none⟩) ∧ Below wr.heap.size wr w' ∧ wr.heap.size ≤ B ∧ w'.rowIs B 35 4 (fun i => if i = 0 then .string (bytes xmlnsN) else if i = 1 then .string (bytes LX) else if i = 2 then .string (bytes xmlnsU) else .string (bytes UY))
set_option maxHeartbeats 4000000 in
set_option maxRecDepth 100000 in
theorem rdecls_any (v : Value) (zs : List Int) (most : Nat) (hm : most ≤ 8) (W : World) (hz : IntsV W v zs) :
    Calls Try.prog 10 #[v, .int .i64 most] W fun e w' => ∃ sl, e = .returned sl ∧ Below W.heap.size W w' ∧ AtsAt (fun k => W.heap.size ≤ k) w' sl (declsZ zs most) := by
  obtain ⟨va, vc, rfl⟩ : ∃ a c, v = .slice a zs.length c := by
    rcases hz.2 with ⟨a, c, rfl, rfl⟩ | ⟨b, off, c, rfl, _⟩
    · exact ⟨a, c, rfl⟩
    · exact ⟨_, c, rfl⟩
  have hzl := hz.1
  have HZ := Lib.hid hz
  clear hz
  obtain ⟨ia, hi1, hz0, hz1, hz2⟩ := info_open14 info_at
  go_enter Try.func10, Try.ntmps10
  go_wp2
  go_loopw [5, 6] (fun lv iv wr => ∃ i : Nat, i ≤ zs.length ∧ i ≤ most ∧ iv = .int .i64 i ∧ Below W.heap.size W wr ∧ Hid (wr.ownsRow W.heap.size 35 4 lv i (flatA (declsZ zs i)))) (fun _ iv _ => most - (intOf iv).toNat)
  case atStart => exact ⟨0, Nat.zero_le _, Nat.zero_le _, rfl, Below.refl _ _, Lib.hid (World.ownsRow_nil _ _ _ _)⟩
  case round =>
    obtain ⟨i, hi, him, rfl, hbe, HO⟩ := hrel
    have HBE := Lib.hid hbe
    clear hbe
    obtain ⟨al, cl, rfl⟩ := own_slice14 HO.out
    by_cases hlt : i < zs.length ∧ i < most
    · obtain ⟨hlt1, hlt2⟩ := hlt
      obtain ⟨zb, zo, rfl, hbl, hcell⟩ : ∃ b off, va = some ⟨b, off, none⟩ ∧ b < W.heap.size ∧ W.cell? ⟨b, off + i, none⟩ = some (.int .i64 (zs.getD i 0)) := by
        rcases HZ.out.2 with ⟨_, _, _, h0⟩ | ⟨b, off, c, e, hb, hc⟩
        · rw [h0] at hlt1; simp at hlt1
        · injection e with e1 _ _
          exact ⟨b, off, e1, hb, hc i hlt1⟩
      have hc1 : wr.cell? ⟨zb, zo + i, none⟩ = some (.int .i64 (zs.getD i 0)) := (HBE.out.cell (p := ⟨zb, zo + i, none⟩) hbl).trans hcell
      obtain ⟨z, hzi⟩ : ∃ z, zs.getD i 0 = z := ⟨_, rfl⟩
      rw [hzi] at hc1
      obtain ⟨u, x, q, y, r, s, t, e1, e2, e3, e4, e5, e6, e7, e8, e9, e10, e11, e12, e13, e14, e15, hdz⟩ := decl_nums z
      have HDZ := Lib.hid hdz
      have HZI := Lib.hid hzi
      obtain ⟨LX, hLX⟩ : ∃ L, locN.getD x [] = L := ⟨_, rfl⟩
      obtain ⟨UY, hUY⟩ : ∃ L, uriN.getD y [] = L := ⟨_, rfl⟩
      have hlo := loc_of x e3
      have hur := uri_of y e6
      have hloc := loc_at x e3
      have huri := uri_at y e6
      rw [hLX] at hlo hloc
      rw [hUY] at hur huri
      have HLX := Lib.hid hLX
      have HUY := Lib.hid hUY
      clear hdz hzi hcell hLX hUY
      have j1 : (0 : Int) ≤ (i : Int) := by omega
      have j2 : (i : Int) < (zs.length : Int) := by omega
      have j3 : (i : Int) < (most : Int) := by omega
      have j4 : (0 : Int) ≤ (x : Int) := by omega
      have j5 : (x : Int) < 9 := by omega
      have j6 : (0 : Int) ≤ (y : Int) := by omega
      have j7 : (y : Int) < 11 := by omega
      go_wp2_with fail
      refine region_weaken (DeclR wr LX UY) ?_ ?_
      · repeat (rename_i hx; clear hx)
        clear HZ HO HBE HDZ HZI HLX HUY hzl hi1 hz0 hz1 hz2 hm hc1 hbl hi him hlt1 hlt2 j1 j2 j3 e7 e8 e9 e11 e14 e15
        refine wp_region_held_drew (S := fun _ => True) (by kernel_rfl) trivial (fun hHeld => ?_)
        (refine dtake_wanted 1 (v := ?_) rfl (by kernel_rfl) (by kernel_rfl) (by kernel_rfl) (fun _ _ _ h => nomatch h.1) (by rfl) (by first | trivial | assumption) ?_ ?_; rotate_left; focus (intro w hSw; (try dsimp only at hSw); go_simp; try with_reducible rfl))
        try simp only [Act.put, List.setIfInBounds_toArray, List.set_cons_zero, List.set_cons_succ]
        (refine dtake_wanted 2 (v := ?_) rfl (by kernel_rfl) (by kernel_rfl) (by kernel_rfl) (fun _ _ _ h => nomatch h.1) (by rfl) (by first | trivial | assumption) ?_ ?_; rotate_left; focus (intro w hSw; (try dsimp only at hSw); go_simp; try with_reducible rfl))
        try simp only [Act.put, List.setIfInBounds_toArray, List.set_cons_zero, List.set_cons_succ]
        (refine dtake_wanted 6 (v := ?_) rfl (by kernel_rfl) (by kernel_rfl) (by kernel_rfl) (fun _ _ _ h => nomatch h.1) (by rfl) (by first | trivial | assumption) ?_ ?_; rotate_left; focus (intro w hSw; (try dsimp only at hSw); go_simp; try with_reducible rfl))
        try simp only [Act.put, List.setIfInBounds_toArray, List.set_cons_zero, List.set_cons_succ]
        (refine dtake_wanted 7 (v := ?_) rfl (by kernel_rfl) (by kernel_rfl) (by kernel_rfl) (fun _ _ _ h => nomatch h.1) (by rfl) (by first | trivial | assumption) ?_ ?_; rotate_left; focus (intro w hSw; (try dsimp only at hSw); go_simp; try with_reducible rfl))
        try simp only [Act.put, List.setIfInBounds_toArray, List.set_cons_zero, List.set_cons_succ]
        (refine dtake_wanted 8 (v := ?_) rfl (by kernel_rfl) (by kernel_rfl) (by kernel_rfl) (fun _ _ _ h => nomatch h.1) (by rfl) (by first | trivial | assumption) ?_ ?_; rotate_left; focus (intro w hSw; (try dsimp only at hSw); go_simp; try with_reducible rfl))
        try simp only [Act.put, List.setIfInBounds_toArray, List.set_cons_zero, List.set_cons_succ]
        refine dbranch_three 0 5 12 rfl rfl rfl (by kernel_rfl) (fun K hK => ?_) (fun K hK => ?_) (fun K hK => ?_)
        ·
          go_simp
          refine hK.out _ _ (by first | trivial | exact dkeep1 ‹_› | exact dkeep2 ‹_›) (fun hH1 => ?_)
          clear hK K
          try simp only [Act.put, List.setIfInBounds_toArray, List.set_cons_zero, List.set_cons_succ]
          refine held_switch (S' := fun W => W.cell? ⟨wr.heap.size, x, none⟩ = some (.string (bytes LX))) (fun _ _ => trivial) (dnew _ _ _ _ _ _ rfl hloc) (fun hS1 => ?_)
          (refine dtake_wanted 3 (v := ?_) rfl (by kernel_rfl) (by kernel_rfl) (by kernel_rfl) (fun _ _ _ h => nomatch h.1) (by rfl) (by first | trivial | assumption) ?_ ?_; rotate_left; focus (intro w hSw; (try dsimp only at hSw); go_simp; try with_reducible rfl))
          try simp only [Act.put, List.setIfInBounds_toArray, List.set_cons_zero, List.set_cons_succ]
          (refine dtake_wanted 4 (v := ?_) rfl (by kernel_rfl) (by kernel_rfl) (by kernel_rfl) (fun _ _ _ h => nomatch h.1) (by rfl) (by first | trivial | assumption) ?_ ?_; rotate_left; focus (intro w hSw; (try dsimp only at hSw); go_simp; try with_reducible rfl))
          try simp only [Act.put, List.setIfInBounds_toArray, List.set_cons_zero, List.set_cons_succ]
          refine dbranch_two 5 12 rfl rfl (by kernel_rfl) (fun K hK => ?_) (fun K hK => ?_)
          ·
            go_simp
            refine hK.out _ _ (by first | trivial | exact dkeep1 ‹_› | exact dkeep2 ‹_›) (fun hH2 => ?_)
            clear hK K
            try simp only [Act.put, List.setIfInBounds_toArray, List.set_cons_zero, List.set_cons_succ]
            refine held_switch (S' := fun W => W.cell? ⟨wr.heap.size, x, none⟩ = some (.string (bytes LX)) ∧ W.cell? ⟨wr.heap.size + 1, y, none⟩ = some (.string (bytes UY))) (fun _ h => h.1) (⟨hH2, dnew _ _ _ _ _ _ (dsize1 _ _) huri⟩) (fun hS2 => ?_)
            (refine dtake_wanted 9 (v := ?_) rfl (by kernel_rfl) (by kernel_rfl) (by kernel_rfl) (fun _ _ _ h => nomatch h.1) (by rfl) (by first | trivial | assumption) ?_ ?_; rotate_left; focus (intro w hSw; (try dsimp only at hSw); go_simp; try with_reducible rfl))
            try simp only [Act.put, List.setIfInBounds_toArray, List.set_cons_zero, List.set_cons_succ]
            (refine dtake_wanted 10 (v := ?_) rfl (by kernel_rfl) (by kernel_rfl) (by kernel_rfl) (fun _ _ _ h => nomatch h.1) (by rfl) (by first | trivial | assumption) ?_ ?_; rotate_left; focus (intro w hSw; (try dsimp only at hSw); go_simp; try with_reducible rfl))
            try simp only [Act.put, List.setIfInBounds_toArray, List.set_cons_zero, List.set_cons_succ]
            (refine dtake_wanted 11 (v := ?_) rfl (by kernel_rfl) (by kernel_rfl) (by kernel_rfl) (fun _ _ _ h => nomatch h.1) (by rfl) (by first | trivial | assumption) ?_ ?_; rotate_left; focus (intro w hSw; (try dsimp only at hSw); go_simp; try with_reducible rfl))
            try simp only [Act.put, List.setIfInBounds_toArray, List.set_cons_zero, List.set_cons_succ]
            refine dbranch_one 12 rfl (by kernel_rfl) (fun K hK => ?_)
            go_simp
            refine hK.out _ _ (by first | trivial | exact dkeep1 ‹_› | exact dkeep2 ‹_›) (fun hH3 => ?_)
            clear hK K
            try simp only [Act.put, List.setIfInBounds_toArray, List.set_cons_zero, List.set_cons_succ]
            refine dbranch_one 13 rfl (by kernel_rfl) (fun K hK => ?_)
            go_simp
            refine hK.out _ _ ?_ (fun hHeld9 => ?_)
            focus (rw [dcell, dcell]; exact ⟨dkeep1 (dkeep1 (dnew _ _ _ _ _ _ rfl hloc)), dkeep1 (dnew _ _ _ _ _ _ (dsize1 _ _) huri)⟩)
            clear hK K
            try simp only [Act.put, List.setIfInBounds_toArray, List.set_cons_zero, List.set_cons_succ]
            refine wpAnyH_done (by kernel_rfl) ?_ _
            exact ⟨rfl, wr.heap.size + 1 + 1, by kernel_rfl, by kernel_rfl, dbelow3 _ _ _ _, by omega, World.rowIs.drew (drow _ _ _ _ _ _ (dsize2 _ _ _))⟩
          ·
            go_simp
            refine hK.out _ _ (by first | trivial | exact dkeep1 ‹_› | exact dkeep2 ‹_›) (fun hH2 => ?_)
            clear hK K
            try simp only [Act.put, List.setIfInBounds_toArray, List.set_cons_zero, List.set_cons_succ]
            refine dbranch_one 5 rfl (by kernel_rfl) (fun K hK => ?_)
            go_simp
            refine hK.out _ _ (by first | trivial | exact dkeep1 ‹_› | exact dkeep2 ‹_›) (fun hH3 => ?_)
            clear hK K
            try simp only [Act.put, List.setIfInBounds_toArray, List.set_cons_zero, List.set_cons_succ]
            refine held_switch (S' := fun W => W.cell? ⟨wr.heap.size, x, none⟩ = some (.string (bytes LX)) ∧ W.cell? ⟨wr.heap.size + 1 + 1, y, none⟩ = some (.string (bytes UY))) (fun _ h => h.1) (⟨hH3, dnew _ _ _ _ _ _ (dsize2 _ _ _) huri⟩) (fun hS3 => ?_)
            (refine dtake_wanted 9 (v := ?_) rfl (by kernel_rfl) (by kernel_rfl) (by kernel_rfl) (fun _ _ _ h => nomatch h.1) (by rfl) (by first | trivial | assumption) ?_ ?_; rotate_left; focus (intro w hSw; (try dsimp only at hSw); go_simp; try with_reducible rfl))
            try simp only [Act.put, List.setIfInBounds_toArray, List.set_cons_zero, List.set_cons_succ]
            (refine dtake_wanted 10 (v := ?_) rfl (by kernel_rfl) (by kernel_rfl) (by kernel_rfl) (fun _ _ _ h => nomatch h.1) (by rfl) (by first | trivial | assumption) ?_ ?_; rotate_left; focus (intro w hSw; (try dsimp only at hSw); go_simp; try with_reducible rfl))
            try simp only [Act.put, List.setIfInBounds_toArray, List.set_cons_zero, List.set_cons_succ]
            (refine dtake_wanted 11 (v := ?_) rfl (by kernel_rfl) (by kernel_rfl) (by kernel_rfl) (fun _ _ _ h => nomatch h.1) (by rfl) (by first | trivial | assumption) ?_ ?_; rotate_left; focus (intro w hSw; (try dsimp only at hSw); go_simp; try with_reducible rfl))
            try simp only [Act.put, List.setIfInBounds_toArray, List.set_cons_zero, List.set_cons_succ]
            refine dbranch_one 13 rfl (by kernel_rfl) (fun K hK => ?_)
            go_simp
            refine hK.out _ _ ?_ (fun hHeld9 => ?_)
            focus (rw [dcell, dcell]; exact ⟨dkeep1 (dkeep1 (dnew _ _ _ _ _ _ rfl hloc)), dnew _ _ _ _ _ _ (dsize2 _ _ _) huri⟩)
            clear hK K
            try simp only [Act.put, List.setIfInBounds_toArray, List.set_cons_zero, List.set_cons_succ]
            refine wpAnyH_done (by kernel_rfl) ?_ _
            exact ⟨rfl, wr.heap.size + 1, by kernel_rfl, by kernel_rfl, dbelow3 _ _ _ _, by omega, World.rowIs.drew (World.rowIs.alloc (drow _ _ _ _ _ _ (dsize1 _ _)) _)⟩
        ·
          go_simp
          refine hK.out _ _ (by first | trivial | exact dkeep1 ‹_› | exact dkeep2 ‹_›) (fun hH1 => ?_)
          clear hK K
          try simp only [Act.put, List.setIfInBounds_toArray, List.set_cons_zero, List.set_cons_succ]
          refine held_switch (S' := fun W => W.cell? ⟨wr.heap.size, y, none⟩ = some (.string (bytes UY))) (fun _ _ => trivial) (dnew _ _ _ _ _ _ rfl huri) (fun hS1 => ?_)
          (refine dtake_wanted 9 (v := ?_) rfl (by kernel_rfl) (by kernel_rfl) (by kernel_rfl) (fun _ _ _ h => nomatch h.1) (by rfl) (by first | trivial | assumption) ?_ ?_; rotate_left; focus (intro w hSw; (try dsimp only at hSw); go_simp; try with_reducible rfl))
          try simp only [Act.put, List.setIfInBounds_toArray, List.set_cons_zero, List.set_cons_succ]
          (refine dtake_wanted 10 (v := ?_) rfl (by kernel_rfl) (by kernel_rfl) (by kernel_rfl) (fun _ _ _ h => nomatch h.1) (by rfl) (by first | trivial | assumption) ?_ ?_; rotate_left; focus (intro w hSw; (try dsimp only at hSw); go_simp; try with_reducible rfl))
          try simp only [Act.put, List.setIfInBounds_toArray, List.set_cons_zero, List.set_cons_succ]
          refine dbranch_two 0 12 rfl rfl (by kernel_rfl) (fun K hK => ?_) (fun K hK => ?_)
          ·
            go_simp
            refine hK.out _ _ (by first | trivial | exact dkeep1 ‹_› | exact dkeep2 ‹_›) (fun hH2 => ?_)
            clear hK K
            try simp only [Act.put, List.setIfInBounds_toArray, List.set_cons_zero, List.set_cons_succ]
            refine held_switch (S' := fun W => W.cell? ⟨wr.heap.size + 1, x, none⟩ = some (.string (bytes LX)) ∧ W.cell? ⟨wr.heap.size, y, none⟩ = some (.string (bytes UY))) (fun _ h => h.2) (⟨dnew _ _ _ _ _ _ (dsize1 _ _) hloc, hH2⟩) (fun hS2 => ?_)
            (refine dtake_wanted 3 (v := ?_) rfl (by kernel_rfl) (by kernel_rfl) (by kernel_rfl) (fun _ _ _ h => nomatch h.1) (by rfl) (by first | trivial | assumption) ?_ ?_; rotate_left; focus (intro w hSw; (try dsimp only at hSw); go_simp; try with_reducible rfl))
            try simp only [Act.put, List.setIfInBounds_toArray, List.set_cons_zero, List.set_cons_succ]
            (refine dtake_wanted 4 (v := ?_) rfl (by kernel_rfl) (by kernel_rfl) (by kernel_rfl) (fun _ _ _ h => nomatch h.1) (by rfl) (by first | trivial | assumption) ?_ ?_; rotate_left; focus (intro w hSw; (try dsimp only at hSw); go_simp; try with_reducible rfl))
            try simp only [Act.put, List.setIfInBounds_toArray, List.set_cons_zero, List.set_cons_succ]
            (refine dtake_wanted 11 (v := ?_) rfl (by kernel_rfl) (by kernel_rfl) (by kernel_rfl) (fun _ _ _ h => nomatch h.1) (by rfl) (by first | trivial | assumption) ?_ ?_; rotate_left; focus (intro w hSw; (try dsimp only at hSw); go_simp; try with_reducible rfl))
            try simp only [Act.put, List.setIfInBounds_toArray, List.set_cons_zero, List.set_cons_succ]
            refine dbranch_one 12 rfl (by kernel_rfl) (fun K hK => ?_)
            go_simp
            refine hK.out _ _ (by first | trivial | exact dkeep1 ‹_› | exact dkeep2 ‹_›) (fun hH3 => ?_)
            clear hK K
            try simp only [Act.put, List.setIfInBounds_toArray, List.set_cons_zero, List.set_cons_succ]
            refine dbranch_one 13 rfl (by kernel_rfl) (fun K hK => ?_)
            go_simp
            refine hK.out _ _ ?_ (fun hHeld9 => ?_)
            focus (rw [dcell, dcell]; exact ⟨dkeep1 (dnew _ _ _ _ _ _ (dsize1 _ _) hloc), dkeep1 (dkeep1 (dnew _ _ _ _ _ _ rfl huri))⟩)
            clear hK K
            try simp only [Act.put, List.setIfInBounds_toArray, List.set_cons_zero, List.set_cons_succ]
            refine wpAnyH_done (by kernel_rfl) ?_ _
            exact ⟨rfl, wr.heap.size + 1 + 1, by kernel_rfl, by kernel_rfl, dbelow3 _ _ _ _, by omega, World.rowIs.drew (drow _ _ _ _ _ _ (dsize2 _ _ _))⟩
          ·
            go_simp
            refine hK.out _ _ (by first | trivial | exact dkeep1 ‹_› | exact dkeep2 ‹_›) (fun hH2 => ?_)
            clear hK K
            try simp only [Act.put, List.setIfInBounds_toArray, List.set_cons_zero, List.set_cons_succ]
            refine dbranch_one 0 rfl (by kernel_rfl) (fun K hK => ?_)
            go_simp
            refine hK.out _ _ (by first | trivial | exact dkeep1 ‹_› | exact dkeep2 ‹_›) (fun hH3 => ?_)
            clear hK K
            try simp only [Act.put, List.setIfInBounds_toArray, List.set_cons_zero, List.set_cons_succ]
            refine held_switch (S' := fun W => W.cell? ⟨wr.heap.size + 1 + 1, x, none⟩ = some (.string (bytes LX)) ∧ W.cell? ⟨wr.heap.size, y, none⟩ = some (.string (bytes UY))) (fun _ h => h.2) (⟨dnew _ _ _ _ _ _ (dsize2 _ _ _) hloc, hH3⟩) (fun hS3 => ?_)
            (refine dtake_wanted 3 (v := ?_) rfl (by kernel_rfl) (by kernel_rfl) (by kernel_rfl) (fun _ _ _ h => nomatch h.1) (by rfl) (by first | trivial | assumption) ?_ ?_; rotate_left; focus (intro w hSw; (try dsimp only at hSw); go_simp; try with_reducible rfl))
            try simp only [Act.put, List.setIfInBounds_toArray, List.set_cons_zero, List.set_cons_succ]
            (refine dtake_wanted 4 (v := ?_) rfl (by kernel_rfl) (by kernel_rfl) (by kernel_rfl) (fun _ _ _ h => nomatch h.1) (by rfl) (by first | trivial | assumption) ?_ ?_; rotate_left; focus (intro w hSw; (try dsimp only at hSw); go_simp; try with_reducible rfl))
            try simp only [Act.put, List.setIfInBounds_toArray, List.set_cons_zero, List.set_cons_succ]
            (refine dtake_wanted 11 (v := ?_) rfl (by kernel_rfl) (by kernel_rfl) (by kernel_rfl) (fun _ _ _ h => nomatch h.1) (by rfl) (by first | trivial | assumption) ?_ ?_; rotate_left; focus (intro w hSw; (try dsimp only at hSw); go_simp; try with_reducible rfl))
            try simp only [Act.put, List.setIfInBounds_toArray, List.set_cons_zero, List.set_cons_succ]
            refine dbranch_one 13 rfl (by kernel_rfl) (fun K hK => ?_)
            go_simp
            refine hK.out _ _ ?_ (fun hHeld9 => ?_)
            focus (rw [dcell, dcell]; exact ⟨dnew _ _ _ _ _ _ (dsize2 _ _ _) hloc, dkeep1 (dkeep1 (dnew _ _ _ _ _ _ rfl huri))⟩)
            clear hK K
            try simp only [Act.put, List.setIfInBounds_toArray, List.set_cons_zero, List.set_cons_succ]
            refine wpAnyH_done (by kernel_rfl) ?_ _
            exact ⟨rfl, wr.heap.size + 1, by kernel_rfl, by kernel_rfl, dbelow3 _ _ _ _, by omega, World.rowIs.drew (World.rowIs.alloc (drow _ _ _ _ _ _ (dsize1 _ _)) _)⟩
        ·
          go_simp
          refine hK.out _ _ (by first | trivial | exact dkeep1 ‹_› | exact dkeep2 ‹_›) (fun hH1 => ?_)
          clear hK K
          try simp only [Act.put, List.setIfInBounds_toArray, List.set_cons_zero, List.set_cons_succ]
          refine dbranch_two 0 5 rfl rfl (by kernel_rfl) (fun K hK => ?_) (fun K hK => ?_)
          ·
            go_simp
            refine hK.out _ _ (by first | trivial | exact dkeep1 ‹_› | exact dkeep2 ‹_›) (fun hH2 => ?_)
            clear hK K
            try simp only [Act.put, List.setIfInBounds_toArray, List.set_cons_zero, List.set_cons_succ]
            refine held_switch (S' := fun W => W.cell? ⟨wr.heap.size + 1, x, none⟩ = some (.string (bytes LX))) (fun _ _ => trivial) (dnew _ _ _ _ _ _ (dsize1 _ _) hloc) (fun hS2 => ?_)
            (refine dtake_wanted 3 (v := ?_) rfl (by kernel_rfl) (by kernel_rfl) (by kernel_rfl) (fun _ _ _ h => nomatch h.1) (by rfl) (by first | trivial | assumption) ?_ ?_; rotate_left; focus (intro w hSw; (try dsimp only at hSw); go_simp; try with_reducible rfl))
            try simp only [Act.put, List.setIfInBounds_toArray, List.set_cons_zero, List.set_cons_succ]
            (refine dtake_wanted 4 (v := ?_) rfl (by kernel_rfl) (by kernel_rfl) (by kernel_rfl) (fun _ _ _ h => nomatch h.1) (by rfl) (by first | trivial | assumption) ?_ ?_; rotate_left; focus (intro w hSw; (try dsimp only at hSw); go_simp; try with_reducible rfl))
            try simp only [Act.put, List.setIfInBounds_toArray, List.set_cons_zero, List.set_cons_succ]
            refine dbranch_one 5 rfl (by kernel_rfl) (fun K hK => ?_)
            go_simp
            refine hK.out _ _ (by first | trivial | exact dkeep1 ‹_› | exact dkeep2 ‹_›) (fun hH3 => ?_)
            clear hK K
            try simp only [Act.put, List.setIfInBounds_toArray, List.set_cons_zero, List.set_cons_succ]
            refine held_switch (S' := fun W => W.cell? ⟨wr.heap.size + 1, x, none⟩ = some (.string (bytes LX)) ∧ W.cell? ⟨wr.heap.size + 1 + 1, y, none⟩ = some (.string (bytes UY))) (fun _ h => h.1) (⟨hH3, dnew _ _ _ _ _ _ (dsize2 _ _ _) huri⟩) (fun hS3 => ?_)
            (refine dtake_wanted 9 (v := ?_) rfl (by kernel_rfl) (by kernel_rfl) (by kernel_rfl) (fun _ _ _ h => nomatch h.1) (by rfl) (by first | trivial | assumption) ?_ ?_; rotate_left; focus (intro w hSw; (try dsimp only at hSw); go_simp; try with_reducible rfl))
            try simp only [Act.put, List.setIfInBounds_toArray, List.set_cons_zero, List.set_cons_succ]
            (refine dtake_wanted 10 (v := ?_) rfl (by kernel_rfl) (by kernel_rfl) (by kernel_rfl) (fun _ _ _ h => nomatch h.1) (by rfl) (by first | trivial | assumption) ?_ ?_; rotate_left; focus (intro w hSw; (try dsimp only at hSw); go_simp; try with_reducible rfl))
            try simp only [Act.put, List.setIfInBounds_toArray, List.set_cons_zero, List.set_cons_succ]
            (refine dtake_wanted 11 (v := ?_) rfl (by kernel_rfl) (by kernel_rfl) (by kernel_rfl) (fun _ _ _ h => nomatch h.1) (by rfl) (by first | trivial | assumption) ?_ ?_; rotate_left; focus (intro w hSw; (try dsimp only at hSw); go_simp; try with_reducible rfl))
            try simp only [Act.put, List.setIfInBounds_toArray, List.set_cons_zero, List.set_cons_succ]
            refine dbranch_one 13 rfl (by kernel_rfl) (fun K hK => ?_)
            go_simp
            refine hK.out _ _ ?_ (fun hHeld9 => ?_)
            focus (rw [dcell, dcell]; exact ⟨dkeep1 (dnew _ _ _ _ _ _ (dsize1 _ _) hloc), dnew _ _ _ _ _ _ (dsize2 _ _ _) huri⟩)
            clear hK K
            try simp only [Act.put, List.setIfInBounds_toArray, List.set_cons_zero, List.set_cons_succ]
            refine wpAnyH_done (by kernel_rfl) ?_ _
            exact ⟨rfl, wr.heap.size, by kernel_rfl, by kernel_rfl, dbelow3 _ _ _ _, by omega, World.rowIs.drew (World.rowIs.alloc (World.rowIs.alloc (drow _ _ _ _ _ _ rfl) _) _)⟩
          ·
            go_simp
            refine hK.out _ _ (by first | trivial | exact dkeep1 ‹_› | exact dkeep2 ‹_›) (fun hH2 => ?_)
            clear hK K
            try simp only [Act.put, List.setIfInBounds_toArray, List.set_cons_zero, List.set_cons_succ]
            refine held_switch (S' := fun W => W.cell? ⟨wr.heap.size + 1, y, none⟩ = some (.string (bytes UY))) (fun _ _ => trivial) (dnew _ _ _ _ _ _ (dsize1 _ _) huri) (fun hS2 => ?_)
            (refine dtake_wanted 9 (v := ?_) rfl (by kernel_rfl) (by kernel_rfl) (by kernel_rfl) (fun _ _ _ h => nomatch h.1) (by rfl) (by first | trivial | assumption) ?_ ?_; rotate_left; focus (intro w hSw; (try dsimp only at hSw); go_simp; try with_reducible rfl))
            try simp only [Act.put, List.setIfInBounds_toArray, List.set_cons_zero, List.set_cons_succ]
            (refine dtake_wanted 10 (v := ?_) rfl (by kernel_rfl) (by kernel_rfl) (by kernel_rfl) (fun _ _ _ h => nomatch h.1) (by rfl) (by first | trivial | assumption) ?_ ?_; rotate_left; focus (intro w hSw; (try dsimp only at hSw); go_simp; try with_reducible rfl))
            try simp only [Act.put, List.setIfInBounds_toArray, List.set_cons_zero, List.set_cons_succ]
            refine dbranch_one 0 rfl (by kernel_rfl) (fun K hK => ?_)
            go_simp
            refine hK.out _ _ (by first | trivial | exact dkeep1 ‹_› | exact dkeep2 ‹_›) (fun hH3 => ?_)
            clear hK K
            try simp only [Act.put, List.setIfInBounds_toArray, List.set_cons_zero, List.set_cons_succ]
            refine held_switch (S' := fun W => W.cell? ⟨wr.heap.size + 1 + 1, x, none⟩ = some (.string (bytes LX)) ∧ W.cell? ⟨wr.heap.size + 1, y, none⟩ = some (.string (bytes UY))) (fun _ h => h.2) (⟨dnew _ _ _ _ _ _ (dsize2 _ _ _) hloc, hH3⟩) (fun hS3 => ?_)
            (refine dtake_wanted 3 (v := ?_) rfl (by kernel_rfl) (by kernel_rfl) (by kernel_rfl) (fun _ _ _ h => nomatch h.1) (by rfl) (by first | trivial | assumption) ?_ ?_; rotate_left; focus (intro w hSw; (try dsimp only at hSw); go_simp; try with_reducible rfl))
            try simp only [Act.put, List.setIfInBounds_toArray, List.set_cons_zero, List.set_cons_succ]
            (refine dtake_wanted 4 (v := ?_) rfl (by kernel_rfl) (by kernel_rfl) (by kernel_rfl) (fun _ _ _ h => nomatch h.1) (by rfl) (by first | trivial | assumption) ?_ ?_; rotate_left; focus (intro w hSw; (try dsimp only at hSw); go_simp; try with_reducible rfl))
            try simp only [Act.put, List.setIfInBounds_toArray, List.set_cons_zero, List.set_cons_succ]
            (refine dtake_wanted 11 (v := ?_) rfl (by kernel_rfl) (by kernel_rfl) (by kernel_rfl) (fun _ _ _ h => nomatch h.1) (by rfl) (by first | trivial | assumption) ?_ ?_; rotate_left; focus (intro w hSw; (try dsimp only at hSw); go_simp; try with_reducible rfl))
            try simp only [Act.put, List.setIfInBounds_toArray, List.set_cons_zero, List.set_cons_succ]
            refine dbranch_one 13 rfl (by kernel_rfl) (fun K hK => ?_)
            go_simp
            refine hK.out _ _ ?_ (fun hHeld9 => ?_)
            focus (rw [dcell, dcell]; exact ⟨dnew _ _ _ _ _ _ (dsize2 _ _ _) hloc, dkeep1 (dnew _ _ _ _ _ _ (dsize1 _ _) huri)⟩)
            clear hK K
            try simp only [Act.put, List.setIfInBounds_toArray, List.set_cons_zero, List.set_cons_succ]
            refine wpAnyH_done (by kernel_rfl) ?_ _
            exact ⟨rfl, wr.heap.size, by kernel_rfl, by kernel_rfl, dbelow3 _ _ _ _, by omega, World.rowIs.drew (World.rowIs.alloc (World.rowIs.alloc (drow _ _ _ _ _ _ rfl) _) _)⟩
      · -- REST
        rintro a' w' ⟨B, ha, hB, hb, hBl, hrow⟩
        rw [hB] at ha
        generalize a'.tmps.getD 25 undef = t25 at ha
        generalize a'.tmps.getD 26 undef = t26 at ha
        generalize a'.tmps.getD 27 undef = t27 at ha
        generalize a'.tmps.getD 28 undef = t28 at ha
        generalize a'.tmps.getD 29 undef = t29 at ha
        generalize a'.tmps.getD 30 undef = t30 at ha
        generalize a'.tmps.getD 31 undef = t31 at ha
        generalize a'.tmps.getD 32 undef = t32 at ha
        generalize a'.tmps.getD 33 undef = t33 at ha
        generalize a'.tmps.getD 34 undef = t34 at ha
        generalize a'.tmps.getD 35 undef = t35 at ha
        generalize a'.tmps.getD 36 undef = t36 at ha
        clear hB
        subst ha
        have HRW := Lib.hid hrow
        have hWB : W.heap.size ≤ B := Nat.le_trans HBE.out.size hBl
        have HOW : Hid (∀ V, UpB w' B V → V.ownsRow W.heap.size 35 4 (.slice al i cl) i (flatA (declsZ zs i)) ∧ Below W.heap.size W V) := Lib.hid (by
          intro V hV
          refine ⟨ownsRow_block14 HO.out fun g hg => (hV.other g fun e => ?_).trans (hb.block g (HO.out.lt g hg).2), (HBE.out.trans (hb.mono HBE.out.size)).trans (hV.below.mono hWB)⟩
          have h2 := (HO.out.lt g hg).2
          omega)
        have HSN := Lib.hid (declsZ_snoc zs i z hlt1 HZI.out)
        have hU0 := UpB.refl w' B
        have hiw : i ≤ 8 := by omega
        clear hb hBl hrow hc1 e2 e3 e4 e5 e6 e10 e12 e13 hlo hur hloc huri j4 j5 j6 j7
        simp only [Act.put, List.setIfInBounds_toArray, List.set_cons_succ, List.set_cons_zero]
        simp only [Exit.then]
        go_at_K
        by_cases hs0 : s = 0
        · have HS0 := Lib.hid hs0
          have e8' : Int.tmod (r : Int) 5 = 0 := by rw [e8, hs0]; rfl
          clear e8 hs0
          by_cases ht1 : t = 1
          · have HT1 := Lib.hid ht1
            have e9' : Int.tmod (r : Int) 11 = 1 := by rw [e9, ht1]; rfl
            clear e9 ht1
            have z0 := (HRW.out).frozen 0
            have y0 : w'.cell? ⟨B, 0, none⟩ = some (.string ⟨#[120, 109, 108, 110, 115]⟩) := (HRW.out).cell (i := 0) (by decide)
            have z1 := (World.rowIs.set (HRW.out) 0 (.string ⟨#[]⟩)).frozen 1
            have y1 : (w'.setCell ⟨B, 0, none⟩ (.string ⟨#[]⟩)).cell? ⟨B, 1, none⟩ = some (.string (bytes LX)) := (World.rowIs.set (HRW.out) 0 (.string ⟨#[]⟩)).cell (i := 1) (by decide)
            have z2 := (World.rowIs.set (World.rowIs.set (HRW.out) 0 (.string ⟨#[]⟩)) 1 (.string ⟨#[120, 109, 108, 110, 115]⟩)).frozen 2
            have y2 : ((w'.setCell ⟨B, 0, none⟩ (.string ⟨#[]⟩)).setCell ⟨B, 1, none⟩ (.string ⟨#[120, 109, 108, 110, 115]⟩)).cell? ⟨B, 2, none⟩ = some (.string ⟨#[104, 116, 116, 112, 58, 47, 47, 119, 119, 119, 46, 119, 51, 46, 111, 114, 103, 47, 50, 48, 48, 48, 47, 120, 109, 108, 110, 115, 47]⟩) := (World.rowIs.set (World.rowIs.set (HRW.out) 0 (.string ⟨#[]⟩)) 1 (.string ⟨#[120, 109, 108, 110, 115]⟩)).cell (i := 2) (by decide)
            have q0 : (((w'.setCell ⟨B, 0, none⟩ (.string ⟨#[]⟩)).setCell ⟨B, 1, none⟩ (.string ⟨#[120, 109, 108, 110, 115]⟩)).setCell ⟨B, 2, none⟩ (.string ⟨#[]⟩)).cell? ⟨B, 0, none⟩ = some (.string ⟨#[]⟩) := (World.rowIs.set (World.rowIs.set (World.rowIs.set (HRW.out) 0 (.string ⟨#[]⟩)) 1 (.string ⟨#[120, 109, 108, 110, 115]⟩)) 2 (.string ⟨#[]⟩)).cell (i := 0) (by decide)
            have q1 : (((w'.setCell ⟨B, 0, none⟩ (.string ⟨#[]⟩)).setCell ⟨B, 1, none⟩ (.string ⟨#[120, 109, 108, 110, 115]⟩)).setCell ⟨B, 2, none⟩ (.string ⟨#[]⟩)).cell? ⟨B, 1, none⟩ = some (.string ⟨#[120, 109, 108, 110, 115]⟩) := (World.rowIs.set (World.rowIs.set (World.rowIs.set (HRW.out) 0 (.string ⟨#[]⟩)) 1 (.string ⟨#[120, 109, 108, 110, 115]⟩)) 2 (.string ⟨#[]⟩)).cell (i := 1) (by decide)
            have q2 : (((w'.setCell ⟨B, 0, none⟩ (.string ⟨#[]⟩)).setCell ⟨B, 1, none⟩ (.string ⟨#[120, 109, 108, 110, 115]⟩)).setCell ⟨B, 2, none⟩ (.string ⟨#[]⟩)).cell? ⟨B, 2, none⟩ = some (.string ⟨#[]⟩) := (World.rowIs.set (World.rowIs.set (World.rowIs.set (HRW.out) 0 (.string ⟨#[]⟩)) 1 (.string ⟨#[120, 109, 108, 110, 115]⟩)) 2 (.string ⟨#[]⟩)).cell (i := 2) (by decide)
            have q3 : (((w'.setCell ⟨B, 0, none⟩ (.string ⟨#[]⟩)).setCell ⟨B, 1, none⟩ (.string ⟨#[120, 109, 108, 110, 115]⟩)).setCell ⟨B, 2, none⟩ (.string ⟨#[]⟩)).cell? ⟨B, 3, none⟩ = some (.string (bytes UY)) := (World.rowIs.set (World.rowIs.set (World.rowIs.set (HRW.out) 0 (.string ⟨#[]⟩)) 1 (.string ⟨#[120, 109, 108, 110, 115]⟩)) 2 (.string ⟨#[]⟩)).cell (i := 3) (by decide)
            have HV := Lib.hid (HOW.out _ ((((hU0).set 0 (.string ⟨#[]⟩)).set 1 (.string ⟨#[120, 109, 108, 110, 115]⟩)).set 2 (.string ⟨#[]⟩)))
            have own5 := HV.out.1
            have v5 : (((w'.setCell ⟨B, 0, none⟩ (.string ⟨#[]⟩)).setCell ⟨B, 1, none⟩ (.string ⟨#[120, 109, 108, 110, 115]⟩)).setCell ⟨B, 2, none⟩ (.string ⟨#[]⟩)).heap.size = w'.heap.size := (by rw [Deep.nblk_setCell, Deep.nblk_setCell, Deep.nblk_setCell])
            have s5 : ((((w'.setCell ⟨B, 0, none⟩ (.string ⟨#[]⟩)).setCell ⟨B, 1, none⟩ (.string ⟨#[120, 109, 108, 110, 115]⟩)).setCell ⟨B, 2, none⟩ (.string ⟨#[]⟩)).alloc (.cells #[.string ⟨#[]⟩, .string ⟨#[120, 109, 108, 110, 115]⟩, .string ⟨#[]⟩, .string (bytes UY)] 35)).heap.size = w'.heap.size + 1 := (dsize1 _ _).trans (by rw [v5])
            have V5 := Lib.hid v5
            clear v5
            have HW5 : Hid (W.heap.size ≤ w'.heap.size) := Lib.hid (by have h1 := HV.out.2.size; rw [V5.out] at h1; exact h1)
            go_wp2_with (at_builtin; refine wpList_append_lies _ rfl _ _ 26 rfl W.heap.size 35 ia (.agg #[.string ⟨#[]⟩, .string ⟨#[]⟩, .string ⟨#[]⟩, .string ⟨#[]⟩]) 4 64 Try.underlying26 hi1 hz0 hz1 hz2 rfl (by decide) _ _ _ rfl (own5.alloc _) ⟨w'.heap.size, 0, none⟩ 1 1 [.string ⟨#[]⟩, .string ⟨#[120, 109, 108, 110, 115]⟩, .string ⟨#[]⟩, .string (bytes UY)] rfl rfl (cells_four _ _ _ _ _ _ _ V5.out) (by intro u hu; simp at hu; rcases hu with rfl | rfl | rfl | rfl <;> rfl) (by decide) (by unfold maxLen; omega) (by omega) (by rw [s5]; have := HW5.out; omega) (w'.heap.size + 1) s5 ?_; intro g2 cap2 w6 hown6 hgr6 hat6 hlt6)
            have HO6 := Lib.hid hown6
            have HE6 : Hid (Below W.heap.size W w6) := Lib.hid (((Turns.of_below (F := fun k => W.heap.size ≤ k) (HV.out.2.alloc HV.out.2.size (.cells #[.string ⟨#[]⟩, .string ⟨#[120, 109, 108, 110, 115]⟩, .string ⟨#[]⟩, .string (bytes UY)] 35))).grown hgr6 (fun k hk => Or.inl (own5.lt k hk).1)).below (Nat.le_refl _) fun k hk => hk)
            have HX : Hid (declsZ zs (i + 1) = declsZ zs i ++ [⟨[], xmlnsN, [], UY⟩]) := Lib.hid (by rw [HSN.out, HDZ.out, HLX.out, HUY.out]; simp [HS0.out, HT1.out])
            clear own5 s5 V5 HW5 hown6 hgr6 hat6 hlt6 q0 q1 q2 q3 z0 y0 z1 y1 z2 y2
            go_wp2
            go_roundw
            case rel => exact ⟨i + 1, by omega, by omega, by go_num, HE6.out, by rw [HX.out, flatA_snoc]; exact HO6⟩
            case measure => simp [intOf]; omega
          · have HT1 := Lib.hid ht1
            have g9 : ((t : Int) == 1) = false := beq_eq_false_iff_ne.2 (by omega)
            clear ht1
            have z0 := (HRW.out).frozen 0
            have y0 : w'.cell? ⟨B, 0, none⟩ = some (.string ⟨#[120, 109, 108, 110, 115]⟩) := (HRW.out).cell (i := 0) (by decide)
            have z1 := (World.rowIs.set (HRW.out) 0 (.string ⟨#[]⟩)).frozen 1
            have y1 : (w'.setCell ⟨B, 0, none⟩ (.string ⟨#[]⟩)).cell? ⟨B, 1, none⟩ = some (.string (bytes LX)) := (World.rowIs.set (HRW.out) 0 (.string ⟨#[]⟩)).cell (i := 1) (by decide)
            have q0 : ((w'.setCell ⟨B, 0, none⟩ (.string ⟨#[]⟩)).setCell ⟨B, 1, none⟩ (.string ⟨#[120, 109, 108, 110, 115]⟩)).cell? ⟨B, 0, none⟩ = some (.string ⟨#[]⟩) := (World.rowIs.set (World.rowIs.set (HRW.out) 0 (.string ⟨#[]⟩)) 1 (.string ⟨#[120, 109, 108, 110, 115]⟩)).cell (i := 0) (by decide)
            have q1 : ((w'.setCell ⟨B, 0, none⟩ (.string ⟨#[]⟩)).setCell ⟨B, 1, none⟩ (.string ⟨#[120, 109, 108, 110, 115]⟩)).cell? ⟨B, 1, none⟩ = some (.string ⟨#[120, 109, 108, 110, 115]⟩) := (World.rowIs.set (World.rowIs.set (HRW.out) 0 (.string ⟨#[]⟩)) 1 (.string ⟨#[120, 109, 108, 110, 115]⟩)).cell (i := 1) (by decide)
            have q2 : ((w'.setCell ⟨B, 0, none⟩ (.string ⟨#[]⟩)).setCell ⟨B, 1, none⟩ (.string ⟨#[120, 109, 108, 110, 115]⟩)).cell? ⟨B, 2, none⟩ = some (.string ⟨#[104, 116, 116, 112, 58, 47, 47, 119, 119, 119, 46, 119, 51, 46, 111, 114, 103, 47, 50, 48, 48, 48, 47, 120, 109, 108, 110, 115, 47]⟩) := (World.rowIs.set (World.rowIs.set (HRW.out) 0 (.string ⟨#[]⟩)) 1 (.string ⟨#[120, 109, 108, 110, 115]⟩)).cell (i := 2) (by decide)
            have q3 : ((w'.setCell ⟨B, 0, none⟩ (.string ⟨#[]⟩)).setCell ⟨B, 1, none⟩ (.string ⟨#[120, 109, 108, 110, 115]⟩)).cell? ⟨B, 3, none⟩ = some (.string (bytes UY)) := (World.rowIs.set (World.rowIs.set (HRW.out) 0 (.string ⟨#[]⟩)) 1 (.string ⟨#[120, 109, 108, 110, 115]⟩)).cell (i := 3) (by decide)
            have HV := Lib.hid (HOW.out _ (((hU0).set 0 (.string ⟨#[]⟩)).set 1 (.string ⟨#[120, 109, 108, 110, 115]⟩)))
            have own5 := HV.out.1
            have v5 : ((w'.setCell ⟨B, 0, none⟩ (.string ⟨#[]⟩)).setCell ⟨B, 1, none⟩ (.string ⟨#[120, 109, 108, 110, 115]⟩)).heap.size = w'.heap.size := (by rw [Deep.nblk_setCell, Deep.nblk_setCell])
            have s5 : (((w'.setCell ⟨B, 0, none⟩ (.string ⟨#[]⟩)).setCell ⟨B, 1, none⟩ (.string ⟨#[120, 109, 108, 110, 115]⟩)).alloc (.cells #[.string ⟨#[]⟩, .string ⟨#[120, 109, 108, 110, 115]⟩, .string ⟨#[104, 116, 116, 112, 58, 47, 47, 119, 119, 119, 46, 119, 51, 46, 111, 114, 103, 47, 50, 48, 48, 48, 47, 120, 109, 108, 110, 115, 47]⟩, .string (bytes UY)] 35)).heap.size = w'.heap.size + 1 := (dsize1 _ _).trans (by rw [v5])
            have V5 := Lib.hid v5
            clear v5
            have HW5 : Hid (W.heap.size ≤ w'.heap.size) := Lib.hid (by have h1 := HV.out.2.size; rw [V5.out] at h1; exact h1)
            go_wp2_with (at_builtin; refine wpList_append_lies _ rfl _ _ 26 rfl W.heap.size 35 ia (.agg #[.string ⟨#[]⟩, .string ⟨#[]⟩, .string ⟨#[]⟩, .string ⟨#[]⟩]) 4 64 Try.underlying26 hi1 hz0 hz1 hz2 rfl (by decide) _ _ _ rfl (own5.alloc _) ⟨w'.heap.size, 0, none⟩ 1 1 [.string ⟨#[]⟩, .string ⟨#[120, 109, 108, 110, 115]⟩, .string ⟨#[104, 116, 116, 112, 58, 47, 47, 119, 119, 119, 46, 119, 51, 46, 111, 114, 103, 47, 50, 48, 48, 48, 47, 120, 109, 108, 110, 115, 47]⟩, .string (bytes UY)] rfl rfl (cells_four _ _ _ _ _ _ _ V5.out) (by intro u hu; simp at hu; rcases hu with rfl | rfl | rfl | rfl <;> rfl) (by decide) (by unfold maxLen; omega) (by omega) (by rw [s5]; have := HW5.out; omega) (w'.heap.size + 1) s5 ?_; intro g2 cap2 w6 hown6 hgr6 hat6 hlt6)
            have HO6 := Lib.hid hown6
            have HE6 : Hid (Below W.heap.size W w6) := Lib.hid (((Turns.of_below (F := fun k => W.heap.size ≤ k) (HV.out.2.alloc HV.out.2.size (.cells #[.string ⟨#[]⟩, .string ⟨#[120, 109, 108, 110, 115]⟩, .string ⟨#[104, 116, 116, 112, 58, 47, 47, 119, 119, 119, 46, 119, 51, 46, 111, 114, 103, 47, 50, 48, 48, 48, 47, 120, 109, 108, 110, 115, 47]⟩, .string (bytes UY)] 35))).grown hgr6 (fun k hk => Or.inl (own5.lt k hk).1)).below (Nat.le_refl _) fun k hk => hk)
            have HX : Hid (declsZ zs (i + 1) = declsZ zs i ++ [⟨[], xmlnsN, xmlnsU, UY⟩]) := Lib.hid (by rw [HSN.out, HDZ.out, HLX.out, HUY.out]; simp [HS0.out, HT1.out])
            clear own5 s5 V5 HW5 hown6 hgr6 hat6 hlt6 q0 q1 q2 q3 z0 y0 z1 y1
            go_wp2
            go_roundw
            case rel => exact ⟨i + 1, by omega, by omega, by go_num, HE6.out, by rw [HX.out, flatA_snoc]; exact HO6⟩
            case measure => simp [intOf]; omega
        · have HS0 := Lib.hid hs0
          have g8 : ((s : Int) == 0) = false := beq_eq_false_iff_ne.2 (by omega)
          clear hs0
          by_cases ht1 : t = 1
          · have HT1 := Lib.hid ht1
            have e9' : Int.tmod (r : Int) 11 = 1 := by rw [e9, ht1]; rfl
            clear e9 ht1
            have z0 := (HRW.out).frozen 2
            have y0 : w'.cell? ⟨B, 2, none⟩ = some (.string ⟨#[104, 116, 116, 112, 58, 47, 47, 119, 119, 119, 46, 119, 51, 46, 111, 114, 103, 47, 50, 48, 48, 48, 47, 120, 109, 108, 110, 115, 47]⟩) := (HRW.out).cell (i := 2) (by decide)
            have q0 : (w'.setCell ⟨B, 2, none⟩ (.string ⟨#[]⟩)).cell? ⟨B, 0, none⟩ = some (.string ⟨#[120, 109, 108, 110, 115]⟩) := (World.rowIs.set (HRW.out) 2 (.string ⟨#[]⟩)).cell (i := 0) (by decide)
            have q1 : (w'.setCell ⟨B, 2, none⟩ (.string ⟨#[]⟩)).cell? ⟨B, 1, none⟩ = some (.string (bytes LX)) := (World.rowIs.set (HRW.out) 2 (.string ⟨#[]⟩)).cell (i := 1) (by decide)
            have q2 : (w'.setCell ⟨B, 2, none⟩ (.string ⟨#[]⟩)).cell? ⟨B, 2, none⟩ = some (.string ⟨#[]⟩) := (World.rowIs.set (HRW.out) 2 (.string ⟨#[]⟩)).cell (i := 2) (by decide)
            have q3 : (w'.setCell ⟨B, 2, none⟩ (.string ⟨#[]⟩)).cell? ⟨B, 3, none⟩ = some (.string (bytes UY)) := (World.rowIs.set (HRW.out) 2 (.string ⟨#[]⟩)).cell (i := 3) (by decide)
            have HV := Lib.hid (HOW.out _ ((hU0).set 2 (.string ⟨#[]⟩)))
            have own5 := HV.out.1
            have v5 : (w'.setCell ⟨B, 2, none⟩ (.string ⟨#[]⟩)).heap.size = w'.heap.size := (by rw [Deep.nblk_setCell])
            have s5 : ((w'.setCell ⟨B, 2, none⟩ (.string ⟨#[]⟩)).alloc (.cells #[.string ⟨#[120, 109, 108, 110, 115]⟩, .string (bytes LX), .string ⟨#[]⟩, .string (bytes UY)] 35)).heap.size = w'.heap.size + 1 := (dsize1 _ _).trans (by rw [v5])
            have V5 := Lib.hid v5
            clear v5
            have HW5 : Hid (W.heap.size ≤ w'.heap.size) := Lib.hid (by have h1 := HV.out.2.size; rw [V5.out] at h1; exact h1)
            go_wp2_with (at_builtin; refine wpList_append_lies _ rfl _ _ 26 rfl W.heap.size 35 ia (.agg #[.string ⟨#[]⟩, .string ⟨#[]⟩, .string ⟨#[]⟩, .string ⟨#[]⟩]) 4 64 Try.underlying26 hi1 hz0 hz1 hz2 rfl (by decide) _ _ _ rfl (own5.alloc _) ⟨w'.heap.size, 0, none⟩ 1 1 [.string ⟨#[120, 109, 108, 110, 115]⟩, .string (bytes LX), .string ⟨#[]⟩, .string (bytes UY)] rfl rfl (cells_four _ _ _ _ _ _ _ V5.out) (by intro u hu; simp at hu; rcases hu with rfl | rfl | rfl | rfl <;> rfl) (by decide) (by unfold maxLen; omega) (by omega) (by rw [s5]; have := HW5.out; omega) (w'.heap.size + 1) s5 ?_; intro g2 cap2 w6 hown6 hgr6 hat6 hlt6)
            have HO6 := Lib.hid hown6
            have HE6 : Hid (Below W.heap.size W w6) := Lib.hid (((Turns.of_below (F := fun k => W.heap.size ≤ k) (HV.out.2.alloc HV.out.2.size (.cells #[.string ⟨#[120, 109, 108, 110, 115]⟩, .string (bytes LX), .string ⟨#[]⟩, .string (bytes UY)] 35))).grown hgr6 (fun k hk => Or.inl (own5.lt k hk).1)).below (Nat.le_refl _) fun k hk => hk)
            have HX : Hid (declsZ zs (i + 1) = declsZ zs i ++ [⟨xmlnsN, LX, [], UY⟩]) := Lib.hid (by rw [HSN.out, HDZ.out, HLX.out, HUY.out]; simp [HS0.out, HT1.out])
            clear own5 s5 V5 HW5 hown6 hgr6 hat6 hlt6 q0 q1 q2 q3 z0 y0
            go_wp2
            go_roundw
            case rel => exact ⟨i + 1, by omega, by omega, by go_num, HE6.out, by rw [HX.out, flatA_snoc]; exact HO6⟩
            case measure => simp [intOf]; omega
          · have HT1 := Lib.hid ht1
            have g9 : ((t : Int) == 1) = false := beq_eq_false_iff_ne.2 (by omega)
            clear ht1
            have q0 : w'.cell? ⟨B, 0, none⟩ = some (.string ⟨#[120, 109, 108, 110, 115]⟩) := (HRW.out).cell (i := 0) (by decide)
            have q1 : w'.cell? ⟨B, 1, none⟩ = some (.string (bytes LX)) := (HRW.out).cell (i := 1) (by decide)
            have q2 : w'.cell? ⟨B, 2, none⟩ = some (.string ⟨#[104, 116, 116, 112, 58, 47, 47, 119, 119, 119, 46, 119, 51, 46, 111, 114, 103, 47, 50, 48, 48, 48, 47, 120, 109, 108, 110, 115, 47]⟩) := (HRW.out).cell (i := 2) (by decide)
            have q3 : w'.cell? ⟨B, 3, none⟩ = some (.string (bytes UY)) := (HRW.out).cell (i := 3) (by decide)
            have HV := Lib.hid (HOW.out _ (hU0))
            have own5 := HV.out.1
            have v5 : w'.heap.size = w'.heap.size := rfl
            have s5 : (w'.alloc (.cells #[.string ⟨#[120, 109, 108, 110, 115]⟩, .string (bytes LX), .string ⟨#[104, 116, 116, 112, 58, 47, 47, 119, 119, 119, 46, 119, 51, 46, 111, 114, 103, 47, 50, 48, 48, 48, 47, 120, 109, 108, 110, 115, 47]⟩, .string (bytes UY)] 35)).heap.size = w'.heap.size + 1 := (dsize1 _ _).trans (by rw [v5])
            have V5 := Lib.hid v5
            clear v5
            have HW5 : Hid (W.heap.size ≤ w'.heap.size) := Lib.hid (by have h1 := HV.out.2.size; rw [V5.out] at h1; exact h1)
            go_wp2_with (at_builtin; refine wpList_append_lies _ rfl _ _ 26 rfl W.heap.size 35 ia (.agg #[.string ⟨#[]⟩, .string ⟨#[]⟩, .string ⟨#[]⟩, .string ⟨#[]⟩]) 4 64 Try.underlying26 hi1 hz0 hz1 hz2 rfl (by decide) _ _ _ rfl (own5.alloc _) ⟨w'.heap.size, 0, none⟩ 1 1 [.string ⟨#[120, 109, 108, 110, 115]⟩, .string (bytes LX), .string ⟨#[104, 116, 116, 112, 58, 47, 47, 119, 119, 119, 46, 119, 51, 46, 111, 114, 103, 47, 50, 48, 48, 48, 47, 120, 109, 108, 110, 115, 47]⟩, .string (bytes UY)] rfl rfl (cells_four _ _ _ _ _ _ _ V5.out) (by intro u hu; simp at hu; rcases hu with rfl | rfl | rfl | rfl <;> rfl) (by decide) (by unfold maxLen; omega) (by omega) (by rw [s5]; have := HW5.out; omega) (w'.heap.size + 1) s5 ?_; intro g2 cap2 w6 hown6 hgr6 hat6 hlt6)
            have HO6 := Lib.hid hown6
            have HE6 : Hid (Below W.heap.size W w6) := Lib.hid (((Turns.of_below (F := fun k => W.heap.size ≤ k) (HV.out.2.alloc HV.out.2.size (.cells #[.string ⟨#[120, 109, 108, 110, 115]⟩, .string (bytes LX), .string ⟨#[104, 116, 116, 112, 58, 47, 47, 119, 119, 119, 46, 119, 51, 46, 111, 114, 103, 47, 50, 48, 48, 48, 47, 120, 109, 108, 110, 115, 47]⟩, .string (bytes UY)] 35))).grown hgr6 (fun k hk => Or.inl (own5.lt k hk).1)).below (Nat.le_refl _) fun k hk => hk)
            have HX : Hid (declsZ zs (i + 1) = declsZ zs i ++ [⟨xmlnsN, LX, xmlnsU, UY⟩]) := Lib.hid (by rw [HSN.out, HDZ.out, HLX.out, HUY.out]; simp [HS0.out, HT1.out])
            clear own5 s5 V5 HW5 hown6 hgr6 hat6 hlt6 q0 q1 q2 q3
            go_wp2
            go_roundw
            case rel => exact ⟨i + 1, by omega, by omega, by go_num, HE6.out, by rw [HX.out, flatA_snoc]; exact HO6⟩
            case measure => simp [intOf]; omega
    · have HEQ : Hid (declsZ zs i = declsZ zs most) := Lib.hid (by
        unfold declsZ
        congr 1
        by_cases h1 : i < zs.length
        · have : i = most := by omega
          rw [this]
        · have e1 : i = zs.length := by omega
          rw [e1, List.take_of_length_le (Nat.le_refl _), List.take_of_length_le (by omega)])
      have HA : Hid (AtsAt (fun k => W.heap.size ≤ k) wr (.slice al i cl) (declsZ zs most)) := Lib.hid (by
        have ho := HO.out
        have hl := declsZ_len zs i hi
        rw [HEQ.out] at ho hl
        refine ats_of_own (base := W.heap.size) ?_ fun k hk _ => hk
        rw [hl]
        exact ho)
      by_cases h1 : i < zs.length
      · have h2 : i = most := by omega
        subst h2
        have j1 : decide (i < i) = false := decide_eq_false (by omega)
        have j2 : (i : Int) < (zs.length : Int) := by omega
        clear hlt
        go_wp2
        go_ret
        exact ⟨_, rfl, HBE.out, HA.out⟩
      · have h2 : i = zs.length := by omega
        have j2 : decide (i < zs.length) = false := decide_eq_false h1
        clear hlt h1
        subst h2
        go_wp2
        go_ret
        exact ⟨_, rfl, HBE.out, HA.out⟩
end Go.Proofs.Ythhnpnjnlbjdjaa
