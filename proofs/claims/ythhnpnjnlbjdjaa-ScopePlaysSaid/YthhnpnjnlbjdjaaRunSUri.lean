/-
  THE LANDED PACKAGE scope: Depth, URI.
-/
import Derived.Test.YthhnpnjnlbjdjaaRunSMap
namespace Go.Proofs.Ythhnpnjnlbjdjaa
open Go.RowKit

theorem own_slice {w : World} {base : Nat} {t : TypeId} {n sz : Nat} {v : Value} {xs : List Value} (h : w.ownsRow base t sz v n xs) : ∃ a cap, v = .slice a n cap := by
  rcases h.2 with ⟨rfl, rfl⟩ | ⟨g, cap, cur, rfl, _⟩
  · exact ⟨none, 0, rfl⟩
  · exact ⟨_, cap, rfl⟩
theorem era_len (T : List (List Bb)) : (era T).length = T.length := List.length_map _
set_option maxHeartbeats 1000000 in
set_option maxRecDepth 100000 in
theorem rdepth_any {F : Nat → Prop} {w : World} {sb : Nat} {T : List (List Bb)} {VN : List Value} {vl vm : Value} (h : ScAt F w sb T VN vl vm) :
    Calls Try.prog 21 #[.pointer (some ⟨sb, 0, none⟩)] w fun e w' => e = .returned (.int .i64 T.length) ∧ w = w' := by
  obtain ⟨a, cap, rfl⟩ := own_slice h.lev
  have c0 : w.cell? ⟨sb, 0, none⟩ = some (.slice a T.length cap) := h.box.cell (i := 0) (by decide)
  clear h
  go_enter Try.func21, Try.ntmps21
  go_wp2
  go_ret
  exact ⟨rfl, rfl⟩
theorem isSc_some {F : Nat → Prop} {w : World} {sb : Nat} {T : List (List Bb)} {VN : List Value} {vl : Value} (h : Some14 F w sb T VN vl) : IsSc F w (.pointer (some ⟨sb, 0, none⟩)) (era T) := ⟨sb, T, VN, vl, rfl, rfl, h⟩
theorem isSc_open {F : Nat → Prop} {w : World} {v : Value} {S : List (List Bd)} (h : IsSc F w v S) : ∃ sb T VN vl, v = .pointer (some ⟨sb, 0, none⟩) ∧ era T = S ∧ Some14 F w sb T VN vl := h
theorem Some14.below {F : Nat → Prop} {w w' : World} {sb : Nat} {T : List (List Bb)} {VN : List Value} {vl : Value} (h : Some14 F w sb T VN vl) (hb : Below w.heap.size w w') : Some14 F w' sb T VN vl := by
  rcases h with ⟨h, hT⟩ | ⟨mb, b0, h⟩
  · exact Or.inl ⟨h.below hb, hT⟩
  · exact Or.inr ⟨mb, b0, h.below hb⟩
/-- the scope as it is behind a step that makes new blocks alone -/
structure Went (F F' : Nat → Prop) (w w' : World) : Prop where
  sub : ∀ k, F' k → F k ∨ (w.heap.size ≤ k ∧ k < w'.heap.size)
  sup : ∀ k, F k → F' k
  turns : Turns F w w'
theorem Went.below {F F' : Nat → Prop} {w w1 w' : World} (h : Went F F' w w1) (hb : Below w1.heap.size w1 w') : Went F F' w w' :=
  ⟨fun k hk => (h.sub k hk).imp id fun h => ⟨h.1, Nat.lt_of_lt_of_le h.2 hb.size⟩, h.sup, h.turns.other hb⟩
theorem Went.refl (F : Nat → Prop) (w : World) : Went F F w w := ⟨fun _ hk => Or.inl hk, fun _ hk => hk, Turns.refl _ _⟩
theorem uri_none {b0 : Nat} {T : List (List Bb)} {p : Nm} (h : headB b0 T p = none) : lookS (era T) p = none := by rw [← headB_look b0 p T, h]; rfl
theorem uri_some {b0 : Nat} {T : List (List Bb)} {p : Nm} {x : Nat × Nat × Nm} (h : headB b0 T p = some x) : lookS (era T) p = some x.2.2 := by rw [← headB_look b0 p T, h]; rfl
set_option maxHeartbeats 1000000 in
set_option maxRecDepth 100000 in
theorem ruri_any (F : Nat → Prop) (v : Value) (S : List (List Bd)) (p : Nm) (w : World) (_hN : NiceS S) (hp : p.length ≤ 8388608) (h : IsSc F w v S) :
    Calls Try.prog 13 #[v, .string (bytes p)] w (GaveS IsSc F v S (.tuple #[.string (bytes (uriS S p)), .bool (isS S p)]) w) := by
  obtain ⟨sb, T, VN, vl, rfl, rfl, h14⟩ := isSc_open h
  have C := Lib.hid (rbound_any h14)
  have HP := Lib.hid hp
  clear h h14 hp
  go_enter Try.func13, Try.ntmps13
  go_wp2_with fail
  refine C.out.mono ?_
  rintro e w1 ⟨mb, b0, F1, rfl, hf, hsub, hsup, hturn⟩
  have HF := Lib.hid hf
  have HW := Lib.hid (show Went F F1 w w1 from ⟨hsub, hsup, hturn⟩)
  have hlook := hf.map.look p HP.out
  cases hh : headB b0 T p with
  | none =>
    have e1 : hdB b0 T p = none := by unfold hdB; rw [hh]; rfl
    rw [e1] at hlook
    have hlook' : (Instr.lookup 52 (.map (some mb)) (.string (bytes p)) true).run Try.prog w1 = .ok (.tuple #[.pointer none, .bool false]) w1 := hlook
    have HR := Lib.hid (show uriS (era T) p = [] by unfold uriS; rw [uri_none hh]; rfl)
    have HI := Lib.hid (show isS (era T) p = decide (p = []) by unfold isS; rw [uri_none hh]; rfl)
    have ce := semp p
    clear hlook hf hsub hsup hturn e1 hh C
    go_wp2
    go_returns
    exact ⟨by rw [HR.out, HI.out]; rfl, F1, isSc_some (Or.inr ⟨mb, b0, HF.out⟩), HW.out.sub, HW.out.turns⟩
  | some x =>
    obtain ⟨b, k, u⟩ := x
    have e1 : hdB b0 T p = some b := by unfold hdB; rw [hh]; rfl
    rw [e1] at hlook
    have hlook' : (Instr.lookup 52 (.map (some mb)) (.string (bytes p)) true).run Try.prog w1 = .ok (.tuple #[.pointer (some ⟨b, 0, none⟩), .bool true]) w1 := hlook
    have HR := Lib.hid (show uriS (era T) p = u by unfold uriS; rw [uri_some hh]; rfl)
    have HI := Lib.hid (show isS (era T) p = true by unfold isS; rw [uri_some hh]; rfl)
    obtain ⟨nxt, hbd⟩ := hf.bs.head hh
    obtain ⟨f1, f2, f3, f4, M⟩ := bond_mets (p, u)
    have d0 : w1.cell? ⟨b, 0, none⟩ = some (.iface (bondT (p, u)) (bondA (p, u))) := hbd.row.cell (i := 0) (by decide)
    have m2 := M.mto
    have m3 := M.eto
    have CT := Lib.hid M.to
    clear hlook hf hsub hsup hturn e1 hh C hbd M
    generalize bondT (p, u) = bt at *
    generalize bondA (p, u) = ba at *
    go_wp2_with fail
    refine (CT.out _).mono ?_
    rintro e w2 ⟨rfl, hb⟩
    have HB := Lib.hid hb
    clear hb
    go_wp2
    go_returns
    exact ⟨by rw [HR.out, HI.out]; rfl, F1, isSc_some (Or.inr ⟨mb, b0, HF.out.below HB.out⟩), (HW.out.below HB.out).sub, (HW.out.below HB.out).turns⟩
end Go.Proofs.Ythhnpnjnlbjdjaa
