/-
  THE LANDED PACKAGE refs: what lies in memory, and the contracts of its small functions.
-/
import Derived.Test.YtdgcpeipoiljiaaRefsSaid
import Derived.Test.YtdgcpeipoiljiaaShelf
import Derived.Maps.OwnSet
import Derived.KernelRfl
import Derived.IntWalk
import Derived.Deep.QuietTactic
import Derived.BigQuiet
namespace Go.Proofs.Ytdgcpeipoiljiaa
open Go.RowKit

/-! ### maps from names to entities -/
theorem und_entM : Try.prog.underlying 46 = some (.map 9 60) := by kernel_rfl
theorem zero_ent (w : World) : (zeroValue 60).run Try.prog w = .ok .nilIface w := by kernel_rfl
theorem key_lawR : Maps.Keyed Try.prog 9 := Maps.string_keyed Try.underlying9
theorem key_ofR (x : List UInt8) (hx : x.length ≤ 1000000) : keyOf Try.prog 9 (.string (bytes x)) = some (.string x) := WideMaps.keyOf_string_mk Try.underlying9 (by rw [bytesL_len]; unfold maxLen; omega)
/-- how an entity reads as an element: by its block -/
def entElem : Value → Option (DataW Unit × List MemPlace)
  | .nilIface => some (.lit (.int .i64 (-2)), [])
  | .iface T (.pointer (some ⟨q, 0, none⟩)) => if T = 51 then some (.lit (.int .i64 (q : Int)), []) else none
  | .iface T (.agg cs) => if T = 64 ∧ cs.size = 0 then some (.lit (.int .i64 (-1)), []) else none
  | _ => none
def entD (d : Option (Option Nat)) (z : DataW Unit) : DataW Unit := match d with
  | none => z
  | some none => .lit (.int .i64 (-1))
  | some (some q) => .lit (.int .i64 (q : Int))
def entV (d : Option (Option Nat)) : Value := match d with
  | none => .nilIface
  | some none => .iface 64 (.agg #[])
  | some (some q) => .iface 51 (.pointer (some ⟨q, 0, none⟩))
theorem entElem_out : entElem (.iface 64 (.agg #[])) = some (.lit (.int .i64 (-1)), []) := by simp [entElem]
theorem entElem_in (q : Nat) : entElem (.iface 51 (.pointer (some ⟨q, 0, none⟩))) = some (.lit (.int .i64 (q : Int)), []) := by simp [entElem]
theorem entElem_inv {v : Value} {d : Option (Option Nat)} {ps : List MemPlace} (h : entElem v = some (entD d (.lit (.int .i64 (-2))), ps)) : v = entV d := by
  unfold entElem at h
  split at h
  · cases d with
    | none => rfl
    | some o =>
      cases o with
      | none => simp [entD] at h
      | some q => simp only [entD, Option.some.injEq, Prod.mk.injEq, DataW.lit.injEq, Lit.int.injEq, true_and] at h; omega
  · rename_i T q
    by_cases hT : T = 51
    · rw [if_pos hT] at h
      subst hT
      cases d with
      | none => simp only [entD, Option.some.injEq, Prod.mk.injEq, DataW.lit.injEq, Lit.int.injEq, true_and] at h; omega
      | some o =>
        cases o with
        | none => simp only [entD, Option.some.injEq, Prod.mk.injEq, DataW.lit.injEq, Lit.int.injEq, true_and] at h; omega
        | some q' =>
          simp only [entD, Option.some.injEq, Prod.mk.injEq, DataW.lit.injEq, Lit.int.injEq, true_and] at h
          rw [show q = q' by omega]
          rfl
    · rw [if_neg hT] at h; cases h
  · rename_i T cs
    by_cases hT : T = 64 ∧ cs.size = 0
    · rw [if_pos hT] at h
      obtain ⟨rfl, hc⟩ := hT
      have hcs : cs = #[] := Array.eq_empty_of_size_eq_zero hc
      subst hcs
      cases d with
      | none => simp [entD] at h
      | some o =>
        cases o with
        | none => rfl
        | some q => simp only [entD, Option.some.injEq, Prod.mk.injEq, DataW.lit.injEq, Lit.int.injEq, true_and] at h; omega
    · rw [if_neg hT] at h; cases h
  · cases h
/-- BLOCK m LEADS FROM NAMES TO ENTITIES: as g tells. -/
def EntM (w : World) (m : Nat) (g : List UInt8 → Option (Option Nat)) (N : Nat) : Prop := ∃ D : DataW Unit, w.ownsMap Try.prog 9 entElem m N D ∧ ∀ x, Maps.has D (.string x) = (g x).isSome ∧ ∀ z, D.atKey (.string x) z = entD (g x) z
section
variable {w w' : World} {m N : Nat} {g : List UInt8 → Option (Option Nat)}
theorem EntM.lt (h : EntM w m g N) : m < w.heap.size := by obtain ⟨D, h1, _⟩ := h; exact h1.lt
theorem EntM.mono {M : Nat} (h : EntM w m g N) (hM : N ≤ M) : EntM w m g M := by obtain ⟨D, h1, h2⟩ := h; exact ⟨D, h1.mono hM, h2⟩
theorem EntM.of_block (h : EntM w m g N) (hb : w'.heap[m]? = w.heap[m]?) : EntM w' m g N := by
  obtain ⟨D, ⟨es, clock, h1, r⟩, h2⟩ := h
  exact ⟨D, ⟨es, clock, hb.trans h1, r⟩, h2⟩
theorem EntM.made (w : World) : EntM (w.alloc (.map #[] 0)) w.heap.size (fun _ => none) 0 := ⟨_, World.ownsMap_made w _ _ _, fun _ => ⟨rfl, fun _ => rfl⟩⟩
theorem EntM.map (h : EntM w m g N) : ∃ es cl, w.heap[m]? = some (.map es cl) := by
  obtain ⟨D, ⟨es, clock, h1, r⟩, h2⟩ := h
  exact ⟨es, clock, h1⟩
/-- a name is looked up -/
theorem EntM.look (h : EntM w m g N) (x : List UInt8) (hx : x.length ≤ 1000000) : (Instr.lookup 46 (.map (some m)) (.string (bytes x)) true).run Try.prog w = .ok (.tuple #[entV (g x), .bool (g x).isSome]) w := by
  obtain ⟨D, h1, h2⟩ := h
  obtain ⟨v, ps, hr, hv⟩ := h1.look_ok key_lawR und_entM (zero_ent w) (R := entElem) (zd := .lit (.int .i64 (-2))) (zp := []) rfl (key_ofR x hx)
  rw [(h2 x).2] at hv
  rw [hr, entElem_inv hv, (h2 x).1]
theorem stringR_ne {x y : List UInt8} (h : x ≠ y) : (Lit.string x) ≠ .string y := fun e => h (by injection e)
/-- a name is put -/
theorem EntM.put (h : EntM w m g N) (hN : N ≤ 1000000) (y : List UInt8) (hy : y.length ≤ 1000000) (v : Value) (o : Option Nat) (hv : entElem v = some (entD (some o) (.lit (.int .i64 (-2))), [])) :
    ∃ w', (Instr.mapUpdate 46 (.map (some m)) (.string (bytes y)) v).run Try.prog w = .ok () w' ∧ EntM w' m (fun x => if x = y then some o else g x) (N + 1) ∧ w.grownBy w' (some m) := by
  obtain ⟨D, h1, h2⟩ := h
  obtain ⟨w', hr, hown, hg⟩ := h1.update key_lawR und_entM (by unfold maxLen; omega) (key_ofR y hy) hv
  refine ⟨w', hr, ⟨_, hown, fun x => ?_⟩, hg⟩
  have hm := h1.isMap
  by_cases e : x = y
  · subst e
    show Maps.has (D.put (.string x) _) (.string x) = (if x = x then some o else g x).isSome ∧ ∀ z, DataW.atKey (D.put (.string x) _) (.string x) z = entD (if x = x then some o else g x) z
    rw [if_pos rfl]
    refine ⟨by rw [Maps.has_put_same hm (show WideAt.IsKeyLit (.string x) from trivial)]; rfl, fun z => ?_⟩
    rw [Maps.atKey_put_same hm (show WideAt.IsKeyLit (.string x) from trivial)]
    cases o <;> rfl
  · show Maps.has (D.put (.string y) _) (.string x) = (if x = y then some o else g x).isSome ∧ ∀ z, DataW.atKey (D.put (.string y) _) (.string x) z = entD (if x = y then some o else g x) z
    rw [if_neg e]
    refine ⟨by rw [Maps.has_put_other (stringR_ne e), (h2 x).1], fun z => ?_⟩
    rw [Maps.atKey_put_other (stringR_ne e), (h2 x).2]
end
/-! ### small functions -/
set_option maxHeartbeats 1000000 in
set_option maxRecDepth 100000 in
theorem rclone12 (s : ByteArray) (w : World) (hs : s.size ≤ 8388608) : Calls Try.prog 19 #[.string s] w fun e w' => e = .returned (.string s) ∧ Below w.heap.size w w' := by
  have C := Lib.hid (Try.stringslite_Clone s w (by omega))
  go_enter Try.func19, Try.ntmps19
  go_wp2_with fail
  refine C.out.mono ?_
  rintro o w2 ⟨rfl, hb⟩
  go_wp2
  go_ret
  exact ⟨rfl, hb⟩
def fiveV (x : List UInt8) : Value := .tuple #[.string (match fiveL x with | some c => bytes [c] | none => ⟨#[]⟩), .bool (fiveL x).isSome]
theorem strEqL (x y : List UInt8) : ((bytes x).toList == y) = decide (x = y) := by
  rw [bytesL_toList]
  by_cases h : x = y
  · rw [decide_eq_true h, h]; simp
  · rw [decide_eq_false h]; exact beq_eq_false_iff_ne.2 h
set_option maxHeartbeats 2000000 in
set_option maxRecDepth 100000 in
theorem given12 (x : List UInt8) (w : World) : Calls Try.prog 18 #[.string (bytes x)] w fun e w' => e = .returned (fiveV x) ∧ w' = w := by
  have q0 := strEqL x [108, 116]
  have q1 := strEqL x [103, 116]
  have q2 := strEqL x [97, 109, 112]
  have q3 := strEqL x [97, 112, 111, 115]
  have q4 := strEqL x [113, 117, 111, 116]
  have HV : Hid (∀ c, fiveL x = c → fiveV x = .tuple #[.string (match c with | some c => bytes [c] | none => ⟨#[]⟩), .bool c.isSome]) := Lib.hid (fun c h => by unfold fiveV; rw [h])
  generalize hB : bytes x = B at *
  clear hB
  by_cases h0 : x = [108, 116]
  · rw [decide_eq_true h0] at q0
    have HX := Lib.hid (HV.out (some 60) (by unfold fiveL; rw [if_pos h0]))
    clear HV  q1 q2 q3 q4  h0
    generalize fiveV x = V at *
    go_enter Try.func18, Try.ntmps18
    go_wp2
    go_ret2
    exact ⟨by rw [HX.out]; rfl, rfl⟩
  rw [decide_eq_false h0] at q0
  by_cases h1 : x = [103, 116]
  · rw [decide_eq_true h1] at q1
    have HX := Lib.hid (HV.out (some 62) (by unfold fiveL; rw [if_neg h0, if_pos h1]))
    clear HV  q2 q3 q4  h0 h1
    generalize fiveV x = V at *
    go_enter Try.func18, Try.ntmps18
    go_wp2
    go_ret2
    exact ⟨by rw [HX.out]; rfl, rfl⟩
  rw [decide_eq_false h1] at q1
  by_cases h2 : x = [97, 109, 112]
  · rw [decide_eq_true h2] at q2
    have HX := Lib.hid (HV.out (some 38) (by unfold fiveL; rw [if_neg h0, if_neg h1, if_pos h2]))
    clear HV  q3 q4  h0 h1 h2
    generalize fiveV x = V at *
    go_enter Try.func18, Try.ntmps18
    go_wp2
    go_ret2
    exact ⟨by rw [HX.out]; rfl, rfl⟩
  rw [decide_eq_false h2] at q2
  by_cases h3 : x = [97, 112, 111, 115]
  · rw [decide_eq_true h3] at q3
    have HX := Lib.hid (HV.out (some 39) (by unfold fiveL; rw [if_neg h0, if_neg h1, if_neg h2, if_pos h3]))
    clear HV  q4  h0 h1 h2 h3
    generalize fiveV x = V at *
    go_enter Try.func18, Try.ntmps18
    go_wp2
    go_ret2
    exact ⟨by rw [HX.out]; rfl, rfl⟩
  rw [decide_eq_false h3] at q3
  by_cases h4 : x = [113, 117, 111, 116]
  · rw [decide_eq_true h4] at q4
    have HX := Lib.hid (HV.out (some 34) (by unfold fiveL; rw [if_neg h0, if_neg h1, if_neg h2, if_neg h3, if_pos h4]))
    clear HV   h0 h1 h2 h3 h4
    generalize fiveV x = V at *
    go_enter Try.func18, Try.ntmps18
    go_wp2
    go_ret2
    exact ⟨by rw [HX.out]; rfl, rfl⟩
  rw [decide_eq_false h4] at q4
  have HX := Lib.hid (HV.out none (by unfold fiveL; rw [if_neg h0, if_neg h1, if_neg h2, if_neg h3, if_neg h4]))
  clear HV h0 h1 h2 h3 h4
  generalize fiveV x = V at *
  go_enter Try.func18, Try.ntmps18
  go_wp2
  go_ret2
  exact ⟨by rw [HX.out]; rfl, rfl⟩
end Go.Proofs.Ytdgcpeipoiljiaa
