/-
  THE LANDED PACKAGE bits MEETS WHAT THE LAWS OF LAYER 3 ASK OF IT (BitSaid).
-/
import Derived.Test.YtiofekpnjckpiaaRunNew
import Derived.Test.YtiofekpnjckpiaaRunSel
namespace Go.Proofs.Ytiofekpnjckpiaa
open Go.RowKit

set_option maxHeartbeats 1000000 in
set_option maxRecDepth 100000 in
theorem rrankNil_any (w : World) : Calls Try.prog 12 #[.pointer none, .int .i64 0, .bool true] w fun e w' => e = .returned (.int .i64 0) ∧ w = w' := by
  go_enter Try.func12, Try.ntmps12
  go_wp2_with (refine (rlenNil_any _).mono ?_; rintro e w' ⟨rfl, rfl⟩)
  go_ret
  exact ⟨rfl, rfl⟩
set_option maxHeartbeats 2000000 in
set_option maxRecDepth 100000 in
theorem rselNil_any (w : World) : Calls Try.prog 14 #[.pointer none, .int .i64 0, .bool true] w fun e w' => e = .returned (.int .i64 (-1)) ∧ Below w.heap.size w w' := by
  have hb := boxW_below w (.pointer none) 0 true
  have CL := Lib.hid fun m => (rlenNil_any ((boxW w (.pointer none) 0 true).drewN m)).mono fun e w' (h : e = .returned (.int .i64 0) ∧ _ = w') => (⟨h.1, 0, h.2.symm⟩ : e = .returned (.int .i64 0) ∧ ∃ n, w' = ((boxW w (.pointer none) 0 true).drewN m).drewN n)
  have CR := Lib.hid fun m => (rrankNil_any ((boxW w (.pointer none) 0 true).drewN m)).mono fun e w' (h : e = .returned (.int .i64 0) ∧ _ = w') => (⟨h.1, 0, h.2.symm⟩ : e = .returned (.int .i64 0) ∧ ∃ n, w' = ((boxW w (.pointer none) 0 true).drewN m).drewN n)
  have k0 := boxW_0 w (.pointer none) 0 true
  have k1 := boxW_1 w (.pointer none) 0 true
  have k2 := boxW_2 w (.pointer none) 0 true
  go_enter Try.func14, Try.ntmps14
  go_wp2
  rw [show ((w.alloc (.cells #[.pointer none] 25)).alloc (.cells #[.int .i64 0] 3)).alloc (.cells #[.bool true] 4) = boxW w (.pointer none) 0 true from rfl]
  generalize boxW w (.pointer none) 0 true = W at *
  go_quiet (first | (go_at_call 11; exact Calls.quiet_of (CL.out _)) | (go_at_call 12; exact Calls.quiet_of (CR.out _)))
  go_wp2
  go_ret
  exact ⟨rfl, drewN_below hb _⟩
theorem same_below {w : World} {r : Value} {f : FuncId} {args : Array Value} (h : Calls Try.prog f args w fun e w' => e = .returned r ∧ w = w') : Calls Try.prog f args w fun e w' => e = .returned r ∧ Below w.heap.size w w' :=
  h.mono (by rintro e w' ⟨rfl, rfl⟩; exact ⟨rfl, Below.refl _ _⟩)
theorem drew_below {w : World} {r : Value} {f : FuncId} {args : Array Value} (h : Calls Try.prog f args w fun e w' => e = .returned r ∧ ∃ n, w' = w.drewN n) : Calls Try.prog f args w fun e w' => e = .returned r ∧ Below w.heap.size w w' :=
  h.mono (by rintro e w' ⟨rfl, n, rfl⟩; exact ⟨rfl, drewN_below (Below.refl _ _) n⟩)
/-- THE LANDED PACKAGE bits. -/
theorem bits_said : BitSaid (fun _ => True) Kept where
  below := fun _ _ _ _ => trivial
  keep := kept_keep
  isPtr := kept_ptr
  new := fun s xs w _ hx hs => rnew_any s xs w hx hs
  len := fun B v xs w _ _ hk => same_below (rlen_any B v xs w hk)
  get := fun B v xs k w _ hx h64 hk => same_below (rget_any B v xs k w hk hx h64)
  rank := fun B v xs k bit w _ hx _ hk => drew_below (rrank_any B v xs k bit w hk hx)
  select := fun B v xs j bit w _ hx _ hk => rsel_any B v xs j bit w hk hx
  size := fun B v xs w _ hx hk => same_below (rsize_any B v xs w hk hx)
  lenNil := fun w _ => same_below (rlenNil_any w)
  selNil := fun w _ => rselNil_any w
theorem in64_wf {k : Int} (h : (Lit.int .i64 k).wf = true) : In64 k := by
  have h1 : IntKind.i64.min = -9223372036854775808 := rfl
  have h2 : IntKind.i64.max = 9223372036854775807 := rfl
  simp only [Lit.wf, Bool.and_eq_true, decide_eq_true_eq] at h
  exact ⟨by omega, by omega⟩
end Go.Proofs.Ytiofekpnjckpiaa
