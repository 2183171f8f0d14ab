/-
  THE CONTRACTS OF New, Len, Get OF THE LANDED PACKAGE ints.
-/
import Derived.Test.YtibhhndiefhofaaRunWords
import Derived.Deep.QuietTactic
import Derived.BigQuiet
namespace Go.Proofs.Ytibhhndiefhofaa
open Go.RowKit

def wordsOf (zs : List Nat) : Nat := begunN (zs.length * widestN zs) 64
/-- THE NUMBERS zs, KEPT IN BLOCKS FROM B ON. -/
def KeptZ (B : Nat) (w : World) (v : Value) (zs : List Nat) : Prop :=
  widestN zs ≤ 64 ∧ ∃ p : Nat, v = .pointer (some ⟨p, 0, none⟩) ∧ B ≤ p ∧
    ((widestN zs = 0 ∧ w.rowIs p 107 3 (fun i => if i = 0 then .int .i64 zs.length else if i = 1 then .int .i64 0 else .iface 103 (.agg #[]))) ∨
     (0 < widestN zs ∧ ∃ q : Nat, B ≤ q ∧ w.rowIs p 107 3 (fun i => if i = 0 then .int .i64 zs.length else if i = 1 then .int .i64 (widestN zs) else .iface 108 (.slice (some ⟨q, 0, none⟩) (wordsOf zs) (wordsOf zs))) ∧
      w.rowIs q 82 (wordsOf zs) (fun i => .int .u64 (wordZ (widestN zs) zs i))))
theorem keptz_keep (B : Nat) (w w' : World) (v : Value) (zs : List Nat) (h : KeptZ B w v zs) (hk : ∀ k, B ≤ k → k < w.heap.size → w'.heap[k]? = w.heap[k]?) : KeptZ B w' v zs := by
  obtain ⟨h64, p, rfl, h1, h | h⟩ := h
  · exact ⟨h64, p, rfl, h1, Or.inl ⟨h.1, h.2.of_block (hk _ h1 h.2.lt)⟩⟩
  · obtain ⟨h0, q, h2, r1, r2⟩ := h
    exact ⟨h64, p, rfl, h1, Or.inr ⟨h0, q, h2, r1.of_block (hk _ h1 r1.lt), r2.of_block (hk _ h2 r2.lt)⟩⟩
theorem keptz_ptr (B : Nat) (w : World) (v : Value) (zs : List Nat) (h : KeptZ B w v zs) : ∃ a, v = .pointer (some a) := by
  obtain ⟨_, p, rfl, _⟩ := h
  exact ⟨_, rfl⟩

set_option maxHeartbeats 1000000 in
set_option maxRecDepth 100000 in
theorem rnew_anyZ (s : Value) (zs : List Nat) (w : World) (hx : zs.length ≤ 4194304) (hs : NumOK w s zs) :
    Calls Try.prog 48 #[s] w fun e w' => ∃ v, e = .returned v ∧ KeptZ w.heap.size w' v zs ∧ Below w.heap.size w w' := by
  obtain ⟨hat, ⟨a, cap, rfl, hcap⟩, hz⟩ := hs
  have C1 := Lib.hid (rwidest_any _ _ zs w (by omega) hz hat)
  have h64 := widest_le zs hz
  by_cases h0 : widestN zs = 0
  · rw [h0] at C1
    go_enter Try.func48, Try.ntmps48
    go_wp2_with fail
    refine C1.out.mono ?_
    rintro e w1 ⟨rfl, rfl⟩
    go_wp2
    go_ret
    refine ⟨_, rfl, ⟨h64, w.heap.size, rfl, Nat.le_refl _, Or.inl ⟨h0, ?_⟩⟩, (Below.refl _ _).alloc (Nat.le_refl _) _⟩
    exact World.rowIs_alloc w _ _ _ (by
      intro i hi
      rcases (show i = 0 ∨ i = 1 ∨ i = 2 by have : i < 3 := hi; omega) with rfl | rfl | rfl <;> rfl)
  · rcases hat with ⟨a', cap', e, hn⟩ | ⟨b, off, cap', e, hb, hc⟩
    · exact absurd (by rw [hn]; rfl) h0
    · injection e with e1 e2 e3
      subst e1; subst e3
      have C2 := Lib.hid (pack_anyZ b off cap zs (widestN zs) w hx (by omega) h64 (widest_fits zs) hb hc)
      have g0 : ((widestN zs : Int) == 0) = false := beq_eq_false_iff_ne.2 (by omega)
      have g1 : (widestN zs == 0) = false := beq_eq_false_iff_ne.2 (by omega)
      rw [show begunN (zs.length * widestN zs) 64 = wordsOf zs from rfl] at C2
      go_enter Try.func48, Try.ntmps48
      go_wp2_with fail
      refine C1.out.mono ?_
      rintro e w1 ⟨rfl, rfl⟩
      go_wp2_with fail
      refine C2.out.mono ?_
      rintro e w1 ⟨rfl, hr, hb1⟩
      go_wp2
      go_ret
      have hs := hb1.size
      have hl := hr.lt
      refine ⟨_, rfl, ⟨h64, w1.heap.size, rfl, hs, Or.inr ⟨by omega, w.heap.size, Nat.le_refl _, ?_, hr.alloc _⟩⟩, hb1.alloc hs _⟩
      exact World.rowIs_alloc w1 _ _ _ (by
        intro i hi
        rcases (show i = 0 ∨ i = 1 ∨ i = 2 by have : i < 3 := hi; omega) with rfl | rfl | rfl <;> rfl)

theorem rlenNil_anyZ (w : World) : Calls Try.prog 68 #[.pointer none] w fun e w' => e = .returned (.int .i64 0) ∧ w = w' := by
  go_enter Try.func68, Try.ntmps68
  go_wp2
  go_ret
  exact ⟨rfl, rfl⟩
theorem rlen_anyZ (B : Nat) (v : Value) (zs : List Nat) (w : World) (hk : KeptZ B w v zs) :
    Calls Try.prog 68 #[v] w fun e w' => e = .returned (.int .i64 zs.length) ∧ w = w' := by
  obtain ⟨_, p, rfl, _, hk⟩ := hk
  have c1 : w.cell? ⟨p, 0, none⟩ = some (.int .i64 zs.length) := by
    rcases hk with ⟨_, r1⟩ | ⟨_, q, _, r1, _⟩
    · exact r1.cell (i := 0) (by decide)
    · exact r1.cell (i := 0) (by decide)
  clear hk
  go_enter Try.func68, Try.ntmps68
  go_wp2
  go_ret
  exact ⟨rfl, rfl⟩
theorem as_wordsZ (v : Value) (w : World) : (Instr.typeAssert (.iface 108 v) 105 108 true).run Try.prog w = .ok (.tuple #[v, .bool true]) w := by kernel_rfl
theorem as_noughts (v : Value) (w : World) : (Instr.typeAssert (.iface 103 v) 105 108 true).run Try.prog w = .ok (.tuple #[.slice none 0 0, .bool false]) w := by kernel_rfl

theorem drewN_belowZ {B : Nat} {a w : World} (h : Below B a w) (n : Nat) : Below B a (w.drewN n) := h.trans ⟨rfl, rfl, rfl, Nat.le_refl _, fun _ _ => rfl⟩
set_option maxHeartbeats 1000000 in
set_option maxRecDepth 100000 in
theorem at_any (B : Nat) (v : Value) (zs : List Nat) (k : Nat) (w : World) (hx : zs.length ≤ 4194304) (hlt : k < zs.length) (hk : KeptZ B w v zs) :
    Calls Try.prog 69 #[v, .int .i64 k] w fun e w' => e = .returned (.int .u64 (zs.getD k 0)) ∧ ∃ n, w' = w.drewN n := by
  obtain ⟨h64, p, rfl, _, hk⟩ := hk
  rcases hk with ⟨h0, r1⟩ | ⟨hW, q, _, r1, r2⟩
  · have c1 : w.cell? ⟨p, 2, none⟩ = some (.iface 103 (.agg #[])) := r1.cell (i := 2) (by decide)
    have hz : zs.getD k 0 = 0 := by
      have := widest_fits zs k
      rw [h0] at this
      omega
    rw [hz]
    have a1 := fun (w : World) => as_noughts (.agg #[]) w
    clear r1 hz h0
    go_enter Try.func69, Try.ntmps69
    go_wp2
    go_ret
    exact ⟨rfl, 0, rfl⟩
  · have c1 : w.cell? ⟨p, 2, none⟩ = some (.iface 108 (.slice (some ⟨q, 0, none⟩) (wordsOf zs) (wordsOf zs))) := r1.cell (i := 2) (by decide)
    have c2 : w.cell? ⟨p, 1, none⟩ = some (.int .i64 (widestN zs)) := r1.cell (i := 1) (by decide)
    have hm := mul_le64 zs.length (widestN zs) zs.length (Nat.le_refl _) hx h64
    have hn : wordsOf zs ≤ 67108864 := by unfold wordsOf begunN; omega
    have hpb := mul_le64 k (widestN zs) zs.length (by omega) hx h64
    have C := fun m => read_any q (wordsOf zs) (widestN zs) k (zs.getD k 0) zs (w.drewN m) hW h64 rfl (widest_fits zs k) (place_in _ _ k hW hlt) (place_next _ _ k hlt) hn (World.rowIs.of_block r2 rfl)
    have a1 := fun (w : World) => as_wordsZ (.slice (some ⟨q, 0, none⟩) (wordsOf zs) (wordsOf zs)) w
    clear r1 r2 hm
    generalize wordsOf zs = nw at *
    generalize zs.getD k 0 = z at *
    generalize widestN zs = W at *
    obtain ⟨pl, hpl⟩ : ∃ pl, k * W = pl := ⟨_, rfl⟩
    have e2 : (k : Int) * (W : Int) = (pl : Int) := by rw [← hpl]; rfl
    have e3 : IntKind.i64.wrap (pl : Int) = (pl : Int) := IntWalk.i64_in _ (by omega)
    rw [hpl] at C hpb
    have C' := Lib.hid fun m => (C m).mono fun e w' (h : e = .returned (.int .u64 z) ∧ w.drewN m = w') => (⟨h.1, 0, h.2.symm⟩ : e = .returned (.int .u64 z) ∧ ∃ n, w' = (w.drewN m).drewN n)
    clear C hpl
    go_enter Try.func69, Try.ntmps69
    go_wp2
    go_quiet (first | (go_at_call 74; exact Calls.quiet_of (C'.out _)))
    go_wp2
    go_ret
    exact ⟨rfl, _, rfl⟩

set_option maxHeartbeats 1000000 in
set_option maxRecDepth 100000 in
theorem rget_anyZ (B : Nat) (v : Value) (zs : List Nat) (k : Int) (w : World) (hx : zs.length ≤ 4194304) (hk64 : In64 k) (hk : KeptZ B w v zs) :
    Calls Try.prog 54 #[v, .int .i64 k] w fun e w' => e = .returned (.tuple #[.int .u64 (getZ zs k), .int .i64 (getE zs k)]) ∧ ∃ n, w' = w.drewN n := by
  have CL := Lib.hid (rlen_anyZ B v zs w hk)
  by_cases h0 : k < 0
  · rw [getZ_out zs k (by omega), getE_out zs k (by omega)]
    clear hk
    go_enter Try.func54, Try.ntmps54
    go_wp2
    go_ret2
    exact ⟨rfl, 0, rfl⟩
  · obtain ⟨j, rfl⟩ := Int.eq_ofNat_of_zero_le (show 0 ≤ k by omega)
    by_cases h1 : j < zs.length
    · rw [getZ_at zs j h1, getE_at zs j h1]
      have CA := Lib.hid (at_any B v zs j w hx h1 hk)
      obtain ⟨p, rfl⟩ := keptz_ptr B w v zs hk
      generalize zs.getD j 0 = z at *
      clear hk
      have g1 : decide (zs.length ≤ j) = false := decide_eq_false (by omega)
      go_enter Try.func54, Try.ntmps54
      go_wp2_with fail
      refine CL.out.mono ?_
      rintro e w' ⟨rfl, rfl⟩
      go_wp2_with fail
      refine CA.out.mono ?_
      rintro e w' ⟨rfl, n, rfl⟩
      go_wp2
      go_ret2
      exact ⟨rfl, _, rfl⟩
    · rw [getZ_out zs j (by omega), getE_out zs j (by omega)]
      obtain ⟨p, rfl⟩ := keptz_ptr B w v zs hk
      clear hk
      have g1 : decide (zs.length ≤ j) = true := decide_eq_true (by omega)
      go_enter Try.func54, Try.ntmps54
      go_wp2_with (refine CL.out.mono ?_; rintro e w' ⟨rfl, rfl⟩)
      go_ret2
      exact ⟨rfl, 0, rfl⟩
end Go.Proofs.Ytibhhndiefhofaa
