/-
  THE LANDED PACKAGE intern: what lies in memory, and the contracts of its small functions.
-/
import Derived.Test.YtkleaedfpgaohaaRefGrow
import Derived.Test.YtkleaedfpgaohaaTabSaid
import Derived.Test.YtkleaedfpgaohaaShelf
import Derived.BigCall
namespace Go.Proofs.Ytkleaedfpgaohaa
open Go.RowKit

theorem rowIs_ne {w : World} {b b' : Nat} {t t' : TypeId} {n n' : Nat} {f f' : Nat → Value} (h : w.rowIs b t n f) (h' : w.rowIs b' t' n' f') (ht : t ≠ t') : b ≠ b' := by
  rintro rfl
  obtain ⟨c, e, _⟩ := h
  obtain ⟨c', e', _⟩ := h'
  rw [e] at e'
  injection e' with e'
  injection e' with _ e2 _
  exact ht e2
theorem own_ne {w : World} {b B : Nat} {t : TypeId} {n m c : Nat} {a : Option Addr} {f : Nat → Value} {L : List ByteArray} (h : w.rowIs b t n f) (ho : OwnT w B (.slice a m c) L) (ht : t ≠ 9) : ∀ g, a = some g → g.block ≠ b := by
  rintro g rfl
  rcases ho.2 with ⟨e, _⟩ | ⟨g', cap, cur, e, _, hg, _⟩
  · cases e
  · injection e with e1 _ _
    injection e1 with e1
    subst e1
    rintro rfl
    obtain ⟨cc, hcc, _⟩ := h
    have hg' : w.heap[g']? = some (.cells cur 9 (0, 0)) := hg
    have hcc' : w.heap[g']? = some (.cells cc t (0, 0)) := hcc
    rw [hg'] at hcc'
    injection hcc' with e2
    injection e2 with _ e3 _
    exact ht e3.symm
/-- THE PLACES P, in the blocks u and q. -/
structure PlAt (u q : Nat) (P : List Nat) (w : World) : Prop where
  box : w.rowIs u 68 1 (fun _ => .slice (some ⟨q, 0, none⟩) P.length P.length)
  row : w.rowIs q 65 P.length (fun i => .int .u32 (valAt P i))
/-- THE TEXTS L, in the block t and that of a. -/
structure TxAt (t : Nat) (a : Option Addr) (c : Nat) (L : List ByteArray) (w : World) : Prop where
  box : w.rowIs t 60 1 (fun _ => .slice a L.length c)
  own : OwnT w 0 (.slice a L.length c) L
/-- A TABLE. -/
structure GAt (p r t u q : Nat) (a : Option Addr) (c : Nat) (L : List ByteArray) (P : List Nat) (n : Int) (w : World) : Prop where
  tab : w.rowIs p 49 2 (fun i => if i = 0 then .slice (some ⟨r, 0, none⟩) 2 2 else .int .i64 n)
  parts : w.rowIs r 64 2 (fun i => if i = 0 then .iface 56 (.pointer (some ⟨t, 0, none⟩)) else .iface 50 (.pointer (some ⟨u, 0, none⟩)))
  tx : TxAt t a c L w
  pl : PlAt u q P w
section
variable {p r t u q : Nat} {a : Option Addr} {c : Nat} {L : List ByteArray} {P : List Nat} {n : Int} {w w' : World}
theorem PlAt.keep (h : PlAt u q P w) (h1 : w'.heap[u]? = w.heap[u]?) (h2 : w'.heap[q]? = w.heap[q]?) : PlAt u q P w' := ⟨h.box.of_block h1, h.row.of_block h2⟩
theorem PlAt.drewN (h : PlAt u q P w) (k : Nat) : PlAt u q P (w.drewN k) := h.keep rfl rfl
theorem PlAt.below (h : PlAt u q P w) (hb : Below w.heap.size w w') : PlAt u q P w' := h.keep (hb.block _ h.box.lt) (hb.block _ h.row.lt)
theorem PlAt.c0 (h : PlAt u q P w) : w.cell? ⟨u, 0, none⟩ = some (.slice (some ⟨q, 0, none⟩) P.length P.length) := h.box.cell (i := 0) (by decide)
theorem PlAt.ne (h : PlAt u q P w) : u ≠ q := rowIs_ne h.box h.row (by decide)
/-- a place is taken -/
theorem PlAt.put (h : PlAt u q P w) (k x : Nat) (y : Int) (hy : y = (x : Int)) (hk : k < P.length) : PlAt u q (P.set k x) (w.setCell ⟨q, k, none⟩ (.int .u32 y)) := by
  subst hy
  refine ⟨?_, ?_⟩
  · rw [List.length_set]
    exact h.box.setOther (a := ⟨q, k, none⟩) h.ne _
  · rw [List.length_set]
    refine (World.rowIs.set h.row k _).congr fun i _ => ?_
    rw [val_set P k i x hk]
    split <;> rfl
theorem TxAt.keep (h : TxAt t a c L w) (h1 : w'.heap[t]? = w.heap[t]?) (h2 : ∀ g, a = some g → w'.heap[g.block]? = w.heap[g.block]?) : TxAt t a c L w' := ⟨h.box.of_block h1, ownT_same h.own h2⟩
theorem TxAt.drewN (h : TxAt t a c L w) (k : Nat) : TxAt t a c L (w.drewN k) := h.keep rfl fun _ _ => rfl
theorem TxAt.below (h : TxAt t a c L w) (hb : Below w.heap.size w w') : TxAt t a c L w' := h.keep (hb.block _ h.box.lt) fun g hg => hb.block _ (by
  subst hg
  exact (h.own.lt g.block rfl).2)
theorem TxAt.c0 (h : TxAt t a c L w) : w.cell? ⟨t, 0, none⟩ = some (.slice a L.length c) := h.box.cell (i := 0) (by decide)
theorem TxAt.ne (h : TxAt t a c L w) : ∀ g, a = some g → g.block ≠ t := own_ne h.box h.own (by decide)
theorem GAt.keep (h : GAt p r t u q a c L P n w) (h1 : w'.heap[p]? = w.heap[p]?) (h2 : w'.heap[r]? = w.heap[r]?) (h3 : w'.heap[t]? = w.heap[t]?) (h4 : w'.heap[u]? = w.heap[u]?) (h5 : w'.heap[q]? = w.heap[q]?) (h6 : ∀ g, a = some g → w'.heap[g.block]? = w.heap[g.block]?) : GAt p r t u q a c L P n w' :=
  ⟨h.tab.of_block h1, h.parts.of_block h2, h.tx.keep h3 h6, h.pl.keep h4 h5⟩
theorem GAt.drewN (h : GAt p r t u q a c L P n w) (k : Nat) : GAt p r t u q a c L P n (w.drewN k) := h.keep rfl rfl rfl rfl rfl fun _ _ => rfl
theorem GAt.below (h : GAt p r t u q a c L P n w) (hb : Below w.heap.size w w') : GAt p r t u q a c L P n w' :=
  ⟨h.tab.of_block (hb.block _ h.tab.lt), h.parts.of_block (hb.block _ h.parts.lt), h.tx.below hb, h.pl.below hb⟩
theorem GAt.c0 (h : GAt p r t u q a c L P n w) : w.cell? ⟨p, 0, none⟩ = some (.slice (some ⟨r, 0, none⟩) 2 2) := h.tab.cell (i := 0) (by decide)
theorem GAt.c1 (h : GAt p r t u q a c L P n w) : w.cell? ⟨p, 1, none⟩ = some (.int .i64 n) := h.tab.cell (i := 1) (by decide)
theorem GAt.r0 (h : GAt p r t u q a c L P n w) : w.cell? ⟨r, 0, none⟩ = some (.iface 56 (.pointer (some ⟨t, 0, none⟩))) := h.parts.cell (i := 0) (by decide)
theorem GAt.r1 (h : GAt p r t u q a c L P n w) : w.cell? ⟨r, 1, none⟩ = some (.iface 50 (.pointer (some ⟨u, 0, none⟩))) := h.parts.cell (i := 1) (by decide)
theorem GAt.pr (h : GAt p r t u q a c L P n w) : p ≠ r := rowIs_ne h.tab h.parts (by decide)
/-- how many were looked at is stored -/
theorem GAt.looked (h : GAt p r t u q a c L P n w) (m : Int) : GAt p r t u q a c L P m (w.setCell ⟨p, 1, none⟩ (.int .i64 m)) := by
  refine ⟨(World.rowIs.set h.tab 1 _).congr fun i hi => ?_, h.parts.setOther (a := ⟨p, 1, none⟩) h.pr.symm _, h.tx.keep (Below.heap_setCell _ _ _ _ (rowIs_ne h.tx.box h.tab (by decide))) (fun g hg => Below.heap_setCell _ _ _ _ (own_ne h.tab h.tx.own (by decide) g hg)), h.pl.keep (Below.heap_setCell _ _ _ _ (rowIs_ne h.pl.box h.tab (by decide))) (Below.heap_setCell _ _ _ _ (rowIs_ne h.pl.row h.tab (by decide)))⟩
  rcases (show i = 0 ∨ i = 1 by omega) with rfl | rfl <;> rfl
end
theorem as_texts (v : Value) (w : World) : (Instr.typeAssert (.iface 56 v) 64 56 false).run Try.prog w = .ok v w := by kernel_rfl
theorem as_places (v : Value) (w : World) : (Instr.typeAssert (.iface 50 v) 64 50 false).run Try.prog w = .ok v w := by kernel_rfl

set_option maxHeartbeats 1000000 in
set_option maxRecDepth 100000 in
theorem rhash_any (s : ByteArray) (w : World) (hs : s.size ≤ 9223372036854775807) :
    Calls Try.prog 8 #[.string s] w fun e w' => e = .returned (.int .u64 (hashN s)) ∧ w = w' := by
  go_enter Try.func8, Try.ntmps8
  go_wp2
  go_loop [3, 7] (fun hv iv => ∃ i h : Nat, i ≤ s.size ∧ iv = .int .i64 i ∧ hv = .int .u64 h ∧ h < 18446744073709551616 ∧ Hid (h = hashTo s i)) (fun _ iv => s.size - (intOf iv).toNat)
  case atStart => exact ⟨0, 14695981039346656037, Nat.zero_le _, rfl, rfl, by decide, Lib.hid rfl⟩
  case round =>
    obtain ⟨i, h, hi, rfl, rfl, h64, HH⟩ := hrel
    by_cases hlt : i < s.size
    · have HN := Lib.hid (hashTo_next s i hlt)
      have HV := Lib.hid (hash_step h (s[i]'hlt) h64)
      go_wp2
      go_round
      case rel => exact ⟨i + 1, (h ^^^ (s[i]'hlt).toNat) * 1099511628211 % 18446744073709551616, by omega, by go_num, by rw [HV.out], Nat.mod_lt _ (by decide), Lib.hid (by rw [HN.out, HH.out])⟩
      case measure => simp [intOf]; omega
    · have g1 : decide (i < s.size) = false := decide_eq_false hlt
      have HE : Hid (h = hashN s) := Lib.hid (by rw [HH.out, show i = s.size by omega, hashTo_all])
      go_wp2
      go_ret
      exact ⟨by rw [← HE.out]; rfl, rfl⟩
/-! ### the places -/
theorem info_u32 : (Try.prog.info? 65).map (fun i => (i.zero, i.size, i.bytes)) = some (some (.int .u32 0), 1, 4) := by kernel_rfl
theorem make_u32 (n : Nat) (h : n ≤ 4294967296) (w : World) :
    (Instr.makeSlice 66 (.int .i64 (n : Int)) (.int .i64 (n : Int))).run Try.prog w = .ok (.slice (some ⟨w.heap.size, 0, none⟩) n n) (w.alloc (.cells (madeCells #[.int .u32 0] n) 65)) :=
  run_make_row' 66 65 (.int .u32 0) 4 Try.underlying66 info_u32 rfl .i64 .i64 n (by omega) (by omega) w
set_option maxHeartbeats 1000000 in
set_option maxRecDepth 100000 in
theorem rnewPlaces_any (m : Nat) (w : World) (hm : m ≤ 4294967296) :
    Calls Try.prog 30 #[.int .i64 m] w fun e w' => e = .returned (.pointer (some ⟨w.heap.size + 1, 0, none⟩)) ∧ PlAt (w.heap.size + 1) w.heap.size (List.replicate m 0) w' ∧ w'.heap.size = w.heap.size + 2 ∧ Below w.heap.size w w' := by
  have hmk := make_u32 m (by omega) w
  have hb1 := (Below.refl w.heap.size w).alloc (Nat.le_refl _) (.cells (madeCells #[.int .u32 0] m) 65)
  have hr := World.rowIs_made w (.int .u32 0) m 65
  have hsz : (w.alloc (.cells (madeCells #[.int .u32 0] m) 65)).heap.size = w.heap.size + 1 := by show (w.heap.push _).size = _; rw [Array.size_push]
  generalize hW : w.alloc (.cells (madeCells #[.int .u32 0] m) 65) = W at *
  go_enter Try.func30, Try.ntmps30
  go_wp2
  go_ret
  have hb2 := hr.alloc (.cells #[.slice (some ⟨w.heap.size, 0, none⟩) m m] 68)
  refine ⟨rfl, ⟨?_, ?_⟩, ?_, hb1.alloc hb1.size _⟩
  · rw [← hsz, List.length_replicate]
    refine World.rowIs_alloc W _ _ _ ?_
    intro i hi
    rcases (show i = 0 by have : i < 1 := hi; omega) with rfl; rfl
  · rw [List.length_replicate]
    exact hb2.congr fun i _ => by rw [val_none]; rfl
  · show (W.heap.push _).size = _
    rw [Array.size_push, hsz]
set_option maxHeartbeats 1000000 in
set_option maxRecDepth 100000 in
theorem rat_any (u q : Nat) (P : List Nat) (k : Nat) (w : World) (h : PlAt u q P w) (hk : k < P.length) (hv : valAt P k ≤ 4294967295) :
    Calls Try.prog 23 #[.pointer (some ⟨u, 0, none⟩), .int .i64 k] w fun e w' => e = .returned (.tuple #[.int .i64 (valAt P k - 1 : Nat), .bool (decide (valAt P k ≠ 0))]) ∧ w = w' := by
  have c0 := h.c0
  have c1 := h.row.cell hk
  generalize valAt P k = v at *
  generalize P.length = m at *
  have i1 : (k : Int) < (m : Int) := by omega
  clear h
  by_cases h0 : v = 0
  · subst h0
    go_enter Try.func23, Try.ntmps23
    go_wp2
    go_ret2
    exact ⟨rfl, rfl⟩
  · have g1 : ((v : Int) == 0) = false := beq_eq_false_iff_ne.2 (by omega)
    have g2 : (v == 0) = false := beq_eq_false_iff_ne.2 h0
    obtain ⟨y, hy⟩ : ∃ y, v - 1 = y := ⟨_, rfl⟩
    have ey : (v : Int) - 1 = (y : Int) := by omega
    have HY := Lib.hid hy
    have HDX : Hid (decide (v ≠ 0) = true) := Lib.hid (decide_eq_true h0)
    clear hy
    go_enter Try.func23, Try.ntmps23
    go_wp2
    go_ret2
    exact ⟨by rw [HY.out, HDX.out]; rfl, rfl⟩
set_option maxHeartbeats 1000000 in
set_option maxRecDepth 100000 in
theorem rtake_any (u q : Nat) (P : List Nat) (k n : Nat) (w : World) (h : PlAt u q P w) (hk : k < P.length) (hn : n ≤ 16777216) :
    Calls Try.prog 34 #[.pointer (some ⟨u, 0, none⟩), .int .i64 k, .int .i64 n] w fun e w' => e = .returned (.tuple #[]) ∧ PlAt u q (P.set k (n + 1)) w' ∧ Turns (fun b => b = q) w w' := by
  have c0 := h.c0
  have c1 := h.row.cell hk
  have f1 := h.row.frozen k
  have H := Lib.hid h
  have i1 : (k : Int) < (P.length : Int) := by omega
  clear h
  go_enter Try.func34, Try.ntmps34
  go_wp2
  go_end0
  exact ⟨rfl, H.out.put k (n + 1) ((n : Int) + 1) (by omega) hk, (Turns.refl (fun b => b = q) w).setCell (p := ⟨q, k, none⟩) (Or.inl rfl) _⟩
set_option maxHeartbeats 1000000 in
set_option maxRecDepth 100000 in
theorem rcount_any (u q : Nat) (P : List Nat) (w : World) (h : PlAt u q P w) :
    Calls Try.prog 35 #[.pointer (some ⟨u, 0, none⟩)] w fun e w' => e = .returned (.int .i64 P.length) ∧ w = w' := by
  have c0 := h.c0
  clear h
  go_enter Try.func35, Try.ntmps35
  go_wp2
  go_ret
  exact ⟨rfl, rfl⟩
set_option maxHeartbeats 1000000 in
set_option maxRecDepth 100000 in
theorem rnext_any (u q : Nat) (P : List Nat) (k : Nat) (w : World) (h : PlAt u q P w) (hm : P.length ≤ 16777216) (h0 : 0 < P.length) (hk : k < P.length) :
    Calls Try.prog 32 #[.pointer (some ⟨u, 0, none⟩), .int .i64 k] w fun e w' => e = .returned (.int .i64 ((k + 1) % P.length : Nat)) ∧ w = w' := by
  have c0 := h.c0
  clear h
  generalize P.length = m at *
  have e4 : ((m : Int) == 0) = false := beq_eq_false_iff_ne.2 (by omega)
  have e5 : (m == 0) = false := beq_eq_false_iff_ne.2 (by omega)
  go_enter Try.func32, Try.ntmps32
  go_wp2
  go_ret
  exact ⟨by first | rfl | go_num, rfl⟩
set_option maxHeartbeats 1000000 in
set_option maxRecDepth 100000 in
theorem rfirst_any (u q : Nat) (P : List Nat) (s : ByteArray) (w : World) (h : PlAt u q P w) (hm : P.length ≤ 16777216) (h0 : 0 < P.length) (hs : s.size ≤ 1048576) :
    Calls Try.prog 31 #[.pointer (some ⟨u, 0, none⟩), .string s] w fun e w' => e = .returned (.int .i64 (hashN s % P.length : Nat)) ∧ ∃ x, w' = w.drewN x := by
  have c0 := h.c0
  clear h
  have hh64 : hashN s < 18446744073709551616 := by rw [← hashTo_all]; exact hashTo_lt _ _
  have C := Lib.hid (fun n => (rhash_any s (w.drewN n) (by omega)).mono (fun e w' (h : e = .returned (.int .u64 (hashN s)) ∧ w.drewN n = w') => (show e = .returned (.int .u64 (hashN s)) ∧ ∃ x, w' = (w.drewN n).drewN x from ⟨h.1, 0, h.2.symm⟩)))
  generalize P.length = m at *
  generalize hashN s = hh at *
  obtain ⟨st, hst⟩ : ∃ st, hh % m = st := ⟨_, rfl⟩
  rw [hst]
  have hstm : st < m := by rw [← hst]; exact Nat.mod_lt _ h0
  have e1 : Int.tmod (hh : Int) (m : Int) = (st : Int) := by rw [Int.tmod_eq_emod_of_nonneg (by omega)]; rw [← hst]; rfl
  have e2 : IntKind.u64.wrap (m : Int) = (m : Int) := by simp [IntKind.wrap, IntKind.bits, IntKind.signed]; omega
  have e3 : IntKind.i64.wrap (st : Int) = (st : Int) := IntWalk.i64_in _ (by omega)
  have e4 : ((m : Int) == 0) = false := beq_eq_false_iff_ne.2 (by omega)
  have e5 : (m == 0) = false := beq_eq_false_iff_ne.2 (by omega)
  clear hst hh64
  go_enter Try.func31, Try.ntmps31
  go_wp2_with fail
  go_quiet ((go_at_call 8; exact Calls.quiet_of (C.out _)))
  go_wp2
  go_ret
  exact ⟨rfl, _, rfl⟩
end Go.Proofs.Ytkleaedfpgaohaa
