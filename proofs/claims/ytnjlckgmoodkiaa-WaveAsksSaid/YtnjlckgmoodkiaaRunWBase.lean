/-
  THE LANDED PACKAGE wave: its small functions, one level's questions, and how a Wave lies in memory.
-/
import Derived.Test.YtnjlckgmoodkiaaRunKept
import Derived.Test.YtnjlckgmoodkiaaRunBitC
import Derived.Test.YtnjlckgmoodkiaaRunSize
import Derived.Test.YtnjlckgmoodkiaaRunWid
import Derived.Test.YtnjlckgmoodkiaaWavMat
import Derived.Test.YtnjlckgmoodkiaaWavSaid
import Derived.Deep.RegionHeld3
import Derived.RegionTactic
import Derived.BigRegion
import Derived.Handy
namespace Go.Proofs.Ytnjlckgmoodkiaa
open Go.RowKit

theorem and_one_i64 (m : Nat) (h : m ≤ 9000000000000000000) : bits .and .i64 (m : Int) 1 = ((m % 2 : Nat) : Int) := by
  have := bits_mask .i64 63 (by decide) (fun n h0 h1 => by rw [IntKind.wrap_i64]; omega) 1 (by decide) (m : Int) (by omega) (by omega)
  rw [Int.natCast_emod]
  exact this
theorem bit_one (m b : Nat) (h : m ≤ 9000000000000000000) : (bits .and .i64 ((m : Int) / 2 ^ b) 1 == 1) = m.testBit b := by
  have hd : m / 2 ^ b ≤ m := Nat.div_le_self _ _
  have e : ((m : Int) / 2 ^ b) = ((m / 2 ^ b : Nat) : Int) := by rw [Int.natCast_ediv, Int.natCast_pow]; rfl
  rw [e, and_one_i64 _ (by omega), Nat.testBit_eq_decide_div_mod_eq, Bool.eq_iff_iff]
  simp
  omega
set_option maxHeartbeats 1000000 in
set_option maxRecDepth 100000 in
theorem risset_any (x : Int) (b : Nat) (w : World) (h0 : 0 ≤ x) (h1 : x ≤ 1048576) (hb : b ≤ 63) :
    Calls Try.prog 34 #[.int .i64 x, .int .i64 b] w fun e w' => e = .returned (.bool (bitW x b)) ∧ w = w' := by
  obtain ⟨m, rfl⟩ : ∃ m : Nat, x = (m : Int) := ⟨x.toNat, by omega⟩
  have HV := Lib.hid (bit_one m b (by omega))
  have HW : Hid (bitW (m : Int) b = m.testBit b) := Lib.hid (by unfold bitW; rw [Int.toNat_natCast])
  go_enter Try.func34, Try.ntmps34
  go_wp2
  go_ret
  exact ⟨by rw [HW.out, ← HV.out]; rfl, rfl⟩

/-! ### one level -/
/-- a level's bits, kept below block lt, and the count of steps s, in block sb -/
structure LevIn (lb lt sb : Nat) (a : Addr) (bs : List Bool) (s : Nat) (w : World) : Prop where
  kept : KeptIn lb lt w (.pointer (some a)) bs
  len : bs.length ≤ 4194304
  sT : lt ≤ sb
  sr : w.rowIs sb 3 1 (fun _ => .int .i64 s)
section
variable {lb lt sb s t : Nat} {a : Addr} {bs : List Bool} {w w' : World}
theorem LevIn.low (h : LevIn lb lt sb a bs s w) : lt ≤ w.heap.size := by have := h.sT; have := h.sr.lt; omega
theorem LevIn.went (h : LevIn lb lt sb a bs s w) (k : Went sb t w w') : LevIn lb lt sb a bs t w' := ⟨k.keptIn h.sT h.low h.kept, h.len, h.sT, k.row⟩
theorem LevIn.other (h : LevIn lb lt sb a bs s w) (k : Below w.heap.size w w') : LevIn lb lt sb a bs s w' := h.went (Went.stay h.sr k)
set_option maxHeartbeats 1000000 in
set_option maxRecDepth 100000 in
theorem rlat_any (B : Nat) (v : Value) (xs : List Bool) (k : Int) (w : World) (hk64 : In64 k) (hx : xs.length ≤ 4194304) (hk : Kept B w v xs) :
    Calls Try.prog 38 #[.agg #[v], .int .i64 k] w fun e w' => e = .returned (.bool (getB xs k)) ∧ Below w.heap.size w w' := by
  have HB := Lib.hid (fun c t => (Below.refl w.heap.size w).alloc (Nat.le_refl _) (.cells c t))
  have CL := Lib.hid (fun c t => rget_any B v xs k (w.alloc (.cells c t)) (kept_keep B w _ v xs hk fun k _ h => (HB.out c t).block k h) hx hk64)
  clear hk
  go_enter Try.func38, Try.ntmps38
  go_wp2_with fail
  refine (CL.out _ _).mono ?_
  rintro e w' ⟨rfl, rfl⟩
  go_wp2
  go_ret
  exact ⟨rfl, HB.out _ _⟩
set_option maxHeartbeats 1000000 in
set_option maxRecDepth 100000 in
theorem rlrank_any (k : Int) (bit : Bool) (w : World) (hs : s ≤ 1000000) (h : LevIn lb lt sb a bs s w) :
    Calls Try.prog 40 #[.agg #[.pointer (some a)], .int .i64 k, .bool bit, .pointer (some ⟨sb, 0, none⟩)] w fun e w' => e = .returned (.int .i64 (rankL bs k bit)) ∧ Went sb (s + 1) w w' := by
  have HW0 := Lib.hid (fun c t => Went.stay h.sr ((Below.refl w.heap.size w).alloc (Nat.le_refl _) (.cells c t)))
  have HC1 := Lib.hid (fun c t => ((HW0.out c t).row.cell (i := 0) Nat.one_pos))
  have HC2 := Lib.hid (fun c t => ((HW0.out c t).row.frozen 0))
  have h1 := HC1.out #[.pointer (some a)] 49
  have h2 := HC2.out #[.pointer (some a)] 49
  have HW := Lib.hid (fun (x : Int) (hx : x = ((s + 1 : Nat) : Int)) => (HW0.out #[.pointer (some a)] 49).set x hx)
  have CG := Lib.hid (fun (x : Int) (hy : x = ((s + 1 : Nat) : Int)) => rrank_any lb (.pointer (some a)) bs k bit _ ((HW.out x hy).keptIn h.sT h.low h.kept).kept h.len)
  have h3 := box_cell w (.pointer (some a)) (.int .i64 ((s : Int) + 1)) 49 sb h.sr.lt
  clear h HW0 HC1 HC2
  go_enter Try.func40, Try.ntmps40
  go_wp2_with fail
  refine (CG.out ((s : Int) + 1) (by omega)).mono ?_
  rintro e w' ⟨rfl, n, rfl⟩
  go_wp2
  go_ret
  exact ⟨rfl, (HW.out _ (by omega)).other (drewN_below (Below.refl _ _) n)⟩
set_option maxHeartbeats 1000000 in
set_option maxRecDepth 100000 in
theorem rlfind_any (k : Int) (bit : Bool) (w : World) (hs : s ≤ 1000000) (h : LevIn lb lt sb a bs s w) :
    Calls Try.prog 42 #[.agg #[.pointer (some a)], .int .i64 k, .bool bit, .pointer (some ⟨sb, 0, none⟩)] w fun e w' => e = .returned (.int .i64 (selL bs k bit)) ∧ Went sb (s + 1) w w' := by
  have HW0 := Lib.hid (fun c t => Went.stay h.sr ((Below.refl w.heap.size w).alloc (Nat.le_refl _) (.cells c t)))
  have HC1 := Lib.hid (fun c t => ((HW0.out c t).row.cell (i := 0) Nat.one_pos))
  have HC2 := Lib.hid (fun c t => ((HW0.out c t).row.frozen 0))
  have h1 := HC1.out #[.pointer (some a)] 49
  have h2 := HC2.out #[.pointer (some a)] 49
  have HW := Lib.hid (fun (x : Int) (hx : x = ((s + 1 : Nat) : Int)) => (HW0.out #[.pointer (some a)] 49).set x hx)
  have CG := Lib.hid (fun (x : Int) (hy : x = ((s + 1 : Nat) : Int)) => rsel_any lb (.pointer (some a)) bs k bit _ ((HW.out x hy).keptIn h.sT h.low h.kept).kept h.len)
  have h3 := box_cell w (.pointer (some a)) (.int .i64 ((s : Int) + 1)) 49 sb h.sr.lt
  clear h HW0 HC1 HC2
  go_enter Try.func42, Try.ntmps42
  go_wp2_with fail
  refine (CG.out ((s : Int) + 1) (by omega)).mono ?_
  rintro e w' ⟨rfl, hb⟩
  go_wp2
  go_ret
  exact ⟨rfl, (HW.out _ (by omega)).other hb⟩
set_option maxHeartbeats 1000000 in
set_option maxRecDepth 100000 in
theorem rlsize_any (B : Nat) (v : Value) (xs : List Bool) (w : World) (hx : xs.length ≤ 4194304) (hk : Kept B w v xs) :
    Calls Try.prog 72 #[.agg #[v]] w fun e w' => e = .returned (.int .i64 (bitsN xs.length)) ∧ Below w.heap.size w w' := by
  have HB := Lib.hid (fun c t => (Below.refl w.heap.size w).alloc (Nat.le_refl _) (.cells c t))
  have CL := Lib.hid (fun c t => rsize_any B v xs (w.alloc (.cells c t)) (kept_keep B w _ v xs hk fun k _ h => (HB.out c t).block k h) hx)
  clear hk
  go_enter Try.func72, Try.ntmps72
  go_wp2_with fail
  refine (CL.out _ _).mono ?_
  rintro e w' ⟨rfl, rfl⟩
  go_wp2
  go_ret
  exact ⟨rfl, HB.out _ _⟩
/-- a level in hand, with the receiver's own cell, in block b -/
structure LevBox (lb lt sb b : Nat) (a : Addr) (bs : List Bool) (s : Nat) (w : World) : Prop where
  lev : LevIn lb lt sb a bs s w
  bsb : b ≠ sb
  lt : b < w.heap.size
  cell : w.cell? ⟨b, 0, none⟩ = some (.pointer (some a))
theorem LevBox.went {b : Nat} (h : LevBox lb lt sb b a bs s w) (k : Went sb t w w') : LevBox lb lt sb b a bs t w' :=
  ⟨h.lev.went k, h.bsb, Nat.lt_of_lt_of_le h.lt k.apart.size, (World.cell?_of_block (w := w) (a := ⟨b, 0, none⟩) (k.apart.block b h.lt (by have := h.bsb; omega))).trans h.cell⟩
theorem LevBox.other {b : Nat} (h : LevBox lb lt sb b a bs s w) (k : Below w.heap.size w w') : LevBox lb lt sb b a bs s w' := h.went (Went.stay h.lev.sr k)
theorem levbox_new (h : LevIn lb lt sb a bs s w) (t : TypeId) : LevBox lb lt sb w.heap.size a bs s (w.alloc (.cells #[.pointer (some a)] t)) :=
  ⟨h.other ((Below.refl w.heap.size w).alloc (Nat.le_refl _) _), by have := h.sr.lt; omega, (new_box w (.pointer (some a)) t).lt, (new_box w (.pointer (some a)) t).cell (i := 0) Nat.one_pos⟩
theorem LevBox.len {b : Nat} (h : LevBox lb lt sb b a bs s w) : Calls Try.prog 46 #[.pointer (some a)] w fun e w' => e = .returned (.int .i64 bs.length) ∧ w = w' := rlen_any lb _ bs w h.lev.kept.kept
theorem LevBox.rank {b : Nat} (h : LevBox lb lt sb b a bs s w) (hs : s ≤ 1000000) (k : Int) (bit : Bool) :
    Calls Try.prog 40 #[.agg #[.pointer (some a)], .int .i64 k, .bool bit, .pointer (some ⟨sb, 0, none⟩)] w fun e w' => e = .returned (.int .i64 (rankL bs k bit)) ∧ LevBox lb lt sb b a bs (s + 1) w' ∧ Went sb (s + 1) w w' :=
  (rlrank_any k bit w hs h.lev).mono fun _ _ hp => ⟨hp.1, h.went hp.2, hp.2⟩
set_option maxHeartbeats 2000000 in
set_option maxRecDepth 100000 in
theorem rlahead_any (bit : Bool) (w : World) (hs : s ≤ 1000000) (h : LevIn lb lt sb a bs s w) :
    Calls Try.prog 39 #[.agg #[.pointer (some a)], .bool bit, .pointer (some ⟨sb, 0, none⟩)] w fun e w' => e = .returned (.int .i64 (aheadL bs bit)) ∧ ∃ d, d ≤ 1 ∧ Went sb (s + d) w w' := by
  have HB := Lib.hid (fun t => levbox_new h t)
  have HW := Lib.hid (fun c t => Went.stay h.sr ((Below.refl w.heap.size w).alloc (Nat.le_refl _) (.cells c t)))
  clear h
  cases bit with
  | false =>
    go_enter Try.func39, Try.ntmps39
    go_wp2
    go_ret
    exact ⟨rfl, 0, by omega, HW.out _ _⟩
  | true =>
    have hB := HB.out 49
    have hM := hB.other (Below.refl _ _).drew
    have hc := hB.cell
    have HL := Lib.hid (show aheadL bs true = rankL bs (bs.length : Nat) false by unfold aheadL rankL; rw [Int.toNat_natCast]; rfl)
    go_enter Try.func39, Try.ntmps39
    go_wp2_with fail
    go_region_held3 (fun W => W.cell? ⟨w.heap.size, 0, none⟩ = some (.pointer (some a)))
      (first | exact (‹LevBox lb lt sb w.heap.size a bs _ _›).cell | assumption)
      (first | ((go_at_call 46; refine (LevBox.len (s := s) ‹LevBox lb lt sb w.heap.size a bs _ _›).mono ?_; rintro o u ⟨rfl, rfl⟩)) | ((go_at_call 40; refine (LevBox.rank (s := s) ‹LevBox lb lt sb w.heap.size a bs _ _› hs _ _).mono ?_; rintro o u ⟨rfl, hM2, hW2⟩)))
    go_wp2
    go_ret
    exact ⟨by rw [HL.out]; rfl, 1, by omega, ((HW.out _ _).other (Below.refl _ _).drew).trans hW2⟩
end
/-! ### how a Wave lies in memory -/
/-- the parts -/
def levV (ba : Nat → Addr) (i : Nat) : Value := .iface 49 (.agg #[.pointer (some (ba i))])
/-- THE LEVELS OF A Wave of xs, in blocks from B to below T; block p, the Wave itself, is none of theirs. -/
structure InW (B T p q L cap : Nat) (qa : Option Addr) (lb lt : Nat → Nat) (ba : Nat → Addr) (xs : List Int) (sigma : Int) (w : World) : Prop where
  may : maySyms xs sigma = true
  len : xs.length ≤ 1048576
  lev : L = levelsN sigma
  lcap : L ≤ cap
  pB : B ≤ p
  pT : p < T
  qs : 1 ≤ L → qa = some ⟨q, 0, none⟩ ∧ B ≤ q ∧ q < T ∧ q ≠ p
  size : T ≤ w.heap.size
  lvs : ∀ i, i < L → B ≤ lb i ∧ lt i ≤ T ∧ p < lb i
  kept : ∀ i, i < L → KeptIn (lb i) (lt i) w (.pointer (some (ba i))) (bitsL xs L i)
  parts : ∀ i, i < L → w.cell? ⟨q, i, none⟩ = some (levV ba i)
theorem InW.keep {B T p q L cap : Nat} {qa : Option Addr} {lb lt : Nat → Nat} {ba : Nat → Addr} {xs : List Int} {sigma : Int} {w w' : World} (h : InW B T p q L cap qa lb lt ba xs sigma w) (hs : w.heap.size ≤ w'.heap.size) (hk : ∀ k, B ≤ k → k < T → k ≠ p → w'.heap[k]? = w.heap[k]?) : InW B T p q L cap qa lb lt ba xs sigma w' :=
  ⟨h.may, h.len, h.lev, h.lcap, h.pB, h.pT, h.qs, Nat.le_trans h.size hs, h.lvs, fun i hi => (h.kept i hi).keep fun k h1 h2 => by
      obtain ⟨g1, g2, g3⟩ := h.lvs i hi
      exact hk k (by omega) (by omega) (by omega),
    fun i hi => (World.cell?_of_block (w := w) (a := ⟨q, i, none⟩) (by
      obtain ⟨_, g1, g2, g3⟩ := h.qs (by omega)
      exact hk q g1 g2 g3)).trans (h.parts i hi)⟩
/-- block p holds the Wave: how many, sigma, its parts, its last count of steps -/
def WaV (p n L cap st : Nat) (qa : Option Addr) (sigma : Int) (w : World) : Prop := w.rowIs p 44 4 (fun i => if i = 0 then .int .i64 n else if i = 1 then .int .i64 sigma else if i = 2 then .slice qa L cap else .int .i64 st)
/-- IN THE MIDST OF A QUESTION: the Wave as it was, the count of steps s in block sb. -/
structure MidW (B T p q L cap st sb : Nat) (qa : Option Addr) (lb lt : Nat → Nat) (ba : Nat → Addr) (xs : List Int) (sigma : Int) (s : Nat) (w : World) : Prop where
  inw : InW B T p q L cap qa lb lt ba xs sigma w
  pa : WaV p xs.length L cap st qa sigma w
  sT : T ≤ sb
  sr : w.rowIs sb 3 1 (fun _ => .int .i64 s)
section
variable {B T p q L cap st sb s t : Nat} {qa : Option Addr} {lb lt : Nat → Nat} {ba : Nat → Addr} {xs : List Int} {sigma : Int} {w w' : World}
theorem MidW.went (h : MidW B T p q L cap st sb qa lb lt ba xs sigma s w) (k : Went sb t w w') : MidW B T p q L cap st sb qa lb lt ba xs sigma t w' :=
  ⟨h.inw.keep k.apart.size fun i _ h2 _ => k.apart.block i (by have := h.inw.size; omega) (Or.inl (by have := h.sT; omega)), h.pa.of_block (k.apart.block p (by have := h.inw.size; have := h.inw.pT; omega) (Or.inl (by have := h.sT; have := h.inw.pT; omega))), h.sT, k.row⟩
theorem MidW.other (h : MidW B T p q L cap st sb qa lb lt ba xs sigma s w) (k : Below w.heap.size w w') : MidW B T p q L cap st sb qa lb lt ba xs sigma s w' := h.went (Went.stay h.sr k)
theorem WaV.num {n : Nat} (h : WaV p n L cap st qa sigma w) : w.cell? ⟨p, 0, none⟩ = some (.int .i64 n) := h.cell (i := 0) (by decide)
theorem WaV.sig {n : Nat} (h : WaV p n L cap st qa sigma w) : w.cell? ⟨p, 1, none⟩ = some (.int .i64 sigma) := h.cell (i := 1) (by decide)
theorem WaV.slc {n : Nat} (h : WaV p n L cap st qa sigma w) : w.cell? ⟨p, 2, none⟩ = some (.slice qa L cap) := h.cell (i := 2) (by decide)
theorem WaV.stp {n : Nat} (h : WaV p n L cap st qa sigma w) : w.cell? ⟨p, 3, none⟩ = some (.int .i64 st) := h.cell (i := 3) (by decide)
theorem MidW.few (h : MidW B T p q L cap st sb qa lb lt ba xs sigma s w) : L ≤ 20 := by rw [h.inw.lev]; exact levels_few (may_sigma h.inw.may).2
theorem MidW.levIn (h : MidW B T p q L cap st sb qa lb lt ba xs sigma s w) {i : Nat} (hi : i < L) : LevIn (lb i) (lt i) sb (ba i) (bitsL xs L i) s w :=
  ⟨h.inw.kept i hi, by rw [bitsL_length]; have := h.inw.len; omega, by have := (h.inw.lvs i hi).2.1; have := h.sT; omega, h.sr⟩
theorem as_level (v : Value) (w : World) : (Instr.typeAssert (.iface 49 v) 53 49 false).run Try.prog w = .ok v w := by kernel_rfl
set_option maxHeartbeats 1000000 in
set_option maxRecDepth 100000 in
theorem rlevel_any (p q L cap i : Nat) (a : Addr) (w : World) (hi : i < L) (h0 : w.cell? ⟨p, 2, none⟩ = some (.slice (some ⟨q, 0, none⟩) L cap)) (h1 : w.cell? ⟨q, i, none⟩ = some (.iface 49 (.agg #[.pointer (some a)]))) :
    Calls Try.prog 37 #[.pointer (some ⟨p, 0, none⟩), .int .i64 i] w fun e w' => e = .returned (.agg #[.pointer (some a)]) ∧ Below w.heap.size w w' := by
  have hpb := World.block_lt_of_cell? w _ h0
  have hqb := World.block_lt_of_cell? w _ h1
  have HB := Lib.hid (fun c t => (Below.refl w.heap.size w).alloc (Nat.le_refl _) (.cells c t))
  have H0 := Lib.hid (fun c t => ((HB.out c t).cell (p := ⟨p, 2, none⟩) hpb).trans h0)
  have H1 := Lib.hid (fun c t => ((HB.out c t).cell (p := ⟨q, i, none⟩) hqb).trans h1)
  have g0 := H0.out #[.pointer none] 49
  have g1 := H1.out #[.pointer none] 49
  have a1 := fun (w : World) => as_level (.agg #[.pointer (some a)]) w
  go_enter Try.func37, Try.ntmps37
  go_wp2
  go_returns
  exact ⟨rfl, HB.out _ _⟩
theorem MidW.level (h : MidW B T p q L cap st sb qa lb lt ba xs sigma s w) {i : Nat} (hi : i < L) :
    Calls Try.prog 37 #[.pointer (some ⟨p, 0, none⟩), .int .i64 i] w fun e w' => e = .returned (.agg #[.pointer (some (ba i))]) ∧ Below w.heap.size w w' := by
  have h1 := h.pa.slc
  rw [(h.inw.qs (by omega)).1] at h1
  exact rlevel_any p q L cap i (ba i) w hi h1 (h.inw.parts i hi)
set_option maxHeartbeats 1000000 in
set_option maxRecDepth 100000 in
theorem rbit_any (p L cap i : Nat) (x : Int) (qa : Option Addr) (w : World) (hL : L ≤ 20) (hi : i < L) (h0 : 0 ≤ x) (h1 : x ≤ 1048576) (hc : w.cell? ⟨p, 2, none⟩ = some (.slice qa L cap)) :
    Calls Try.prog 41 #[.pointer (some ⟨p, 0, none⟩), .int .i64 x, .int .i64 i] w fun e w' => e = .returned (.bool (bitW x (L - 1 - i))) ∧ w = w' := by
  obtain ⟨m, hm⟩ : ∃ m, L - 1 - i = m := ⟨_, rfl⟩
  have e : (L : Int) - 1 - (i : Int) = (m : Int) := by omega
  rw [hm]
  have CI := Lib.hid (risset_any x m w h0 h1 (by omega))
  go_enter Try.func41, Try.ntmps41
  go_wp2_with fail
  refine CI.out.mono ?_
  rintro o u ⟨rfl, rfl⟩
  go_wp2
  go_ret
  exact ⟨rfl, rfl⟩
theorem MidW.bit (h : MidW B T p q L cap st sb qa lb lt ba xs sigma s w) {i : Nat} (hi : i < L) {x : Int} (h0 : 0 ≤ x) (h1 : x ≤ 1048576) :
    Calls Try.prog 41 #[.pointer (some ⟨p, 0, none⟩), .int .i64 x, .int .i64 i] w fun e w' => e = .returned (.bool (bitW x (L - 1 - i))) ∧ w = w' :=
  rbit_any p L cap i x qa w h.few hi h0 h1 h.pa.slc
set_option maxHeartbeats 1000000 in
set_option maxRecDepth 100000 in
theorem rwlen_any (p n : Nat) (w : World) (hc : w.cell? ⟨p, 0, none⟩ = some (.int .i64 n)) :
    Calls Try.prog 10 #[.pointer (some ⟨p, 0, none⟩)] w fun e w' => e = .returned (.int .i64 n) ∧ w = w' := by
  go_enter Try.func10, Try.ntmps10
  go_wp2
  go_ret
  exact ⟨rfl, rfl⟩
set_option maxHeartbeats 1000000 in
set_option maxRecDepth 100000 in
theorem rwlenNil_any (w : World) : Calls Try.prog 10 #[.pointer none] w fun e w' => e = .returned (.int .i64 0) ∧ w = w' := by
  go_enter Try.func10, Try.ntmps10
  go_wp2
  go_ret
  exact ⟨rfl, rfl⟩
set_option maxHeartbeats 1000000 in
set_option maxRecDepth 100000 in
theorem rwsteps_any (p st : Nat) (w : World) (hc : w.cell? ⟨p, 3, none⟩ = some (.int .i64 st)) :
    Calls Try.prog 30 #[.pointer (some ⟨p, 0, none⟩)] w fun e w' => e = .returned (.int .i64 st) ∧ w = w' := by
  go_enter Try.func30, Try.ntmps30
  go_wp2
  go_ret
  exact ⟨rfl, rfl⟩
set_option maxHeartbeats 1000000 in
set_option maxRecDepth 100000 in
/-- the count is put into the Wave -/
theorem rasked_any {n : Nat} (t : Nat) (w : World) (h : WaV p n L cap st qa sigma w) :
    Calls Try.prog 29 #[.pointer (some ⟨p, 0, none⟩), .int .i64 t] w fun e w' => e = .returned (.tuple #[]) ∧ w' = w.setCell ⟨p, 3, none⟩ (.int .i64 t) := by
  have c1 := h.cell (i := 3) (by decide)
  have c2 := h.frozen 3
  clear h
  go_enter Try.func29, Try.ntmps29
  go_wp2
  go_end0
  exact ⟨rfl, rfl⟩
set_option maxHeartbeats 1000000 in
set_option maxRecDepth 100000 in
theorem raskedNil_any (t : Nat) (w : World) : Calls Try.prog 29 #[.pointer none, .int .i64 t] w fun e w' => e = .returned (.tuple #[]) ∧ w' = w := by
  go_enter Try.func29, Try.ntmps29
  go_wp2
  go_end0
  exact ⟨rfl, rfl⟩
end
end Go.Proofs.Ytnjlckgmoodkiaa
