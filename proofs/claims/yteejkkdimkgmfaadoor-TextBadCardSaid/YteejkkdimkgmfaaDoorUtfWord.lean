/-
  THE CONTRACT OF unicode/utf8.word AT A SLICE OF BYTES: the number that the first eight bytes spell, the least byte first; the order of the loads is drawn.
-/
import Derived.Test.YteejkkdimkgmfaaDoorOwnBytes
import Derived.Lib.ValidAsc
import Derived.Lib.Endian
import Derived.Lib.EndianBits
import Derived.Laws.BitsAllLaws
import Derived.RegionTactic
import Derived.Deep.Draws
import Derived.Deep.QuietTactic
import Derived.BigQuiet
namespace Go.Proofs.YteejkkdimkgmfaaDoor
open Go.RowKit Go.Lib

/-- the cells from off on hold the bytes of t -/
def CellsAt (w : World) (b off : Nat) (t : ByteArray) : Prop := ∀ i, i < t.size → w.cell? ⟨b, off + i, none⟩ = some (.int .u8 ((t.get! i).toNat : Int))
theorem cells_head {w : World} {b off : Nat} {t : ByteArray} (h : CellsAt w b off t) (h0 : 0 < t.size) : w.cell? ⟨b, off, none⟩ = some (.int .u8 ((t.get! 0).toNat : Int)) := by
  have := h 0 h0
  rwa [Nat.add_zero] at this

set_option maxHeartbeats 8000000 in
set_option maxRecDepth 100000 in
theorem word_any (b off cap : Nat) (t : ByteArray) (w : World) (hs : 8 ≤ t.size) (hc : CellsAt w b off t) :
    Calls Tryd.prog 28 #[.slice (some ⟨b, off, none⟩) t.size cap] w fun e w' => e = .returned (.int .u64 (Lib.leNat [t.get! 0, t.get! 1, t.get! 2, t.get! 3, t.get! 4, t.get! 5, t.get! 6, t.get! 7])) ∧ ∃ q, w' = w.drewN q := by
  obtain ⟨x0, hx0⟩ : ∃ x, t.get! 0 = x := ⟨_, rfl⟩
  have c0 := cells_head hc (by omega)
  have h0 : x0.toNat < 256 := x0.toNat_lt
  rw [hx0] at c0
  obtain ⟨x1, hx1⟩ : ∃ x, t.get! 1 = x := ⟨_, rfl⟩
  have c1 := hc 1 (by omega)
  have h1 : x1.toNat < 256 := x1.toNat_lt
  rw [hx1] at c1
  obtain ⟨x2, hx2⟩ : ∃ x, t.get! 2 = x := ⟨_, rfl⟩
  have c2 := hc 2 (by omega)
  have h2 : x2.toNat < 256 := x2.toNat_lt
  rw [hx2] at c2
  obtain ⟨x3, hx3⟩ : ∃ x, t.get! 3 = x := ⟨_, rfl⟩
  have c3 := hc 3 (by omega)
  have h3 : x3.toNat < 256 := x3.toNat_lt
  rw [hx3] at c3
  obtain ⟨x4, hx4⟩ : ∃ x, t.get! 4 = x := ⟨_, rfl⟩
  have c4 := hc 4 (by omega)
  have h4 : x4.toNat < 256 := x4.toNat_lt
  rw [hx4] at c4
  obtain ⟨x5, hx5⟩ : ∃ x, t.get! 5 = x := ⟨_, rfl⟩
  have c5 := hc 5 (by omega)
  have h5 : x5.toNat < 256 := x5.toNat_lt
  rw [hx5] at c5
  obtain ⟨x6, hx6⟩ : ∃ x, t.get! 6 = x := ⟨_, rfl⟩
  have c6 := hc 6 (by omega)
  have h6 : x6.toNat < 256 := x6.toNat_lt
  rw [hx6] at c6
  obtain ⟨x7, hx7⟩ : ∃ x, t.get! 7 = x := ⟨_, rfl⟩
  have c7 := hc 7 (by omega)
  have h7 : x7.toNat < 256 := x7.toNat_lt
  rw [hx7] at c7
  rw [hx0, hx1, hx2, hx3, hx4, hx5, hx6, hx7]
  clear hx0 hx1 hx2 hx3 hx4 hx5 hx6 hx7 hc
  have hv : Hid (((Lib.leNat [x0, x1, x2, x3, x4, x5, x6, x7] : Nat) : Int) = (x0.toNat : Int) + (x1.toNat : Int) * 256 + (x2.toNat : Int) * 65536 + (x3.toNat : Int) * 16777216 + (x4.toNat : Int) * 4294967296 + (x5.toNat : Int) * 1099511627776 + (x6.toNat : Int) * 281474976710656 + (x7.toNat : Int) * 72057594037927936) := by
    show _ = _
    simp only [Lib.leNat]
    push_cast
    omega
  obtain ⟨n, hn⟩ : ∃ n, t.size = n := ⟨_, rfl⟩
  rw [hn] at hs ⊢
  clear hn
  have q0 : (0 : Int) < (n : Int) := by omega
  have p0 : 0 < n := by omega
  have q1 : (1 : Int) < (n : Int) := by omega
  have p1 : 1 < n := by omega
  have q2 : (2 : Int) < (n : Int) := by omega
  have p2 : 2 < n := by omega
  have q3 : (3 : Int) < (n : Int) := by omega
  have p3 : 3 < n := by omega
  have q4 : (4 : Int) < (n : Int) := by omega
  have p4 : 4 < n := by omega
  have q5 : (5 : Int) < (n : Int) := by omega
  have p5 : 5 < n := by omega
  have q6 : (6 : Int) < (n : Int) := by omega
  have p6 : 6 < n := by omega
  have q7 : (7 : Int) < (n : Int) := by omega
  have p7 : 7 < n := by omega
  go_enter Tryd.func28, Tryd.ntmps28
  go_wp2
  go_quiet ((fail))
  go_wp2
  go_ret
  refine ⟨?_, _, rfl⟩
  simp (disch := omega) only [u64_or8, u64_or16, u64_or24, u64_or32, u64_or40, u64_or48, u64_or56]
  rw [hv.out]
  rfl
end Go.Proofs.YteejkkdimkgmfaaDoor
