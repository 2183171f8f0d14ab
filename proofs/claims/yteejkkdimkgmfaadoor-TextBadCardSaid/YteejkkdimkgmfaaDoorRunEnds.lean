/-
  THE CONTRACT OF text.Ends (as landed): it returns endsT of TextLaws; of what was there before the call nothing turns.
-/
import Derived.Test.YteejkkdimkgmfaaDoorChecked
import Derived.Test.YteejkkdimkgmfaaDoorShelf
import Derived.Test.YteejkkdimkgmfaaDoorRunTextLaws
import Derived.WalkKit
import Derived.WalkSpells
import Derived.WalkLawsBesides
import Derived.LoopTactic
import Derived.Lib.Hide
import Derived.BigCall
namespace Go.Proofs.YteejkkdimkgmfaaDoor
open Go.RowKit

theorem cells_put (a : List UInt8) (x : ByteArray) : Lib.byteCells a ++ Lib.strCells x = Lib.byteCells (a ++ x.data.toList) := by
  rw [Lib.strCells_eq, Lib.byteCells_append]

set_option maxHeartbeats 4000000 in
set_option maxRecDepth 100000 in
theorem ends_any (s : ByteArray) (w : World) (hs : s.size ≤ 4294967296) :
    Calls Tryd.prog 14 #[.string s] w fun e w' => e = .returned (.string (endsT s)) ∧ Below w.heap.size w w' := by
  have cPut := fun (d k : Nat) (wx : World) (hd : d ≤ k) (hk : k ≤ s.size) (hn : No13 s d k) (hI : Lib.IsBuilderF 43 5 w.heap.size w.heap.size (Lib.byteCells (endsN s d)) wx) (hB : w.heap.size ≤ wx.heap.size) =>
    Tryd.Builder_WriteString_k w.heap.size w.heap.size _ (s.extract d k) wx hI (by have := endsN_le s d; rw [Lib.byteCells_length, ByteArray.size_extract]; omega) hB
  have HPut := Lib.hid cPut
  clear cPut
  go_enter Tryd.func14, Tryd.ntmps14
  go_wp2_with fail
  refine (Tryd.Builder_Grow_fresh w.heap.size w.heap.size s.size _ (Nat.le_refl _) ?hbk (by simp) (by omega)).mono ?_
  case hbk =>
    show (w.heap.push (Obj.cells #[.pointer none, .slice none 0 0] 43 (0, 0)))[w.heap.size]? = _
    rw [Array.getElem?_push_size]
  rintro e W1 ⟨rfl, h1, hb1⟩
  have hbw : Below w.heap.size w W1 := ((Below.refl _ w).alloc (Nat.le_refl _) _).trans hb1
  have hz1 : w.heap.size + 1 ≤ W1.heap.size := by have := hb1.size; simpa using this
  have hI := Lib.IsBuilderF.of (Or.inr h1)
  clear h1 hb1
  go_wp2_with fail
  go_loopw [4] (fun d wr => ∃ pos dn : Nat, Lib.IsBuilderF 43 5 w.heap.size w.heap.size (Lib.byteCells (endsN s dn)) wr ∧ wr.heap[W1.heap.size]? = some (.stringIter s pos) ∧ Below w.heap.size w wr ∧ d = .int .i64 dn ∧ dn ≤ pos ∧ pos ≤ s.size ∧ No13 s dn pos) (fun _ wr => s.size - wr.iterPos W1.heap.size)
  case atStart =>
    exact ⟨0, 0, hI.alloc _, World.iter_heap W1 s 0, hbw.alloc hbw.size _, rfl, Nat.le_refl _, Nat.zero_le _, no13_self s 0⟩
  case round =>
    obtain ⟨pos, dn, hI, hit, hb, rfl, hdp, hle, hno⟩ := hrel
    have hsz : W1.heap.size < wr.heap.size := (Array.getElem?_eq_some_iff.1 hit).1
    by_cases hp : pos < s.size
    · have hnx : ∀ ty, (Instr.next (.pointer (some ⟨W1.heap.size, 0, none⟩)) true ty).run Tryd.prog wr = _ := fun ty => Lib.run_next_any_at wr W1.heap.size s pos ty hit hp
      have hw := Lib.width_pos s pos
      have hwl := width_le s pos hp
      have HC := Lib.hid (no13_char s dn pos hp hno)
      have HH := Lib.hid (fun h => char_here s pos 13 hp (by omega) h)
      have hI2 := hI.iterAt hit (pos + (Utf8.decode s pos).2)
      have hit2 := Lib.iterAt_heap wr W1.heap.size s pos (pos + (Utf8.decode s pos).2) hit
      have hb2 := Lib.below_iterAt hb (k := W1.heap.size) (by omega) s (pos + (Utf8.decode s pos).2)
      have hsz2 : w.heap.size ≤ (wr.iterAt W1.heap.size s (pos + (Utf8.decode s pos).2)).heap.size := by rw [Lib.iterAt_size]; omega
      have HT0 := Lib.hid hit
      clear hI hit hb
      obtain ⟨r, hr⟩ : ∃ r : Nat, (Utf8.decode s pos).1 = r := ⟨_, rfl⟩
      obtain ⟨n, hn⟩ : ∃ n : Nat, (Utf8.decode s pos).2 = n := ⟨_, rfl⟩
      simp only [hr, hn] at HC HH hnx hw hwl hI2 hit2 hb2 hsz2
      clear hr hn
      have HI := Lib.hid hI2
      have HT := Lib.hid hit2
      have HN := Lib.hid hno
      clear hI2 hit2 hno
      generalize wr.iterAt W1.heap.size s (pos + n) = wi at *
      by_cases h13 : r = 13
      · obtain ⟨hc, hn1⟩ := HH.out h13
        subst h13
        subst hn1
        clear HC HH
        have q1 : (dn : Int) ≤ (pos : Int) := by omega
        have q2 : (pos : Int) ≤ (s.size : Int) := by omega
        have q3 : (pos : Int) + 1 ≤ (s.size : Int) := by omega
        go_wp2_with fail
        refine (HPut.out dn pos _ hdp hle HN.out HI.out hsz2).mono ?_
        rintro e W2 ⟨rfl, h2, b2, k2⟩
        have hT2 := k2.iter HT.out (by omega)
        rw [cells_put, endsN_piece s dn pos hdp hle HN.out] at h2
        have HI2 := Lib.hid (show Lib.IsBuilderF _ _ _ _ _ W2 from Or.inr h2)
        have hb3 := hb2.trans b2
        have hsz3 : w.heap.size ≤ W2.heap.size := hb3.size
        have HT2 := Lib.hid hT2
        have HCR := Lib.hid (endsN_cr s pos hc)
        have hE := endsN_le s pos
        have cH : ∀ wx, Calls Tryd.prog 24 #[.string (s.extract (pos + 1) s.size), .string ⟨#[10]⟩] wx _ := fun wx => Tryd.strings_HasPrefix (s.extract (pos + 1) s.size) ⟨#[10]⟩ wx
        rw [show (⟨#[10]⟩ : ByteArray).data.toList = [10] from rfl, hasPrefix_ten s (pos + 1) hwl] at cH
        clear h2 b2 k2 hT2 hb2 hsz2 hc
        by_cases hP : pos + 1 < s.size ∧ s.get! (pos + 1) = 10
        · rw [if_pos hP, List.append_nil] at HCR
          rw [decide_eq_true hP] at cH
          clear hP
          go_wp2_with fail
          refine (cH _).mono ?_
          rintro e W3 ⟨rfl, rfl⟩
          go_wp2_with fail
          go_roundw
          case rel => exact ⟨pos + 1, pos + 1, by rw [HCR.out]; exact HI2.out, HT2.out, hb3, by go_num, Nat.le_refl _, hwl, no13_self s _⟩
          case measure => simp only [World.iterPos, HT2.out, HT0.out]; omega
        · rw [if_neg hP] at HCR
          rw [decide_eq_false hP] at cH
          clear hP
          have cB := Tryd.Builder_WriteByte_k w.heap.size w.heap.size (Lib.byteCells (endsN s pos)) 10 W2 HI2.out (by rw [Lib.byteCells_length]; omega) hsz3
          go_wp2_with fail
          refine (cH _).mono ?_
          rintro e W3 ⟨rfl, rfl⟩
          go_wp2_with fail
          refine cB.mono ?_
          rintro e W4 ⟨rfl, h4, b4, k4⟩
          have hT4 := k4.iter HT2.out (by omega)
          have HI4 : Hid (Lib.IsBuilderF 43 5 w.heap.size w.heap.size (Lib.byteCells (endsN s (pos + 1))) W4) := by
            rw [HCR.out, Lib.byteCells_append]
            exact Or.inr h4
          clear h4 cB
          have HT4 := Lib.hid hT4
          clear hT4
          go_wp2_with fail
          go_roundw
          case rel => exact ⟨pos + 1, pos + 1, HI4.out, HT4.out, hb3.trans b4, by go_num, Nat.le_refl _, hwl, no13_self s _⟩
          case measure => simp only [World.iterPos, HT4.out, HT0.out]; omega
      · have HC' := Lib.hid (HC.out h13)
        have a1 : ((r : Int) == 13) = false := beq_eq_false_iff_ne.2 (by omega)
        have a2 : (r == 13) = false := beq_eq_false_iff_ne.2 h13
        have a3 : ((r : Int) != 13) = true := by rw [bne, a1]; rfl
        have a4 : (r != 13) = true := by rw [bne, a2]; rfl
        clear HC HH h13
        go_wp2_with fail
        go_roundw
        case rel => exact ⟨pos + n, dn, HI.out, HT.out, hb2, rfl, by omega, hwl, HC'.out⟩
        case measure => simp only [World.iterPos, HT.out, HT0.out]; omega
    · obtain rfl : pos = s.size := by omega
      have hnx : ∀ ty, (Instr.next (.pointer (some ⟨W1.heap.size, 0, none⟩)) true ty).run Tryd.prog wr = _ := fun ty => Lib.run_next_end_at wr W1.heap.size s s.size ty hit hp
      have HI := Lib.hid hI
      have HN := Lib.hid hno
      have q1 : (dn : Int) ≤ (s.size : Int) := by omega
      have hsz2 : w.heap.size ≤ wr.heap.size := hb.size
      clear hI hno hit
      go_wp2_with fail
      refine (HPut.out dn s.size _ hdp (Nat.le_refl _) HN.out HI.out hsz2).mono ?_
      rintro e W2 ⟨rfl, h2, b2, k2⟩
      rw [cells_put, endsN_piece s dn s.size hdp (Nat.le_refl _) HN.out] at h2
      have HI2 := Lib.hid (show Lib.IsBuilderF _ _ _ _ _ W2 from Or.inr h2)
      have hb3 := hb.trans b2
      have hsz3 : w.heap.size ≤ W2.heap.size := hb3.size
      clear h2 b2 k2
      go_wp2_with fail
      refine (Tryd.Builder_String_any_k w.heap.size w.heap.size _ _ HI2.out hsz3).mono ?_
      rintro e W3 ⟨rfl, _, b3, _⟩
      go_wp2
      go_ret
      exact ⟨rfl, hb3.trans b3⟩
end Go.Proofs.YteejkkdimkgmfaaDoor
