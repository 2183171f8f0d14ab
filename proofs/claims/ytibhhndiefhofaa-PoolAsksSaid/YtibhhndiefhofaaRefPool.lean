/-
  THE CONTRACT OF brackenref1.PoolSize.
-/
import Derived.Test.YtibhhndiefhofaaStrsAt
import Derived.Test.YtibhhndiefhofaaPoolLaws
import Derived.Test.YtibhhndiefhofaaRefOff
import Derived.Test.YtibhhndiefhofaaOwnSyms
namespace Go.Proofs.Ytibhhndiefhofaa
open Go.RowKit

set_option maxHeartbeats 4000000 in
set_option maxRecDepth 100000 in
theorem refPoolSize_any (a : Option Addr) (cap : Nat) (ss : List ByteArray) (w : World) (hl : ss.length ≤ 100000) (hs : bytesN ss ≤ 8388608) (hr : StrOK w (.slice a ss.length cap) ss) :
    Calls Try.prog 12 #[.slice a ss.length cap] w fun e w' => e = .returned (.int .i64 (poolN ss)) ∧ Below w.heap.size w w' := by
  have HR := Lib.hid hr
  obtain ⟨i0, hi, hz0, hz1, hz2⟩ := info_parts info_int
  clear hr
  go_enter Try.func12, Try.ntmps12
  go_wp2
  go_loopw [3, 4, 5] (fun v tv iv wr => ∃ (i t : Nat) (xs : List Int) (p : Option Addr) (c : Nat), i ≤ ss.length ∧ iv = .int .i64 i ∧ tv = .int .i64 t ∧ Hid (t = bytesTo ss i) ∧ v = .slice p xs.length c ∧ Hid (xs.length = i) ∧ Hid (xs ++ begFrom t (ss.drop i) = begFrom 0 ss) ∧ OwnI wr w.heap.size v xs ∧ Below w.heap.size w wr) (fun _ _ iv _ => ss.length - (intOf iv).toNat)
  case atStart => exact ⟨0, 0, [], none, 0, Nat.zero_le _, rfl, rfl, Lib.hid rfl, rfl, Lib.hid rfl, Lib.hid rfl, World.ownsRow_nil _ _ _ _, Below.refl _ _⟩
  case round =>
    obtain ⟨i, t, xs, p, c, hil, rfl, rfl, HT, rfl, HXI, HBG, hown, hbel⟩ := hrel
    have hxl : xs.length ≤ 100000 := by have := HXI.out; omega
    have htb : t ≤ 8388608 := by have := HT.out; have := bytesTo_le ss i; omega
    have hsz := hbel.size
    have hown0 : wr.ownsRow w.heap.size 3 1 (.slice p xs.length c) xs.length (xs.map ival) := hown
    have hblk := ownI_block hown
    by_cases hlt : i < ss.length
    · obtain ⟨g, off, rfl, hg, hcell⟩ := HR.out.cell i hlt
      obtain ⟨s, hss⟩ : ∃ s, strAt ss i = s := ⟨_, rfl⟩
      have hcw : w.cell? ⟨g, off + i, none⟩ = some (.string s) := by rw [← hss]; exact hcell i hlt
      have HC := Lib.hid hcw
      have HN := Lib.hid (bytesTo_next ss i s hlt hss)
      have HD := Lib.hid (begFrom_drop ss t i s hlt hss)
      have htb2 : t + s.size ≤ 8388608 := by have := HT.out; have := HN.out; have := bytesTo_le ss (i + 1); omega
      clear hcell hss hcw
      by_cases hi0 : i = 0
      · subst hi0
        rw [Nat.add_zero] at HC
        go_wp2_with (at_builtin; refine wpList_append_own _ rfl _ _ 50 rfl w.heap.size 3 i0 (.int .i64 0) 1 8 Try.underlying50 hi hz0 hz1 hz2 rfl (by decide) _ _ _ rfl (hown0.alloc _) ⟨wr.heap.size, 0, none⟩ 1 1 [.int .i64 (t : Int)] rfl rfl (cell_one_new _ _ _) (by intro u hu; simp at hu; subst hu; rfl) (by unfold maxLen; omega) (by omega) (by simp; omega) ?_; intro v' w2 hown3 hgrow3 _; have hown4 : OwnI w2 w.heap.size v' (xs ++ [(t : Int)]) := ownI_next _ hown3; obtain ⟨a4, c4, rfl⟩ := ownI_slice1 hown4; have hbel2 : Below w.heap.size w w2 := (hbel.alloc hbel.size _).grown hgrow3 (by simp; omega) hblk; have hcell2 : w2.cell? ⟨g, off, none⟩ = some (.string s) := by rw [hbel2.cell (p := ⟨g, off, none⟩) hg]; exact HC.out)
        go_roundw
        case rel => exact ⟨0 + 1, t + s.size, xs ++ [(t : Int)], a4, c4, by omega, by go_num, by go_num, Lib.hid (by rw [HN.out, ← HT.out]), by rw [List.length_append]; rfl, Lib.hid (by rw [List.length_append, HXI.out]; rfl), Lib.hid (by rw [← HBG.out, HD.out, List.append_assoc]; rfl), hown4, hbel2⟩
        case measure => first | (simp [intOf]; done) | (simp [intOf]; omega)
      · go_wp2_with (at_builtin; refine wpList_append_own _ rfl _ _ 50 rfl w.heap.size 3 i0 (.int .i64 0) 1 8 Try.underlying50 hi hz0 hz1 hz2 rfl (by decide) _ _ _ rfl (hown0.alloc _) ⟨wr.heap.size, 0, none⟩ 1 1 [.int .i64 (t : Int)] rfl rfl (cell_one_new _ _ _) (by intro u hu; simp at hu; subst hu; rfl) (by unfold maxLen; omega) (by omega) (by simp; omega) ?_; intro v' w2 hown3 hgrow3 _; have hown4 : OwnI w2 w.heap.size v' (xs ++ [(t : Int)]) := ownI_next _ hown3; obtain ⟨a4, c4, rfl⟩ := ownI_slice1 hown4; have hbel2 : Below w.heap.size w w2 := (hbel.alloc hbel.size _).grown hgrow3 (by simp; omega) hblk; have hcell2 : w2.cell? ⟨g, off + i, none⟩ = some (.string s) := by rw [hbel2.cell (p := ⟨g, off + i, none⟩) hg]; exact HC.out)
        go_roundw
        case rel => exact ⟨i + 1, t + s.size, xs ++ [(t : Int)], a4, c4, by omega, by go_num, by go_num, Lib.hid (by rw [HN.out, ← HT.out]), by rw [List.length_append]; rfl, Lib.hid (by rw [List.length_append, HXI.out]; rfl), Lib.hid (by rw [← HBG.out, HD.out, List.append_assoc]; rfl), hown4, hbel2⟩
        case measure => first | (simp [intOf]; done) | (simp [intOf]; omega)
    · have g1 : decide (i < ss.length) = false := decide_eq_false hlt
      have HE : Hid (xs ++ [(t : Int)] = begFrom 0 ss) := Lib.hid (by rw [← HBG.out, List.drop_of_length_le (by omega)]; rfl)
      have HM : Hid (mayOffs (xs ++ [(t : Int)]) = true) := Lib.hid (by rw [HE.out]; exact begFrom_may ss hs)
      have HL : Hid ((xs ++ [(t : Int)]).length ≤ 4194304) := Lib.hid (by rw [List.length_append]; simp; omega)
      have HP : Hid (offsN (xs ++ [(t : Int)]) = poolN ss) := Lib.hid (by rw [HE.out]; rfl)
      go_wp2_with (first | (at_builtin; refine wpList_append_own _ rfl _ _ 50 rfl w.heap.size 3 i0 (.int .i64 0) 1 8 Try.underlying50 hi hz0 hz1 hz2 rfl (by decide) _ _ _ rfl (hown0.alloc _) ⟨wr.heap.size, 0, none⟩ 1 1 [.int .i64 (t : Int)] rfl rfl (cell_one_new _ _ _) (by intro u hu; simp at hu; subst hu; rfl) (by unfold maxLen; omega) (by omega) (by simp; omega) ?_; intro v' w2 hown3 hgrow3 _; have hown4 : OwnI w2 w.heap.size v' (xs ++ [(t : Int)]) := ownI_next _ hown3; have HB2 := Lib.hid ((hbel.alloc hbel.size _).grown hgrow3 (by simp; omega) hblk : Below w.heap.size w w2); have HS2 := Lib.hid (symOK_of hown4); obtain ⟨a4, c4, rfl⟩ := ownI_slice1 hown4) | (refine (refOffsSize_any _ _ (xs ++ [(t : Int)]) _ HL.out HM.out HS2.out.1).mono ?_; rw [HP.out]; rintro e wz ⟨rfl, nd, rfl⟩))
      go_ret
      exact ⟨rfl, HB2.out.trans ⟨rfl, rfl, rfl, Nat.le_refl _, fun _ _ => rfl⟩⟩
end Go.Proofs.Ytibhhndiefhofaa
