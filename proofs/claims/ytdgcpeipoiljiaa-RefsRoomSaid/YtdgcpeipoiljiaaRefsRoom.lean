/-
  LAYER 12: brackenlaw12.RefsRoom, out of RefsSaid: true for any lengths, any room.
-/
import Derived.Test.YtdgcpeipoiljiaaRefsNm
import Derived.Test.YtdgcpeipoiljiaaSymArg
import Derived.Deep.AppendLies
import Derived.Deep.RegionLaw
import Derived.Laws.BytesArg
import Derived.IntWalk
namespace Go.Proofs.Ytdgcpeipoiljiaa
open Go.RowKit

theorem info_u8R : (Try.prog.info? 5).map (fun i => (i.zero, i.size, i.bytes)) = some (some (.int .u8 0), 1, 1) := by kernel_rfl
theorem make_bytesR (n : Nat) (h : n ≤ 4294967296) (w : World) :
    (Instr.makeSlice 43 (.int .u64 (n : Int)) (.int .u64 (n : Int))).run Try.prog w = .ok (.slice (some ⟨w.heap.size, 0, none⟩) n n) (w.alloc (.cells (madeCells #[.int .u8 0] n) 5)) :=
  run_make_row' 43 5 (.int .u8 0) 1 Try.underlying43 info_u8R rfl .u64 .u64 n (by omega) (by omega) w
theorem conv_zeros (n : Nat) :
    ∃ t : ByteArray, t.size = n ∧ ∀ w : World, (convert 43 9 (.slice (some ⟨w.heap.size, 0, none⟩) n n)).run Try.prog (w.alloc (.cells (madeCells #[.int .u8 0] n) 5)) = .ok (.string t) (w.alloc (.cells (madeCells #[.int .u8 0] n) 5)) := by
  refine ⟨strOfNums (List.replicate n 0), by rw [strOfNums_size, List.length_replicate], fun w => ?_⟩
  exact run_convert_bytes_arg (P := Try.prog) _ 43 5 Try.underlying43 Try.underlying5 w.heap.size 0 n n (List.replicate n 0) List.length_replicate (fun i hi => by
    rw [Nat.zero_add, (World.rowIs_made w (.int .u8 0) n 5).cell hi]
    simp [List.getD, hi]) 9 Try.underlying9
theorem info_entR : ∃ i0, Try.prog.info? 25 = some i0 ∧ i0.zero = some (.agg #[.string ⟨#[]⟩, .string ⟨#[]⟩, .bool false]) ∧ i0.size = 3 ∧ i0.bytes = 40 := by
  obtain ⟨i0, hi, hz⟩ := Option.map_eq_some_iff.1 info_ent
  simp only [Prod.mk.injEq] at hz
  exact ⟨i0, hi, hz.1, hz.2.1, hz.2.2⟩
/-- THE BOX OF WHAT IS DECLARED: entities sl -/
def DecAt (w : World) (D : Nat) (sl : Value) : Prop := w.rowIs D 30 3 (fun i => if i = 0 then .string ⟨#[]⟩ else if i = 1 then sl else .slice none 0 0)
theorem decAt_new (w : World) : DecAt (w.alloc (.cells #[.string ⟨#[]⟩, .slice none 0 0, .slice none 0 0] 30)) w.heap.size (.slice none 0 0) := World.rowIs_alloc w #[.string ⟨#[]⟩, .slice none 0 0, .slice none 0 0] 30 _ (by
  intro i hi
  rcases (show i = 0 ∨ i = 1 ∨ i = 2 by have : i < 3 := hi; omega) with rfl | rfl | rfl <;> rfl)
theorem DecAt.c0 {w : World} {D : Nat} {sl : Value} (h : DecAt w D sl) : w.cell? ⟨D, 0, none⟩ = some (.string ⟨#[]⟩) := World.rowIs.cell h (i := 0) (by decide)
theorem DecAt.c1 {w : World} {D : Nat} {sl : Value} (h : DecAt w D sl) : w.cell? ⟨D, 1, none⟩ = some sl := World.rowIs.cell h (i := 1) (by decide)
theorem DecAt.c2 {w : World} {D : Nat} {sl : Value} (h : DecAt w D sl) : w.cell? ⟨D, 2, none⟩ = some (.slice none 0 0) := World.rowIs.cell h (i := 2) (by decide)
theorem DecAt.set {w : World} {D : Nat} {sl : Value} (h : DecAt w D sl) (s2 : Value) : DecAt (w.setCell ⟨D, 1, none⟩ s2) D s2 := by
  refine (World.rowIs.set h 1 s2).congr fun i hi => ?_
  rcases (show i = 0 ∨ i = 1 ∨ i = 2 by omega) with rfl | rfl | rfl <;> rfl
theorem DecAt.block {w w' : World} {D : Nat} {sl : Value} (h : DecAt w D sl) (hb : w'.heap[D]? = w.heap[D]?) : DecAt w' D sl := World.rowIs.of_block h hb
theorem ownE_same {w w' : World} {base : Nat} {v : Value} {l : List EntD} (h : OwnE w base v l) (hb : ∀ k, v.ownBlock = some k → w'.heap[k]? = w.heap[k]?) : OwnE w' base v l := by
  refine ⟨h.1, ?_⟩
  rcases h.2 with h2 | ⟨g, cap, cur, rfl, hg, hh, h3⟩
  · exact Or.inl h2
  · exact Or.inr ⟨g, cap, cur, rfl, hg, (hb g rfl).trans hh, h3⟩
theorem ent_two (w : World) (M : Obj) (x y z : Value) (t : TypeId) : ((w.alloc M).alloc (.cells #[x, y, z] t)).heap[w.heap.size + 1]? = some (.cells #[x, y, z] t (0, 0)) := by
  have h := ent_new (w.alloc M) x y z t
  rw [show (w.alloc M).heap.size = w.heap.size + 1 by show (w.heap.push _).size = _; rw [Array.size_push]] at h
  exact h
theorem alloc_two (w : World) (M N : Obj) (k : Nat) (hk : k < w.heap.size) : ((w.alloc M).alloc N).heap[k]? = w.heap[k]? := by
  have h1 : (w.alloc M).heap[k]? = w.heap[k]? := Below.heap_alloc w _ k hk
  have h2 : ((w.alloc M).alloc N).heap[k]? = (w.alloc M).heap[k]? := Below.heap_alloc (w.alloc M) _ k (by show k < (w.heap.push _).size; rw [Array.size_push]; omega)
  exact h2.trans h1
theorem ownE_lt {w : World} {base : Nat} {v : Value} {l : List EntD} (h : OwnE w base v l) : ∀ k, v.ownBlock = some k → k < w.heap.size := by
  intro k hk
  rcases h.2 with ⟨rfl, _⟩ | ⟨g, cap, cur, rfl, _, hg, _⟩
  · cases hk
  · simp only [Value.ownBlock, Option.some.injEq] at hk
    subst hk
    exact (Array.getElem?_eq_some_iff.1 hg).1
/-- an entity more -/
theorem ownE_more {w : World} {base : Nat} {v : Value} {l : List EntD} {x t : ByteArray} (nm : List UInt8) (hx : x = bytes nm) (h : w.ownsRow base 25 3 v (l.length + 1) (flatE l ++ [.string x, .string t, .bool false])) : OwnE w base v (l ++ [⟨nm, t.data.toList, false⟩]) := by
  subst hx
  exact ownE_next ⟨nm, t.data.toList, false⟩ h
theorem SymOK.cellR {w : World} {a : Option Addr} {n cap : Nat} {zs : List Int} (h : SymOK w (.slice a n cap) zs) (k : Nat) (hk : k < zs.length) :
    ∃ g off, a = some ⟨g, off, none⟩ ∧ g < w.heap.size ∧ w.cell? ⟨g, off + k, none⟩ = some (.int .i64 (zs.getD k 0)) := by
  rcases h.1 with ⟨a', cap', e, rfl⟩ | ⟨b, off, cap', e, hb, hc⟩
  · cases hk
  · injection e with e1 e2 e3
    exact ⟨b, off, e1, hb, hc k hk⟩
set_option maxHeartbeats 8000000 in
set_option maxRecDepth 100000 in
theorem refsroom_any {Is : (Nat → Prop) → World → Value → RefD → Prop} (S : RefsSaid Is) (v : Value) (m0 : Int) (w : World) (hv : SymArg w v) :
    Calls Try.prog 5 #[v, .int .i64 m0] w fun e w' => e = .returned (.bool true) ∧ Below w.heap.size w w' := by
  obtain ⟨a, cap, zs, rfl, hr, hz64, hl63⟩ := hv
  obtain ⟨i0, hi, hz0, hz1, hz2⟩ := info_entR
  have HR := Lib.hid hr
  clear hr hz64
  obtain ⟨u1, m, hk1, hk2, hk3, hk4, hk5⟩ := wrap_mod m0 401 (by decide) (by decide)
  replace hk2 : Int.tmod (u1 : Int) 401 = (m : Int) := hk2
  have HD0 := Lib.hid (decAt_new w)
  have HB0 := Lib.hid ((Below.refl w.heap.size w).alloc (Nat.le_refl _) (.cells #[.string ⟨#[]⟩, .slice none 0 0, .slice none 0 0] 30))
  obtain ⟨D, hD⟩ : ∃ D, w.heap.size = D := ⟨_, rfl⟩
  have hzl : (w.alloc (.cells #[.string ⟨#[]⟩, .slice none 0 0, .slice none 0 0] 30)).heap.size = D + 1 := by rw [← hD]; show (w.heap.push _).size = _; rw [Array.size_push]
  rw [hD] at HD0
  go_enter Try.func5, Try.ntmps5
  go_wp2
  have HDW := Lib.hid hD
  clear hk1 hk2 hk4 hk5 hD
  obtain ⟨W1, hW1⟩ : ∃ W1, w.alloc (.cells #[.string ⟨#[]⟩, .slice none 0 0, .slice none 0 0] 30) = W1 := ⟨_, rfl⟩
  rw [hW1] at HD0 HB0 hzl ⊢
  clear hW1
  go_loopw [7] (fun iv wr => ∃ (i : Nat) (L : List EntD) (p : Option Addr) (c : Nat), i ≤ zs.length ∧ i ≤ 20 ∧ iv = .int .i64 i ∧ L.length = i ∧ Hid (Lett L) ∧ Hid (DecAt wr D (.slice p i c)) ∧ Hid (OwnE wr (D + 1) (.slice p i c) L) ∧ Hid (Below w.heap.size w wr) ∧ D + 1 ≤ wr.heap.size) (fun iv _ => 20 - (intOf iv).toNat)
  case atStart => exact ⟨0, [], none, 0, Nat.zero_le _, Nat.zero_le _, rfl, rfl, Lib.hid lett_nil, HD0, Lib.hid (World.ownsRow_nil _ _ _ _), HB0, by omega⟩
  case round =>
    clear HD0 HB0 hzl
    obtain ⟨i, L, p, c, hil, hi20, rfl, hLi, HL, HDD, HO, HB, hD1⟩ := hrel
    by_cases hlt : i < zs.length
    · by_cases h20 : i < 20
      · obtain ⟨g, off, rfl, hg, hcell⟩ := HR.out.cellR i hlt
        obtain ⟨z, hzz⟩ : ∃ z, zs.getD i 0 = z := ⟨_, rfl⟩
        rw [hzz] at hcell
        have hcw : wr.cell? ⟨g, off + i, none⟩ = some (.int .i64 z) := (HB.out.cell (p := ⟨g, off + i, none⟩) hg).trans hcell
        obtain ⟨u, x, hu1, hu2, hu3, hu4, hu5⟩ := wrap_mod z 31 (by decide) (by decide)
        replace hu2 : Int.tmod (u : Int) 31 = (x : Int) := hu2
        have hmk := fun W => make_bytesR x (by omega) W
        obtain ⟨t, ht, hcv⟩ := conv_zeros x
        replace hcv : (convert 43 9 (.slice (some ⟨wr.heap.size, 0, none⟩) x x)).run Try.prog (wr.alloc (.cells (madeCells #[.int .u8 0] x) 5)).drew = .ok (.string t) (wr.alloc (.cells (madeCells #[.int .u8 0] x) 5)).drew := hcv wr.drew
        have hcd := HDD.out.c1
        have HLT := Lib.hid (letter_at i h20)
        have HBX := Lib.hid (fun (M N : Obj) => show DecAt ((wr.drew.alloc M).alloc N) D (.slice p i c) from HDD.out.block (alloc_two wr.drew M N D (World.rowIs.lt HDD.out)))
        have HOX := Lib.hid (fun (M N : Obj) => show ((wr.drew.alloc M).alloc N).ownsRow (D + 1) 25 3 (.slice p i c) i (flatE L) from by
          have h := ownE_same HO.out (w' := (wr.drew.alloc M).alloc N) (fun q hq => alloc_two wr.drew M N q (ownE_lt HO.out q hq))
          unfold OwnE at h
          rw [hLi] at h
          exact h)
        have hcd2 : (wr.alloc (.cells (madeCells #[.int .u8 0] x) 5)).cell? ⟨D, 1, none⟩ = some (.slice p i c) := DecAt.c1 (HDD.out.block (Below.heap_alloc wr _ D (World.rowIs.lt HDD.out)))
        have hcd3 : ∀ N, ((wr.alloc (.cells (madeCells #[.int .u8 0] x) 5)).alloc N).cell? ⟨D, 1, none⟩ = some (.slice p i c) := fun N => DecAt.c1 (HDD.out.block (alloc_two wr _ N D (World.rowIs.lt HDD.out)))
        have HOB := Lib.hid (ownE_block HO.out)
        have hliI : (i : Int) < (zs.length : Int) := by omega
        have HHW := Lib.hid hD1
        have hw1 : IntKind.i64.wrap ((i : Int) + 1) = (i : Int) + 1 := IntWalk.i64_in _ (by clear hu1 hu2 hu3 hu4 hu5; omega)
        have hw2 : (0 : Int) ≤ (i : Int) + 1 := by omega
        have hw3 : (i : Int) + 1 ≤ 20 := by omega
        have hw4 : (i : Int) ≤ (i : Int) + 1 := by omega
        go_wp2_with fail
        go_region_law (refine step_append_lies _ (by rfl) _ _ 23 (by rfl) (D + 1) 25 i0 (.agg #[.string ⟨#[]⟩, .string ⟨#[]⟩, .bool false]) 3 40 Try.underlying23 hi hz0 hz1 hz2 rfl (by decide) _ _ _ (by rfl) (HOX.out _ _) ⟨wr.heap.size + 1, 0, none⟩ 1 1 [.string (lettersB.extract i (i + 1)), .string t, .bool false] (by rfl) rfl (World.news_of_block (ent_two _ _ _ _ _ _)) (by intro u hu; simp at hu; rcases hu with rfl | rfl | rfl <;> rfl) (by decide) (by unfold maxLen; omega) (by omega) (by simp; omega) (wr.heap.size + 2) (by simp) ?_; intro g2 cap2 w6 hown6 hgr6 hat6 hlt6; have hp6 : DecAt w6 D (.slice p i c) := (HBX.out _ _).block (hgr6.block D (World.rowIs.lt (HBX.out _ _)) (fun e => by have := HOB.out D e.symm; omega)); have hc6 := hp6.c1; have hf6 := World.rowIs.frozen hp6 1)
        all_goals
          have HD6 := Lib.hid (hp6.set (.slice (some ⟨g2, 0, none⟩) (i + 1) cap2))
          have hon : OwnE w6 (D + 1) (.slice (some ⟨g2, 0, none⟩) (i + 1) cap2) (L ++ [⟨nmL i, t.data.toList, false⟩]) := ownE_more (nmL i) HLT.out (by rw [hLi]; exact hown6)
          have HO6 := Lib.hid (ownE_same hon (w' := w6.setCell ⟨D, 1, none⟩ (.slice (some ⟨g2, 0, none⟩) (i + 1) cap2)) (fun q hq => Below.heap_setCell _ _ _ _ (show q ≠ D by have := ownE_block hon q hq; omega)))
          have HB6 := Lib.hid (Below.setCell (p := ⟨D, 1, none⟩) ((((HB.out.drew).alloc (by have := HB.out.size; exact this) (.cells (madeCells #[.int .u8 0] x) 5)).alloc (by have := HB.out.size; show w.heap.size ≤ (wr.heap.push _).size; rw [Array.size_push]; omega) _).grown hgr6 (by have := HB.out.size; show w.heap.size ≤ ((wr.heap.push _).push _).size; rw [Array.size_push, Array.size_push]; omega) (fun q hq => by have := HOB.out q hq; have := HDW.out; omega)) (by have := HDW.out; show w.heap.size ≤ D; omega) (.slice (some ⟨g2, 0, none⟩) (i + 1) cap2))
          have HL6 : Hid (Lett (L ++ [⟨nmL i, t.data.toList, false⟩])) := Lib.hid (by
            have h := HL.out.next (by omega) t.data.toList (by show t.size ≤ 30; omega)
            rw [hLi] at h
            exact h)
          have HS6 : Hid (D + 1 ≤ (w6.setCell ⟨D, 1, none⟩ (.slice (some ⟨g2, 0, none⟩) (i + 1) cap2)).heap.size) := Lib.hid (World.rowIs.lt HD6.out)
          obtain ⟨W9, hW9⟩ : ∃ W9, w6.setCell ⟨D, 1, none⟩ (.slice (some ⟨g2, 0, none⟩) (i + 1) cap2) = W9 := ⟨_, rfl⟩
          rw [hW9] at HD6 HO6 HB6 HS6 ⊢
          clear hW9 hp6 hc6 hf6 hown6 hgr6 hat6 hlt6 hon HBX HOX HOB hcd hcd2 hcd3 hcv hmk hcw hcell hu1 hu2 hu3 hu4 hu5 hw1 hw2 hw3 hw4
          go_wp2
          go_roundw
          case rel => exact ⟨i + 1, L ++ [⟨nmL i, t.data.toList, false⟩], _, cap2, by omega, by omega, by go_num, by rw [List.length_append, hLi]; rfl, HL6, HD6, HO6, HB6, HS6.out⟩
          case measure => simp [intOf]; omega
      · have g0 : decide (i < 20) = false := decide_eq_false h20
        have g00 : decide ((i : Int) < 20) = false := decide_eq_false (by omega)
        have c0 := HDD.out.c0
        have c1 := HDD.out.c1
        have c2 := HDD.out.c2
        have HEN := Lib.hid (owns_ents HO.out)
        have hlI : L.length ≤ 20 := by omega
        have HBW := Lib.hid HB.out
        obtain ⟨wl, rfl⟩ : ∃ wl, wl = wr := ⟨_, rfl⟩
        clear HO HB
        go_wp2_with fail
        refine (rnewAt S L _ _ _ HL.out.fewR HEN.out).mono ?_
        rintro e w1 ⟨q, rfl, h⟩
        have HC := Lib.hid (fun W (hW : Below wl.heap.size wl W) => show DecAt W D (.slice p i c) from HDD.out.block (hW.block D (World.rowIs.lt HDD.out)))
        have H := Lib.hid (show RAt Is wl (.pointer (some q)) ⟨lookE L, [], 0⟩ w1 from h)
        clear h c0 c1 c2
        go_wp2
        go_loopw [9, 10] (fun sv jv wj => ∃ j s : Nat, j ≤ i ∧ jv = .int .i64 j ∧ sv = .int .i64 s ∧ s ≤ m ∧ Hid (RAt Is wl (.pointer (some q)) ⟨lookE L, [], s⟩ wj)) (fun _ jv _ => i - (intOf jv).toNat)
        case atStart => exact ⟨0, 0, Nat.zero_le _, rfl, rfl, Nat.zero_le _, H⟩
        case round =>
          clear H
          obtain ⟨j, s, hji, rfl, rfl, hsm, H⟩ := hrel
          have d1 := (HC.out _ H.out.since).c1
          by_cases hlj : j < i
          · obtain ⟨b, off, rfl, hbl, hc0⟩ := (show EntsAt wl.heap.size wl (.slice p i c) L from HEN.out).cell (by omega)
            have hjL : j < L.length := by omega
            have e0 : World.cell? _ ⟨b, off + j * 3, none⟩ = some (.string (bytes (entI L j).name)) := (H.out.since.cell (p := ⟨b, off + j * 3, none⟩) hbl).trans (hc0 j hjL).1
            have e1 : World.cell? _ ⟨b, off + j * 3 + 1, none⟩ = some (.string (bytes (entI L j).value)) := (H.out.since.cell (p := ⟨b, off + j * 3 + 1, none⟩) hbl).trans (hc0 j hjL).2.1
            rw [HL.out.name j hjL] at e0
            have hsh := HL.out.short j hjL
            obtain ⟨y, hy⟩ : ∃ y, (entI L j).value.length = y := ⟨_, rfl⟩
            have hyb : (bytes (entI L j).value).size = y := by rw [bytesL_len, hy]
            have HNEW := Lib.hid (open_new (o := []) (n := s) (most := (m : Int)) HL.out hjL (by simp))
            have HFUL := Lib.hid (open_full (o := []) (n := s) (most := (m : Int)) HL.out hjL (by simp))
            rw [hy] at hsh HNEW HFUL
            have FM : Hid (FitsR (m : Int)) := Lib.hid (fits_small _ (by omega) (by omega))
            have HY := Lib.hid hy
            have HCE := Lib.hid (fun W (hW : Below wl.heap.size wl W) => show W.cell? ⟨b, off + j * 3, none⟩ = some (.string (bytes (nmL j))) from (hW.cell (p := ⟨b, off + j * 3, none⟩) hbl).trans (by have := (hc0 j hjL).1; rw [HL.out.name j hjL] at this; exact this))
            clear hc0 hy
            generalize (entI L j).value = vl at *
            obtain ⟨vb, hvb⟩ : ∃ vb, bytes vl = vb := ⟨_, rfl⟩
            have HVB := Lib.hid hvb
            rw [hvb] at e1 hyb
            clear hvb
            have hjI : (j : Int) < (i : Int) := by omega
            by_cases hfit : s + y ≤ m
            · have g1 : decide ((s : Int) + (y : Int) ≤ (m : Int)) = true := decide_eq_true (by omega)
              have g2 : decide (s + y ≤ m) = true := decide_eq_true hfit
              have HN := Lib.hid (HNEW.out (by omega))
              have HCL := Lib.hid (close_last (n := s + y) (o := []) (lookE L) (nmL j))
              obtain ⟨s2, hs2⟩ : ∃ s2, s + y = s2 := ⟨_, rfl⟩
              have hs2I : (s : Int) + (y : Int) = (s2 : Int) := by omega
              have hs2m : s2 ≤ m := by omega
              rw [hs2] at HN HCL g2
              rw [hs2I] at g1
              clear hs2
              go_wp2_with fail
              refine (ropenAt S (nmL j) (m : Int) _ vb HVB.out _ _ HN.out.1 HN.out.2 (by rw [nmL_len]; decide) FM.out H.out).mono ?_
              rintro e w2 ⟨rfl, h⟩
              replace H := Lib.hid h
              clear h d1 e0 e1
              have d2 := (HC.out _ H.out.since).c1
              have e2 : World.cell? _ ⟨b, off + j * 3, none⟩ = some (.string (bytes (nmL j))) := HCE.out _ H.out.since
              go_wp2_with fail
              refine (rcloseAt S (nmL j) _ _ HCL.out.1 HCL.out.2 (by rw [nmL_len]; decide) H.out).mono ?_
              rintro e w3 ⟨rfl, h⟩
              replace H := Lib.hid h
              clear h d2 e2
              go_wp2_with fail
              refine (rspentAt S H.out).mono ?_
              rintro e w4 ⟨rfl, h⟩
              replace H := Lib.hid h
              clear h
              go_wp2
              go_roundw
              case rel => exact ⟨j + 1, s2, by omega, by go_num, rfl, hs2m, H⟩
              case measure => simp [intOf]; omega
            · have g1 : decide ((s : Int) + (y : Int) ≤ (m : Int)) = false := decide_eq_false (by omega)
              have g2 : decide (s + y ≤ m) = false := decide_eq_false hfit
              have HN := Lib.hid (HFUL.out (by omega))
              go_wp2_with fail
              refine (ropenAt S (nmL j) (m : Int) _ ⟨#[]⟩ rfl _ _ HN.out.1 HN.out.2 (by rw [nmL_len]; decide) FM.out H.out).mono ?_
              rintro e w2 ⟨rfl, h⟩
              replace H := Lib.hid h
              clear h d1 e0 e1
              go_wp2_with fail
              refine (rspentAt S H.out).mono ?_
              rintro e w4 ⟨rfl, h⟩
              replace H := Lib.hid h
              clear h
              go_wp2
              go_roundw
              case rel => exact ⟨j + 1, s, by omega, by go_num, rfl, hsm, H⟩
              case measure => simp [intOf]; omega
          · obtain rfl : j = i := by omega
            have g1 : decide (j < j) = false := decide_eq_false (by omega)
            obtain ⟨z, hz⟩ : ∃ z, m - s = z := ⟨_, rfl⟩
            have hzI : (m : Int) - (s : Int) = (z : Int) := by omega
            have HSP : Hid (spendC ⟨lookE L, [], s⟩ (z : Int) (m : Int) = 0 ∧ spendS ⟨lookE L, [], s⟩ (z : Int) (m : Int) = ⟨lookE L, [], m⟩) := Lib.hid (by
              unfold spendC spendS
              rw [if_neg (by show ¬ (m : Int) < (s : Int) + (((z : Int).toNat : Nat) : Int); omega), if_neg (by show ¬ (m : Int) < (s : Int) + (((z : Int).toNat : Nat) : Int); omega)]
              refine ⟨rfl, ?_⟩
              show (⟨lookE L, [], s + (z : Int).toNat⟩ : RefD) = _
              rw [show s + (z : Int).toNat = m by omega])
            have HSQ : Hid (spendC ⟨lookE L, [], m⟩ 1 (m : Int) = 3 ∧ spendS ⟨lookE L, [], m⟩ 1 (m : Int) = ⟨lookE L, [], m⟩) := Lib.hid (by
              unfold spendC spendS
              rw [if_pos (by show (m : Int) < (m : Int) + ((1 : Int).toNat : Int); omega), if_pos (by show (m : Int) < (m : Int) + ((1 : Int).toNat : Int); omega)]
              exact ⟨rfl, rfl⟩)
            have FM : Hid (FitsR (m : Int)) := Lib.hid (fits_small _ (by omega) (by omega))
            have FZ : Hid (FitsR (z : Int)) := Lib.hid (fits_small _ (by omega) (by omega))
            have F1 : Hid (FitsR 1) := Lib.hid (fits_small _ (by decide) (by decide))
            clear hz
            go_wp2_with fail
            refine (told12_any S _).mono ?_
            rintro e w4 ⟨rfl, h⟩
            replace H := Lib.hid (H.out.other S h)
            clear h d1
            go_wp2_with fail
            try simp only [List.append_eq, List.cons_append, List.nil_append] at *
            refine (rdepthAt S H.out).mono ?_
            rintro e w5 ⟨rfl, h⟩
            replace H := Lib.hid h
            clear h
            go_wp2_with fail
            try simp only [List.append_eq, List.cons_append, List.nil_append] at *
            refine (rspendAt S (z : Int) (m : Int) _ _ HSP.out.1 HSP.out.2 FZ.out FM.out H.out).mono ?_
            rintro e w6 ⟨rfl, h⟩
            replace H := Lib.hid h
            clear h
            go_wp2_with fail
            try simp only [List.append_eq, List.cons_append, List.nil_append] at *
            refine (rspentAt S H.out).mono ?_
            rintro e w7 ⟨rfl, h⟩
            replace H := Lib.hid h
            clear h
            go_wp2_with fail
            try simp only [List.append_eq, List.cons_append, List.nil_append] at *
            refine (rspendAt S 1 (m : Int) _ _ HSQ.out.1 HSQ.out.2 F1.out FM.out H.out).mono ?_
            rintro e w8 ⟨rfl, h⟩
            replace H := Lib.hid h
            clear h
            go_wp2
            go_ret
            exact ⟨rfl, HBW.out.trans (H.out.since.mono HBW.out.size)⟩
    · have g0 : decide (i < zs.length) = false := decide_eq_false hlt
      have g00 : decide ((i : Int) < (zs.length : Int)) = false := decide_eq_false (by omega)
      have c0 := HDD.out.c0
      have c1 := HDD.out.c1
      have c2 := HDD.out.c2
      have HEN := Lib.hid (owns_ents HO.out)
      have hlI : L.length ≤ 20 := by omega
      have HBW := Lib.hid HB.out
      obtain ⟨wl, rfl⟩ : ∃ wl, wl = wr := ⟨_, rfl⟩
      clear HO HB
      go_wp2_with fail
      refine (rnewAt S L _ _ _ HL.out.fewR HEN.out).mono ?_
      rintro e w1 ⟨q, rfl, h⟩
      have HC := Lib.hid (fun W (hW : Below wl.heap.size wl W) => show DecAt W D (.slice p i c) from HDD.out.block (hW.block D (World.rowIs.lt HDD.out)))
      have H := Lib.hid (show RAt Is wl (.pointer (some q)) ⟨lookE L, [], 0⟩ w1 from h)
      clear h c0 c1 c2
      go_wp2
      go_loopw [9, 10] (fun sv jv wj => ∃ j s : Nat, j ≤ i ∧ jv = .int .i64 j ∧ sv = .int .i64 s ∧ s ≤ m ∧ Hid (RAt Is wl (.pointer (some q)) ⟨lookE L, [], s⟩ wj)) (fun _ jv _ => i - (intOf jv).toNat)
      case atStart => exact ⟨0, 0, Nat.zero_le _, rfl, rfl, Nat.zero_le _, H⟩
      case round =>
        clear H
        obtain ⟨j, s, hji, rfl, rfl, hsm, H⟩ := hrel
        have d1 := (HC.out _ H.out.since).c1
        by_cases hlj : j < i
        · obtain ⟨b, off, rfl, hbl, hc0⟩ := (show EntsAt wl.heap.size wl (.slice p i c) L from HEN.out).cell (by omega)
          have hjL : j < L.length := by omega
          have e0 : World.cell? _ ⟨b, off + j * 3, none⟩ = some (.string (bytes (entI L j).name)) := (H.out.since.cell (p := ⟨b, off + j * 3, none⟩) hbl).trans (hc0 j hjL).1
          have e1 : World.cell? _ ⟨b, off + j * 3 + 1, none⟩ = some (.string (bytes (entI L j).value)) := (H.out.since.cell (p := ⟨b, off + j * 3 + 1, none⟩) hbl).trans (hc0 j hjL).2.1
          rw [HL.out.name j hjL] at e0
          have hsh := HL.out.short j hjL
          obtain ⟨y, hy⟩ : ∃ y, (entI L j).value.length = y := ⟨_, rfl⟩
          have hyb : (bytes (entI L j).value).size = y := by rw [bytesL_len, hy]
          have HNEW := Lib.hid (open_new (o := []) (n := s) (most := (m : Int)) HL.out hjL (by simp))
          have HFUL := Lib.hid (open_full (o := []) (n := s) (most := (m : Int)) HL.out hjL (by simp))
          rw [hy] at hsh HNEW HFUL
          have FM : Hid (FitsR (m : Int)) := Lib.hid (fits_small _ (by omega) (by omega))
          have HY := Lib.hid hy
          have HCE := Lib.hid (fun W (hW : Below wl.heap.size wl W) => show W.cell? ⟨b, off + j * 3, none⟩ = some (.string (bytes (nmL j))) from (hW.cell (p := ⟨b, off + j * 3, none⟩) hbl).trans (by have := (hc0 j hjL).1; rw [HL.out.name j hjL] at this; exact this))
          clear hc0 hy
          generalize (entI L j).value = vl at *
          obtain ⟨vb, hvb⟩ : ∃ vb, bytes vl = vb := ⟨_, rfl⟩
          have HVB := Lib.hid hvb
          rw [hvb] at e1 hyb
          clear hvb
          have hjI : (j : Int) < (i : Int) := by omega
          by_cases hfit : s + y ≤ m
          · have g1 : decide ((s : Int) + (y : Int) ≤ (m : Int)) = true := decide_eq_true (by omega)
            have g2 : decide (s + y ≤ m) = true := decide_eq_true hfit
            have HN := Lib.hid (HNEW.out (by omega))
            have HCL := Lib.hid (close_last (n := s + y) (o := []) (lookE L) (nmL j))
            obtain ⟨s2, hs2⟩ : ∃ s2, s + y = s2 := ⟨_, rfl⟩
            have hs2I : (s : Int) + (y : Int) = (s2 : Int) := by omega
            have hs2m : s2 ≤ m := by omega
            rw [hs2] at HN HCL g2
            rw [hs2I] at g1
            clear hs2
            go_wp2_with fail
            refine (ropenAt S (nmL j) (m : Int) _ vb HVB.out _ _ HN.out.1 HN.out.2 (by rw [nmL_len]; decide) FM.out H.out).mono ?_
            rintro e w2 ⟨rfl, h⟩
            replace H := Lib.hid h
            clear h d1 e0 e1
            have d2 := (HC.out _ H.out.since).c1
            have e2 : World.cell? _ ⟨b, off + j * 3, none⟩ = some (.string (bytes (nmL j))) := HCE.out _ H.out.since
            go_wp2_with fail
            refine (rcloseAt S (nmL j) _ _ HCL.out.1 HCL.out.2 (by rw [nmL_len]; decide) H.out).mono ?_
            rintro e w3 ⟨rfl, h⟩
            replace H := Lib.hid h
            clear h d2 e2
            go_wp2_with fail
            refine (rspentAt S H.out).mono ?_
            rintro e w4 ⟨rfl, h⟩
            replace H := Lib.hid h
            clear h
            go_wp2
            go_roundw
            case rel => exact ⟨j + 1, s2, by omega, by go_num, rfl, hs2m, H⟩
            case measure => simp [intOf]; omega
          · have g1 : decide ((s : Int) + (y : Int) ≤ (m : Int)) = false := decide_eq_false (by omega)
            have g2 : decide (s + y ≤ m) = false := decide_eq_false hfit
            have HN := Lib.hid (HFUL.out (by omega))
            go_wp2_with fail
            refine (ropenAt S (nmL j) (m : Int) _ ⟨#[]⟩ rfl _ _ HN.out.1 HN.out.2 (by rw [nmL_len]; decide) FM.out H.out).mono ?_
            rintro e w2 ⟨rfl, h⟩
            replace H := Lib.hid h
            clear h d1 e0 e1
            go_wp2_with fail
            refine (rspentAt S H.out).mono ?_
            rintro e w4 ⟨rfl, h⟩
            replace H := Lib.hid h
            clear h
            go_wp2
            go_roundw
            case rel => exact ⟨j + 1, s, by omega, by go_num, rfl, hsm, H⟩
            case measure => simp [intOf]; omega
        · obtain rfl : j = i := by omega
          have g1 : decide (j < j) = false := decide_eq_false (by omega)
          obtain ⟨z, hz⟩ : ∃ z, m - s = z := ⟨_, rfl⟩
          have hzI : (m : Int) - (s : Int) = (z : Int) := by omega
          have HSP : Hid (spendC ⟨lookE L, [], s⟩ (z : Int) (m : Int) = 0 ∧ spendS ⟨lookE L, [], s⟩ (z : Int) (m : Int) = ⟨lookE L, [], m⟩) := Lib.hid (by
            unfold spendC spendS
            rw [if_neg (by show ¬ (m : Int) < (s : Int) + (((z : Int).toNat : Nat) : Int); omega), if_neg (by show ¬ (m : Int) < (s : Int) + (((z : Int).toNat : Nat) : Int); omega)]
            refine ⟨rfl, ?_⟩
            show (⟨lookE L, [], s + (z : Int).toNat⟩ : RefD) = _
            rw [show s + (z : Int).toNat = m by omega])
          have HSQ : Hid (spendC ⟨lookE L, [], m⟩ 1 (m : Int) = 3 ∧ spendS ⟨lookE L, [], m⟩ 1 (m : Int) = ⟨lookE L, [], m⟩) := Lib.hid (by
            unfold spendC spendS
            rw [if_pos (by show (m : Int) < (m : Int) + ((1 : Int).toNat : Int); omega), if_pos (by show (m : Int) < (m : Int) + ((1 : Int).toNat : Int); omega)]
            exact ⟨rfl, rfl⟩)
          have FM : Hid (FitsR (m : Int)) := Lib.hid (fits_small _ (by omega) (by omega))
          have FZ : Hid (FitsR (z : Int)) := Lib.hid (fits_small _ (by omega) (by omega))
          have F1 : Hid (FitsR 1) := Lib.hid (fits_small _ (by decide) (by decide))
          clear hz
          go_wp2_with fail
          refine (told12_any S _).mono ?_
          rintro e w4 ⟨rfl, h⟩
          replace H := Lib.hid (H.out.other S h)
          clear h d1
          go_wp2_with fail
          try simp only [List.append_eq, List.cons_append, List.nil_append] at *
          refine (rdepthAt S H.out).mono ?_
          rintro e w5 ⟨rfl, h⟩
          replace H := Lib.hid h
          clear h
          go_wp2_with fail
          try simp only [List.append_eq, List.cons_append, List.nil_append] at *
          refine (rspendAt S (z : Int) (m : Int) _ _ HSP.out.1 HSP.out.2 FZ.out FM.out H.out).mono ?_
          rintro e w6 ⟨rfl, h⟩
          replace H := Lib.hid h
          clear h
          go_wp2_with fail
          try simp only [List.append_eq, List.cons_append, List.nil_append] at *
          refine (rspentAt S H.out).mono ?_
          rintro e w7 ⟨rfl, h⟩
          replace H := Lib.hid h
          clear h
          go_wp2_with fail
          try simp only [List.append_eq, List.cons_append, List.nil_append] at *
          refine (rspendAt S 1 (m : Int) _ _ HSQ.out.1 HSQ.out.2 F1.out FM.out H.out).mono ?_
          rintro e w8 ⟨rfl, h⟩
          replace H := Lib.hid h
          clear h
          go_wp2
          go_ret
          exact ⟨rfl, HBW.out.trans (H.out.since.mono HBW.out.size)⟩
end Go.Proofs.Ytdgcpeipoiljiaa
