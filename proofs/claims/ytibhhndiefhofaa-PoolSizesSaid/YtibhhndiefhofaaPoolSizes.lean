/-
  LAYER 8: brackenlaw8.PoolSizes, out of PoolSaid: true for any texts, any byte. (Written by gen_poolsizes.py.)
-/
import Derived.Test.YtibhhndiefhofaaPoolTold
import Derived.Test.YtibhhndiefhofaaStrArg
import Derived.Laws.BytesArg
import Derived.Deep.OwnRows
import Derived.IntWalk
namespace Go.Proofs.Ytibhhndiefhofaa
open Go.RowKit

theorem info_u8 : (Try.prog.info? 5).map (fun i => (i.zero, i.size, i.bytes)) = some (some (.int .u8 0), 1, 1) := by kernel_rfl
theorem make_bytes (n : Nat) (h : n ≤ 4294967296) (w : World) :
    (Instr.makeSlice 24 (.int .i64 (n : Int)) (.int .i64 (n : Int))).run Try.prog w = .ok (.slice (some ⟨w.heap.size, 0, none⟩) n n) (w.alloc (.cells (madeCells #[.int .u8 0] n) 5)) :=
  run_make_row' 24 5 (.int .u8 0) 1 Try.underlying24 info_u8 rfl .i64 .i64 n (by omega) (by omega) w
theorem conv_row {w : World} {b n : Nat} {c : Int} (h : w.rowIs b 5 n (fun _ => .int .u8 c)) :
    ∃ t : ByteArray, t.size = n ∧ (convert 24 9 (.slice (some ⟨b, 0, none⟩) n n)).run Try.prog w = .ok (.string t) w := by
  refine ⟨strOfNums (List.replicate n c), by rw [strOfNums_size, List.length_replicate], ?_⟩
  exact run_convert_bytes_arg (P := Try.prog) w 24 5 Try.underlying24 Try.underlying5 b 0 n n (List.replicate n c) List.length_replicate (fun i hi => by
    rw [Nat.zero_add, h.cell hi]
    simp [List.getD, hi]) 9 Try.underlying9
theorem ownT_below {w w' : World} {base : Nat} {v : Value} {ss : List ByteArray} (h : OwnT w base v ss) (hb : Below w.heap.size w w') : OwnT w' base v ss := by
  refine ⟨h.1, ?_⟩
  rcases h.2 with h2 | ⟨g, cap, cur, rfl, hg, hh, h3⟩
  · exact Or.inl h2
  · exact Or.inr ⟨g, cap, cur, rfl, hg, (hb.block g (Array.getElem?_eq_some_iff.1 hh).1).trans hh, h3⟩
theorem sizes_few3 {ss : List ByteArray} {m : Nat} (h : ∀ j, j < ss.length → (strAt ss j).size ≤ m) : bytesN ss ≤ ss.length * m := bytesN_le ss m fun s hs => by
  obtain ⟨j, hj, rfl⟩ := List.mem_iff_getElem.1 hs
  have := h j hj
  simpa [strAt, List.getD, List.getElem?_eq_getElem hj] using this
theorem sizes_next {ss ms : List ByteArray} {i : Nat} {t : ByteArray} (h : ms.map ByteArray.size = (ss.take i).map ByteArray.size) (hi : i < ss.length) (ht : t.size = (strAt ss i).size) : (ms ++ [t]).map ByteArray.size = (ss.take (i + 1)).map ByteArray.size := by
  rw [List.map_append, h, List.take_succ_eq_append_getElem hi, List.map_append]
  simp [ht, strAt, List.getD, List.getElem?_eq_getElem hi]

set_option maxHeartbeats 20000000 in
set_option maxRecDepth 100000 in
theorem poolsizes_any {E : World → Prop} {Is : Nat → World → Value → List ByteArray → Prop} (S : PoolSaid E Is) (v : Value) (cc : Int) (w : World) (hE : E w) (hv : StrArg w v) :
    Calls Try.prog 3 #[v, .int .u8 cc] w fun e w' => e = .returned (.bool true) ∧ Below w.heap.size w w' := by
  obtain ⟨a, cap, ss, rfl, hr, hl63, hz63⟩ := hv
  have HE := Lib.hid hE
  have HR := Lib.hid hr
  have HZ := Lib.hid hz63
  obtain ⟨i0, hi, hz0, hz1, hz2⟩ := info_parts info_str
  clear hE hr hz63
  by_cases h40 : 40 < ss.length
  · have g1 : decide (40 < ss.length) = true := decide_eq_true h40
    have g2 : decide ((40 : Int) < (ss.length : Int)) = true := decide_eq_true (by omega)
    have HEW := HE
    have HBW := Lib.hid (Below.refl w.heap.size w)
    go_enter Try.func3, Try.ntmps3
    go_wp2_with fail
    refine (told8_any S _ HEW.out).mono ?_
    rintro e wz ⟨rfl, hb'⟩
    go_wp2
    go_ret
    exact ⟨rfl, step_below8 HBW.out hb'⟩
  have g1 : decide (40 < ss.length) = false := decide_eq_false h40
  have g2 : decide ((40 : Int) < (ss.length : Int)) = false := decide_eq_false (by omega)
  go_enter Try.func3, Try.ntmps3
  go_wp2
  clear g1 g2
  go_loopw [5, 6] (fun mv iv wr => ∃ (i : Nat) (ms : List ByteArray) (p : Option Addr) (c : Nat), i ≤ ss.length ∧ iv = .int .i64 i ∧ mv = .slice p ms.length c ∧ Hid (ms.length = i) ∧ Hid (ms.map ByteArray.size = (ss.take i).map ByteArray.size) ∧ Hid (∀ j, j < i → (strAt ss j).size ≤ 60) ∧ OwnT wr w.heap.size mv ms ∧ Below w.heap.size w wr) (fun _ iv _ => ss.length - (intOf iv).toNat)
  case atStart => exact ⟨0, [], none, 0, Nat.zero_le _, rfl, rfl, Lib.hid rfl, Lib.hid rfl, Lib.hid (fun j hj => by omega), World.ownsRow_nil _ _ _ _, Below.refl _ _⟩
  case round =>
    obtain ⟨i, ms, p, c, hil, rfl, rfl, HML, HMS, HS, hown, hbel⟩ := hrel
    have hml : ms.length ≤ 40 := by have := HML.out; omega
    have HBW := Lib.hid hbel
    have HEW := Lib.hid (S.below _ _ HE.out hbel)
    by_cases hlt : i < ss.length
    · obtain ⟨g, off, rfl, hg, hcell0⟩ := HR.out.cell i hlt
      obtain ⟨s, hss⟩ : ∃ s, strAt ss i = s := ⟨_, rfl⟩
      have hcell : wr.cell? ⟨g, off + i, none⟩ = some (.string s) := by rw [hbel.cell (p := ⟨g, off + i, none⟩) hg, ← hss]; exact hcell0 i hlt
      have hsz63 : s.size ≤ 9223372036854775807 := by rw [← hss]; exact HZ.out i hlt
      have HSS := Lib.hid hss
      clear hcell0 hss
      by_cases h60 : 60 < s.size
      · have g1 : decide (60 < s.size) = true := decide_eq_true h60
        have g2 : decide ((60 : Int) < (s.size : Int)) = true := decide_eq_true (by omega)
        by_cases hi0 : i = 0
        · subst hi0
          rw [Nat.add_zero] at hcell
          go_wp2_with fail
          refine (told8_any S _ HEW.out).mono ?_
          rintro e wz ⟨rfl, hb'⟩
          go_wp2
          go_ret
          exact ⟨rfl, step_below8 HBW.out hb'⟩
        · go_wp2_with fail
          refine (told8_any S _ HEW.out).mono ?_
          rintro e wz ⟨rfl, hb'⟩
          go_wp2
          go_ret
          exact ⟨rfl, step_below8 HBW.out hb'⟩
      · have g1 : decide (60 < s.size) = false := decide_eq_false h60
        have g2 : decide ((60 : Int) < (s.size : Int)) = false := decide_eq_false (by omega)
        have HS2 : Hid (∀ j, j < i + 1 → (strAt ss j).size ≤ 60) := Lib.hid (fun j hj => by
          by_cases e : j = i
          · rw [e, HSS.out]; omega
          · exact HS.out j (by omega))
        obtain ⟨n, hn⟩ : ∃ n, s.size = n := ⟨_, rfl⟩
        have hn60 : n ≤ 60 := by omega
        have HN : Hid (n = (strAt ss i).size) := Lib.hid (by rw [HSS.out, hn])
        have hmk := make_bytes n (by omega) wr
        obtain ⟨g0, hg0⟩ : ∃ g0, wr.heap.size = g0 := ⟨_, rfl⟩
        have hb0 : Below g0 wr (wr.alloc (.cells (madeCells #[.int .u8 0] n) 5)) := (Below.refl g0 wr).alloc (by rw [hg0]; exact Nat.le_refl _) _
        have hr0 := World.rowIs_made wr (.int .u8 0) n 5
        rw [hg0] at hmk hr0
        have HOW : Hid (∀ W, Below g0 wr W → OwnT W w.heap.size (.slice p ms.length c) ms ∧ Below w.heap.size w W) := Lib.hid (fun W hW => by
          rw [← hg0] at hW
          exact ⟨ownT_below hown hW, step_below8 hbel hW⟩)
        have HG0 : Hid (g0 = wr.heap.size) := Lib.hid hg0.symm
        rw [hn] at g1 g2
        have hn0 : (s.size : Int) = (n : Int) := by rw [hn]
        clear hown hbel HEW HBW hg0
        by_cases hi0 : i = 0
        · subst hi0
          rw [Nat.add_zero] at hcell
          go_wp2
          clear hmk hcell g1 g2
          go_loopw [8] (fun kv wi => ∃ k : Nat, k ≤ n ∧ kv = .int .i64 k ∧ Below g0 wr wi ∧ wi.rowIs g0 5 n (fun j => if j < k then .int .u8 cc else .int .u8 0)) (fun kv _ => n - (intOf kv).toNat)
          case atStart => exact ⟨0, Nat.zero_le _, rfl, hb0, hr0.congr fun j _ => by rw [if_neg (by omega)]⟩
          case round =>
            obtain ⟨k, hk, rfl, hb, hr⟩ := hrel
            clear hb0 hr0
            by_cases hkn : k < n
            · have hfz := World.rowIs.frozen hr k
              have hcell := World.rowIs.cell hr hkn
              rw [if_neg (by omega)] at hcell
              go_wp2
              go_roundw
              case rel =>
                refine ⟨k + 1, by omega, by go_num, hb.setCell (Nat.le_refl _) _, World.rowIs.congr (hr.set k _) fun j _ => ?_⟩
                by_cases e : j = k
                · rw [if_pos e, if_pos (by omega)]
                · rw [if_neg e]
                  by_cases e2 : j < k
                  · rw [if_pos e2, if_pos (by omega)]
                  · rw [if_neg e2, if_neg (by omega)]
              case measure => simp [intOf]; omega
            · have k1 : decide (k < n) = false := decide_eq_false hkn
              obtain ⟨t, hts, hcv⟩ := conv_row (World.rowIs.congr hr (g := fun _ => .int .u8 cc) fun j hj => by rw [if_pos (by omega)])
              obtain ⟨hown1, hbel1⟩ := HOW.out _ hb
              have hown0 : wr.ownsRow w.heap.size 9 1 (.slice p ms.length c) ms.length (ms.map Value.string) := hown1
              have hblk := ownT_block hown1
              have hsz := hbel1.size
              have HNX : Hid ((ms ++ [t]).map ByteArray.size = (ss.take (0 + 1)).map ByteArray.size) := Lib.hid (sizes_next (i := 0) HMS.out hlt (by rw [hts]; exact HN.out))
              go_wp2_with (at_builtin; refine wpList_append_own _ rfl _ _ 22 rfl w.heap.size 9 i0 (.string ⟨#[]⟩) 1 16 Try.underlying22 hi hz0 hz1 hz2 rfl (by decide) _ _ _ rfl (hown0.alloc _) ⟨wr.heap.size, 0, none⟩ 1 1 [.string t] rfl rfl (cell_one_new _ _ _) (by intro u hu; simp at hu; subst hu; rfl) (by unfold maxLen; omega) (by omega) (by simp; omega) ?_; intro v' w2 hown3 hgrow3 _; have hown4 : OwnT w2 w.heap.size v' (ms ++ [t]) := ownT_next _ hown3; obtain ⟨a4, c4, rfl⟩ := ownT_slice1 hown4)
              go_roundw
              case rel => exact ⟨0 + 1, ms ++ [t], a4, c4, by omega, by go_num, by rw [List.length_append]; rfl, Lib.hid (by rw [List.length_append, HML.out]; rfl), HNX, HS2, hown4, (hbel1.alloc hbel1.size _).grown hgrow3 (by simp; omega) hblk⟩
              case measure => first | (simp [intOf]; done) | (simp [intOf]; omega)
        · go_wp2
          clear hmk hcell g1 g2
          go_loopw [8] (fun kv wi => ∃ k : Nat, k ≤ n ∧ kv = .int .i64 k ∧ Below g0 wr wi ∧ wi.rowIs g0 5 n (fun j => if j < k then .int .u8 cc else .int .u8 0)) (fun kv _ => n - (intOf kv).toNat)
          case atStart => exact ⟨0, Nat.zero_le _, rfl, hb0, hr0.congr fun j _ => by rw [if_neg (by omega)]⟩
          case round =>
            obtain ⟨k, hk, rfl, hb, hr⟩ := hrel
            clear hb0 hr0
            by_cases hkn : k < n
            · have hfz := World.rowIs.frozen hr k
              have hcell := World.rowIs.cell hr hkn
              rw [if_neg (by omega)] at hcell
              go_wp2
              go_roundw
              case rel =>
                refine ⟨k + 1, by omega, by go_num, hb.setCell (Nat.le_refl _) _, World.rowIs.congr (hr.set k _) fun j _ => ?_⟩
                by_cases e : j = k
                · rw [if_pos e, if_pos (by omega)]
                · rw [if_neg e]
                  by_cases e2 : j < k
                  · rw [if_pos e2, if_pos (by omega)]
                  · rw [if_neg e2, if_neg (by omega)]
              case measure => simp [intOf]; omega
            · have k1 : decide (k < n) = false := decide_eq_false hkn
              obtain ⟨t, hts, hcv⟩ := conv_row (World.rowIs.congr hr (g := fun _ => .int .u8 cc) fun j hj => by rw [if_pos (by omega)])
              obtain ⟨hown1, hbel1⟩ := HOW.out _ hb
              have hown0 : wr.ownsRow w.heap.size 9 1 (.slice p ms.length c) ms.length (ms.map Value.string) := hown1
              have hblk := ownT_block hown1
              have hsz := hbel1.size
              have HNX : Hid ((ms ++ [t]).map ByteArray.size = (ss.take (i + 1)).map ByteArray.size) := Lib.hid (sizes_next (i := i) HMS.out hlt (by rw [hts]; exact HN.out))
              go_wp2_with (at_builtin; refine wpList_append_own _ rfl _ _ 22 rfl w.heap.size 9 i0 (.string ⟨#[]⟩) 1 16 Try.underlying22 hi hz0 hz1 hz2 rfl (by decide) _ _ _ rfl (hown0.alloc _) ⟨wr.heap.size, 0, none⟩ 1 1 [.string t] rfl rfl (cell_one_new _ _ _) (by intro u hu; simp at hu; subst hu; rfl) (by unfold maxLen; omega) (by omega) (by simp; omega) ?_; intro v' w2 hown3 hgrow3 _; have hown4 : OwnT w2 w.heap.size v' (ms ++ [t]) := ownT_next _ hown3; obtain ⟨a4, c4, rfl⟩ := ownT_slice1 hown4)
              go_roundw
              case rel => exact ⟨i + 1, ms ++ [t], a4, c4, by omega, by go_num, by rw [List.length_append]; rfl, Lib.hid (by rw [List.length_append, HML.out]; rfl), HNX, HS2, hown4, (hbel1.alloc hbel1.size _).grown hgrow3 (by simp; omega) hblk⟩
              case measure => first | (simp [intOf]; done) | (simp [intOf]; omega)
    · have g0 : decide (i < ss.length) = false := decide_eq_false hlt
      have hie : i = ss.length := by omega
      have hms : ms.map ByteArray.size = ss.map ByteArray.size := by
        have := HMS.out
        rw [hie, List.take_length] at this
        exact this
      have hb24 : bytesN ss ≤ 2400 := by
        have := sizes_few3 (m := 60) (fun j hj => HS.out j (by omega))
        omega
      have HBM : Hid (bytesN ms = bytesN ss) := Lib.hid (bytesN_congr ms ss hms)
      have HPM : Hid (poolN ms = poolN ss) := Lib.hid (poolN_congr ms ss hms)
      have HLM : Hid (ms.length = ss.length) := Lib.hid (by rw [HML.out, hie])
      obtain ⟨n, hn⟩ : ∃ n, bytesN ss = n := ⟨_, rfl⟩
      have HN := Lib.hid hn
      obtain ⟨sz, hsz⟩ : ∃ sz, poolN ss = sz := ⟨_, rfl⟩
      have HSZ := Lib.hid hsz
      have HOW := Lib.hid hown
      have HRW := Lib.hid (HR.out.below hbel)
      have hl100 : ss.length ≤ 100000 := by omega
      have hl100m : ms.length ≤ 100000 := by omega
      have HF : Hid (bytesN ss ≤ 8388608) := Lib.hid (by omega)
      have HFM : Hid (bytesN ms ≤ 8388608) := Lib.hid (by rw [HBM.out]; omega)
      clear hms hb24 hn hsz hown hbel
      go_wp2_with fail
      refine (pnewAt S _ HEW.out hl100 HF.out HRW.out (Below.refl _ _)).mono ?_
      rintro e wa ⟨p1, rfl, h, hba⟩
      have H := Lib.hid h
      have HOW2 := Lib.hid (strOK_of (ownT_below HOW.out hba))
      clear h hba
      go_wp2_with fail
      refine (pnewAt S _ H.out.e hl100m HFM.out HOW2.out H.out.since).mono ?_
      rintro e wb ⟨q, rfl, hq, hb'⟩
      replace H := Lib.hid (H.out.other S hb')
      have Q := Lib.hid hq
      clear hq hb'
      go_wp2_with fail
      refine (told8_any S _ H.out.e).mono ?_
      rintro e wz ⟨rfl, hb'⟩
      replace H := Lib.hid (H.out.other S hb')
      replace Q := Lib.hid (Q.out.other S hb')
      clear hb'
      go_wp2_with fail
      try simp only [List.append_eq, List.cons_append, List.nil_append] at *
      refine (psizeAt S sz HSZ.out H.out).mono ?_
      rintro e wz ⟨rfl, hb'⟩
      replace H := Lib.hid (H.out.other S hb')
      replace Q := Lib.hid (Q.out.other S hb')
      clear hb'
      go_wp2_with fail
      try simp only [List.append_eq, List.cons_append, List.nil_append] at *
      refine (psizeAt S sz (HPM.out.trans HSZ.out) Q.out).mono ?_
      rintro e wz ⟨rfl, hb'⟩
      replace H := Lib.hid (H.out.other S hb')
      replace Q := Lib.hid (Q.out.other S hb')
      clear hb'
      go_wp2_with fail
      refine (pbytesAt S n HN.out H.out).mono ?_
      rintro e wz ⟨rfl, hb'⟩
      replace H := Lib.hid (H.out.other S hb')
      replace Q := Lib.hid (Q.out.other S hb')
      clear hb'
      go_wp2_with fail
      refine (pbytesAt S n (HBM.out.trans HN.out) Q.out).mono ?_
      rintro e wz ⟨rfl, hb'⟩
      replace H := Lib.hid (H.out.other S hb')
      replace Q := Lib.hid (Q.out.other S hb')
      clear hb'
      go_wp2_with fail
      refine (plenAt S ss.length rfl H.out).mono ?_
      rintro e wz ⟨rfl, hb'⟩
      replace H := Lib.hid (H.out.other S hb')
      replace Q := Lib.hid (Q.out.other S hb')
      clear hb'
      go_wp2_with fail
      refine (plenAt S ss.length HLM.out Q.out).mono ?_
      rintro e wz ⟨rfl, hb'⟩
      replace H := Lib.hid (H.out.other S hb')
      replace Q := Lib.hid (Q.out.other S hb')
      clear hb'
      go_wp2
      go_ret
      exact ⟨rfl, step_below8 HBW.out H.out.since⟩
end Go.Proofs.Ytibhhndiefhofaa
