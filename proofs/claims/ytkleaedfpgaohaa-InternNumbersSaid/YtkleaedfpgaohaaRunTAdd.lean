/-
  THE LANDED PACKAGE intern: one text more; all texts put anew; looking for a text.
-/
import Derived.Test.YtkleaedfpgaohaaRunTLook
import Derived.Deep.RegionLaw
import Derived.Deep.LoopGhost
import Derived.Deep.AppendLies
namespace Go.Proofs.Ytkleaedfpgaohaa
open Go.RowKit

theorem TxAt.grownBox {t : Nat} {a : Option Addr} {c : Nat} {L : List ByteArray} {w w2 : World} (h : TxAt t a c L w) {C : Array Value} {T : TypeId} (hg : (w.alloc (.cells C T)).grownBy w2 (Value.slice a L.length c).ownBlock) :
    w2.rowIs t 60 1 (fun _ => .slice a L.length c) := by
  refine h.box.of_block ((hg.block t (by show t < (w.heap.push _).size; rw [Array.size_push]; have := h.box.lt; omega) (fun e => ?_)).trans (Below.heap_alloc w _ t h.box.lt))
  cases a with
  | none => cases e
  | some g => injection e with e; exact h.ne g rfl e.symm
/-- one text more is owned, and stored -/
theorem TxAt.added {t : Nat} {a : Option Addr} {c : Nat} {L : List ByteArray} {w : World} (h : TxAt t a c L w) (s : ByteArray) (C : Array Value) (T : TypeId) (g2 c2 : Nat) (w2 : World) (hg : (w.alloc (.cells C T)).grownBy w2 (Value.slice a L.length c).ownBlock)
    (ho : w2.ownsRow 0 9 1 (.slice (some ⟨g2, 0, none⟩) (L.length + 1) c2) (L.length + 1) (L.map Value.string ++ [.string s])) :
    TxAt t (some ⟨g2, 0, none⟩) c2 (L ++ [s]) (w2.setCell ⟨t, 0, none⟩ (.slice (some ⟨g2, 0, none⟩) (L.length + 1) c2)) := by
  have hp := h.grownBox hg
  have e : OwnT w2 0 (.slice (some ⟨g2, 0, none⟩) (L.length + 1) c2) (L ++ [s]) := ownT_next s ho
  have e2 := ownT_same e (w' := w2.setCell ⟨t, 0, none⟩ (.slice (some ⟨g2, 0, none⟩) (L.length + 1) c2)) fun g hg => Below.heap_setCell _ _ _ _ (own_ne hp e (by decide) g hg)
  refine ⟨?_, ?_⟩
  · refine (World.rowIs.set hp 0 _).congr fun i hi => ?_
    obtain rfl : i = 0 := by omega
    rw [List.length_append]; rfl
  · rw [List.length_append]
    exact e2
theorem Turns.mono {F F' : Nat → Prop} {w w' : World} (h : Turns F w w') (hf : ∀ k, F k → F' k) : Turns F' w w' := ⟨h.os, h.tape, h.output, h.size, fun k hk hn => h.block k hk fun h' => hn (hf k h')⟩
set_option maxHeartbeats 1000000 in
set_option maxRecDepth 100000 in
theorem rtadd_any {t : Nat} {a : Option Addr} {c : Nat} {L : List ByteArray} {w : World} (s : ByteArray) (h : TxAt t a c L w) (hl : L.length ≤ 1048576) (hs : s.size ≤ 1048576) :
    Calls Try.prog 33 #[.pointer (some ⟨t, 0, none⟩), .string s] w fun e w' => ∃ a2 c2, e = .returned (.int .i64 L.length) ∧ TxAt t a2 c2 (L ++ [s]) w' ∧ Turns (fun k => k = t ∨ ∃ g, a = some g ∧ k = g.block) w w' ∧ (∀ g, a2 = some g → (∃ g', a = some g' ∧ g.block = g'.block) ∨ w.heap.size ≤ g.block) := by
  obtain ⟨i0, hi, hz0, hz1, hz2⟩ := info_parts info_str
  have C := Lib.hid (fun W => rclone_any s W (by omega))
  have c0 := h.c0
  have H := Lib.hid h
  have hbw : Below w.heap.size w w.drew := (Below.refl _ _).drew
  have KEEP := Lib.hid (fun W (hb : Below w.heap.size w W) => (hb.cell (p := ⟨t, 0, none⟩) h.box.lt).trans c0)
  clear h
  go_enter Try.func33, Try.ntmps33
  go_wp2_with fail
  go_region_law (first
    | (go_simp; go_at_call 28; refine (C.out _).mono ?_; rintro o w2 ⟨rfl, hb2⟩; have hbw2 : Below w.heap.size w w2 := hbw.trans hb2; have hx2 := (H.out.below hbw2); have hbw3 : Below w.heap.size w (w2.alloc (.cells #[.string s] 9 (0, 0))) := hbw2.alloc hbw2.size _; have cc2 := hx2.c0; have cd2 := KEEP.out _ hbw3)
    | (refine step_append_lies _ (by rfl) _ _ 27 (by rfl) 0 9 i0 (.string ⟨#[]⟩) 1 16 Try.underlying27 hi hz0 hz1 hz2 rfl (by decide) _ _ _ (by rfl) (hx2.own.alloc _) ⟨w2.heap.size, 0, none⟩ 1 1 [.string s] (by rfl) rfl (cell_one_at _ _ _ _ rfl) (by intro u hu; simp at hu; subst hu; rfl) (by decide) (by unfold maxLen; omega) (by omega) (Nat.zero_le _) (w2.heap.size + 1) (by simp) ?_; intro g2 cap2 w4 hown4 hgr4 hat4 hlt4; have hp4 := hx2.grownBox hgr4; have hc4 := hp4.cell (i := 0) (by decide); have hf4 := hp4.frozen 0))
  all_goals
    have HT := Lib.hid (hx2.added s _ _ g2 cap2 w4 hgr4 hown4)
    have HB := Lib.hid ((((Turns.of_below (F := fun _ => False) hbw3).mono (F' := fun k => k = t ∨ ∃ g, a = some g ∧ k = g.block) (fun _ h => h.elim)).grown hgr4 (fun k hk => Or.inl (Or.inr (by
      cases a with
      | none => cases hk
      | some g => injection hk with hk; exact ⟨g, rfl, hk.symm⟩)))).setCell (p := ⟨t, 0, none⟩) (Or.inl (Or.inl rfl)) (.slice (some ⟨g2, 0, none⟩) (L.length + 1) cap2))
    have HA : Hid (∀ g, some (⟨g2, 0, none⟩ : Addr) = some g → (∃ g', a = some g' ∧ g.block = g'.block) ∨ w.heap.size ≤ g.block) := Lib.hid (by
      intro g hg
      injection hg with hg
      subst hg
      rcases hat4 with h | h
      · cases a with
        | none => cases h
        | some g => injection h with h; exact Or.inl ⟨g, rfl, h.symm⟩
      · exact Or.inr (by have := hbw2.size; show w.heap.size ≤ g2; omega))
    have d0 := HT.out.c0
    obtain ⟨W3, hW3⟩ : ∃ W3, w4.setCell ⟨t, 0, none⟩ (.slice (some ⟨g2, 0, none⟩) (L.length + 1) cap2) = W3 := ⟨_, rfl⟩
    rw [List.length_append] at d0
    rw [hW3] at HT HB d0 ⊢
    clear hW3 hp4 hc4 hf4 hown4 hgr4 hat4 hx2 hb2 hbw2 hbw3 cc2 cd2
    go_wp2
    go_ret
    exact ⟨_, _, by first | rfl | go_num, HT.out, HB.out, HA.out⟩
set_option maxHeartbeats 1000000 in
set_option maxRecDepth 100000 in
theorem rbegin_any {p r t u q : Nat} {a : Option Addr} {c : Nat} {L : List ByteArray} {P : List Nat} {n : Int} {w : World} (h : GAt p r t u q a c L P n w) :
    Calls Try.prog 20 #[.pointer (some ⟨p, 0, none⟩)] w fun e w' => e = .returned (.tuple #[]) ∧ w = w' := by
  have c0 := h.c0
  clear h
  go_enter Try.func20, Try.ntmps20
  go_wp2
  go_end0
  exact ⟨rfl, rfl⟩
set_option maxHeartbeats 1000000 in
set_option maxRecDepth 100000 in
theorem rplace_any {t : Nat} {a : Option Addr} {c : Nat} {L : List ByteArray} {w : World} (M : Nat) (h : TxAt t a c L w) (hA : Apart9 L) (hl : L.length < M) (hm : M ≤ 16777216) (hls : ∀ j, (textAt L j).size ≤ 1048576) :
    Calls Try.prog 36 #[.pointer (some ⟨t, 0, none⟩), .int .i64 M] w fun e w' => ∃ u q, e = .returned (.pointer (some ⟨u, 0, none⟩)) ∧ PlAt u q (fillTo L (List.replicate M 0) L.length) w' ∧ w.heap.size ≤ u ∧ w.heap.size ≤ q ∧ Below w.heap.size w w' := by
  have C := Lib.hid (rnewPlaces_any M w (by omega))
  have c0 := h.c0
  have H := Lib.hid h
  clear h
  go_enter Try.func36, Try.ntmps36
  go_wp2_with fail
  refine C.out.mono ?_
  rintro o w1 ⟨rfl, hp, hz, hb⟩
  have HP := Lib.hid hp
  have HB := Lib.hid hb
  have c1 := (HB.out.cell (p := ⟨t, 0, none⟩) H.out.box.lt).trans c0
  clear hp hb c0
  go_wp2
  have HLL : Hid (∀ j, (textAt L j).size ≤ 1048576) := Lib.hid hls
  have HPT : Hid (∀ j, j ≤ L.length → Part (fillTo L (List.replicate M 0) j) L j) := Lib.hid (fun j hj => fill_part hA (part_none _ _) (by rw [List.length_replicate]; omega) j hj)
  have HFL : Hid (∀ j, (fillTo L (List.replicate M 0) j).length = M) := Lib.hid (fun j => by rw [fill_length, List.length_replicate])
  have HA := Lib.hid hA
  have HX1 := Lib.hid (H.out.below HB.out)
  clear hls hA C
  obtain ⟨u, hu⟩ : ∃ u, w.heap.size + 1 = u := ⟨_, rfl⟩
  obtain ⟨q, hq⟩ : ∃ q, w.heap.size = q := ⟨_, rfl⟩
  have HU := Lib.hid hu
  have HQ := Lib.hid hq
  rw [hu, hq] at HP
  rw [hu]
  clear hu hq hz c1
  go_loopw [15] (fun iv wr => ∃ i : Nat, i ≤ L.length ∧ iv = .int .i64 i ∧ Below w.heap.size w wr ∧ PlAt u q (fillTo L (List.replicate M 0) i) wr) (fun iv _ => L.length - (intOf iv).toNat)
  case atStart => exact ⟨0, Nat.zero_le _, rfl, HB.out, HP.out⟩
  case round =>
    obtain ⟨i, hi, rfl, hbe, hpl⟩ := hrel
    have HBE := Lib.hid hbe
    have HX := Lib.hid (H.out.below hbe)
    by_cases hlt : i < L.length
    · obtain ⟨g, rfl, hc⟩ := tx_cell HX.out i hlt
      have hins := (HPT.out i hi).insert (by rw [HFL.out]; omega) hlt (fun j hj e => by have := HA.out j i (by omega) hlt e; omega)
      have CE := Lib.hid (rfirstEmpty_any (textAt L i) hpl (HPT.out i hi) (by rw [HFL.out]; omega) (by rw [HFL.out]; omega) (HLL.out i) (fun j hj e => by have := HA.out j i (by omega) hlt e; omega))
      have hkk := hins.2.1
      have HNX : Hid (fillTo L (List.replicate M 0) (i + 1) = (fillTo L (List.replicate M 0) i).set (lookT (fillTo L (List.replicate M 0) i) L (textAt L i)).1 (i + 1)) := Lib.hid rfl
      have CT := Lib.hid (fun x => rtake_any u q (fillTo L (List.replicate M 0) i) (lookT (fillTo L (List.replicate M 0) i) L (textAt L i)).1 i (wr.drewN x) (hpl.drewN x) hkk (by omega))
      generalize (lookT (fillTo L (List.replicate M 0) i) L (textAt L i)).1 = kk at *
      generalize textAt L i = tx at *
      have i1 : (i : Int) < (L.length : Int) := by omega
      clear hpl hbe hins hkk
      go_wp2_with fail
      refine CE.out.mono ?_
      rintro o w2 ⟨rfl, x, hw2⟩
      have HB2 := Lib.hid (show Below w.heap.size w (wr.drewN x) from ⟨HBE.out.os, HBE.out.tape, HBE.out.output, HBE.out.size, HBE.out.block⟩)
      have CT2 := Lib.hid (CT.out x)
      rw [← hw2] at CT2 HB2
      clear hw2 CT CE hc
      go_wp2_with fail
      refine CT2.out.mono ?_
      rintro o w3 ⟨rfl, hp3, ht3⟩
      have HP3 := Lib.hid hp3
      have HB3 := Lib.hid (HB2.out.trans (ht3.below HB2.out.size (by rintro k rfl; have := HQ.out; omega)))
      clear hp3 ht3
      go_wp2
      go_roundw
      case rel => exact ⟨i + 1, by omega, by go_num, HB3.out, by rw [HNX.out]; exact HP3.out⟩
      case measure => simp [intOf]; omega
    · obtain rfl : i = L.length := by omega
      have HPL := Lib.hid hpl
      clear hpl hbe
      go_wp2
      go_ret
      exact ⟨u, q, rfl, HPL.out, by have := HU.out; omega, by have := HQ.out; omega, HBE.out⟩
set_option maxHeartbeats 1000000 in
set_option maxRecDepth 100000 in
theorem rlook_any {p r t u q : Nat} {a : Option Addr} {c : Nat} {L : List ByteArray} {P : List Nat} {n : Int} {w : World} (s : ByteArray) (h : GAt p r t u q a c L P n w) (hG : Good L P) (hm : P.length ≤ 16777216) (hs : s.size ≤ 1048576) :
    Calls Try.prog 21 #[.pointer (some ⟨p, 0, none⟩), .string s] w fun e w' => e = .returned (.int .i64 (lookT P L s).1) ∧ GAt p r t u q a c L P ((lookT P L s).2 : Nat) w' ∧ Turns (fun k => k = p) w w' := by
  have C1 := Lib.hid (rbegin_any h)
  have C2 := Lib.hid (rtexts_any h)
  have C3 := Lib.hid (rplaces_any h)
  have C4 := Lib.hid (rfirst_any u q P s w h.pl hm (by have := hG.eight; omega) hs)
  have H := Lib.hid h
  obtain ⟨d, hd1, hd2, hd3, hd4⟩ := hG.part.look hG.room s
  have hm0 : 0 < P.length := by omega
  rw [hd2]
  obtain ⟨st, hst⟩ : ∃ st, hashN s % P.length = st := ⟨_, rfl⟩
  rw [hst] at C4 hd3 hd4 ⊢
  have hstm : st < P.length := by rw [← hst]; exact Nat.mod_lt _ hm0
  have HE := Lib.hid hd3
  have HN := Lib.hid hd4
  have HAN : Hid (∀ e, e = d → (st + e) % P.length = (st + d) % P.length) := Lib.hid (fun e h => by rw [h])
  have HPV := Lib.hid (fun j (hj : j < P.length) => hG.part.vals j hj)
  have hlL : L.length ≤ 8388608 := by have := hG.half; omega
  show Calls _ _ _ _ fun e w' => e = .returned (.int .i64 ((st + d) % P.length : Nat)) ∧ GAt p r t u q a c L P ((1 + d : Nat) : Int) w' ∧ Turns (fun k => k = p) w w'
  generalize (st + d) % P.length = ans at *
  clear h hd2 hd3 hd4 hst hG
  go_enter Try.func21, Try.ntmps21
  go_wp2_with fail
  refine C1.out.mono ?_
  rintro o w1 ⟨rfl, rfl⟩
  go_wp2_with fail
  refine C2.out.mono ?_
  rintro o w1 ⟨rfl, rfl⟩
  go_wp2_with fail
  refine C3.out.mono ?_
  rintro o w1 ⟨rfl, rfl⟩
  go_wp2_with fail
  refine C4.out.mono ?_
  rintro o w1 ⟨rfl, x, hw1⟩
  have H1 := Lib.hid (H.out.drewN x)
  have HT1 := Lib.hid ((Turns.refl (fun k => k = p) w).drewN x)
  rw [← hw1] at H1 HT1
  have c1 := H1.out.c1
  have f1 := H1.out.tab.frozen 1
  have H2 := Lib.hid (H1.out.looked 1)
  have HT2 := Lib.hid (HT1.out.setCell (p := ⟨p, 1, none⟩) (Or.inl rfl) (.int .i64 1))
  clear hw1 C1 C2 C3 C4
  go_wp2
  go_loopg [7] d (fun kx pv wr => ∃ e : Nat, e + kx = d ∧ pv = .int .i64 ((st + e) % P.length : Nat) ∧ GAt p r t u q a c L P ((1 + e : Nat) : Int) wr ∧ Turns (fun k => k = p) w wr)
  case atStart => exact ⟨0, Nat.zero_add _, by rw [Nat.add_zero, Nat.mod_eq_of_lt hstm], H2.out, HT2.out⟩
  case round =>
    clear c1 f1 H2 HT2 H1 HT1
    obtain ⟨e, hed, rfl, hga, htu⟩ := hrel
    have HNX : Hid (((st + e) % P.length + 1) % P.length = (st + (e + 1)) % P.length) := Lib.hid (by rw [Nat.mod_add_mod]; rfl)
    have HWE : Hid (e < d → ¬ Ends P L s ((st + e) % P.length)) := Lib.hid (fun h => HN.out e h)
    have HWZ : Hid (e = d → Ends P L s ((st + e) % P.length)) := Lib.hid (fun h => by rw [HAN.out e h]; exact HE.out)
    have HD : Hid (e = d → (st + e) % P.length = ans) := Lib.hid (HAN.out e)
    obtain ⟨sl, hsl⟩ : ∃ sl, (st + e) % P.length = sl := ⟨_, rfl⟩
    have hslm : sl < P.length := by rw [← hsl]; exact Nat.mod_lt _ hm0
    rw [hsl] at HNX HWE HWZ HD ⊢
    clear hsl
    have hvL := HPV.out sl hslm
    have CA := Lib.hid (rat_any u q P sl wr hga.pl hslm (by omega))
    have CN := Lib.hid (rnext_any u q P sl wr hga.pl hm hm0 hslm)
    unfold Ends at HWE HWZ
    generalize valAt P sl = v at *
    have HGA := Lib.hid hga
    have HTU := Lib.hid htu
    by_cases hv0 : v = 0
    · subst hv0
      have hdd : e = d := by
        rcases Nat.lt_or_ge e d with hlt | hge
        · exact absurd (Or.inl rfl) (HWE.out hlt)
        · omega
      rw [show (decide ((0 : Nat) ≠ 0)) = false from rfl] at CA
      have HAE := Lib.hid (HD.out hdd)
      subst hdd
      clear hga htu
      go_wp2_with fail
      refine CA.out.mono ?_
      rintro o w2 ⟨rfl, rfl⟩
      go_wp2
      go_ret
      exact ⟨by rw [← HAE.out]; rfl, HGA.out, HTU.out⟩
    · obtain ⟨y, hy⟩ : ∃ y, v - 1 = y := ⟨_, rfl⟩
      have CT := Lib.hid (rtat_any hga.tx y (by omega))
      rw [hy] at CA HWE HWZ
      rw [decide_eq_true hv0] at CA
      clear hy
      generalize textAt L y = tx at *
      by_cases hts : tx = s
      · have hdd : e = d := by
          rcases Nat.lt_or_ge e d with hlt | hge
          · exact absurd (Or.inr hts) (HWE.out hlt)
          · omega
        have HAE := Lib.hid (HD.out hdd)
        subst hdd
        subst hts
        clear hga htu
        go_wp2_with fail
        refine CA.out.mono ?_
        rintro o w2 ⟨rfl, rfl⟩
        go_wp2_with fail
        refine CT.out.mono ?_
        rintro o w2 ⟨rfl, rfl⟩
        go_wp2
        go_ret
        exact ⟨by rw [← HAE.out]; rfl, HGA.out, HTU.out⟩
      · have hlt : e < d := by
          rcases Nat.lt_or_ge e d with hlt | hge
          · exact hlt
          · rcases HWZ.out (by omega) with h | h
            · exact absurd h hv0
            · exact absurd h hts
        have j1 : (tx.toList == s.toList) = false := list_ne hts
        generalize (sl + 1) % P.length = s2 at *
        have c1 := hga.c1
        have f1 := hga.tab.frozen 1
        have HG2 := Lib.hid (hga.looked (((1 + e : Nat) : Int) + 1))
        have HT2 := Lib.hid (htu.setCell (p := ⟨p, 1, none⟩) (Or.inl rfl) (.int .i64 (((1 + e : Nat) : Int) + 1)))
        have HN1 : Hid (((1 + e : Nat) : Int) + 1 = ((1 + (e + 1) : Nat) : Int)) := Lib.hid (by omega)
        have hnb : 1 + e ≤ 16777217 := by omega
        generalize 1 + e = nn at *
        clear hga htu
        go_wp2_with fail
        refine CA.out.mono ?_
        rintro o w2 ⟨rfl, rfl⟩
        go_wp2_with fail
        refine CT.out.mono ?_
        rintro o w2 ⟨rfl, rfl⟩
        go_wp2_with fail
        refine CN.out.mono ?_
        rintro o w2 ⟨rfl, rfl⟩
        go_wp2
        go_roundg (d - (e + 1))
        case measure => omega
        case rel => exact ⟨e + 1, by omega, by rw [HNX.out], by rw [← HN1.out]; exact HG2.out, HT2.out⟩
end Go.Proofs.Ytkleaedfpgaohaa
