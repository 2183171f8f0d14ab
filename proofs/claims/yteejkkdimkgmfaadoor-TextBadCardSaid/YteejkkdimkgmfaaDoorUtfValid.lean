/-
  THE CONTRACT OF unicode/utf8.Valid AT A SLICE OF BYTES: it returns validD of the bytes; of what was there before the call nothing turns.
-/
import Derived.Test.YteejkkdimkgmfaaDoorUtfWord
import Derived.Shelf.Unicode.DecodeSlow
import Derived.Deep.LoopGhost
import Derived.Deep.DeepMust
import Derived.Deep.DeepBigQuietO
import Derived.Below
import Derived.Deep.CutBlock
import Derived.Deep.DeepCutAuto
set_option linter.unusedVariables false
namespace Go.Proofs.YteejkkdimkgmfaaDoor
open Go.RowKit Go.Lib

def SlAt (w : World) (b : Nat) (A : Option Addr) (t : ByteArray) : Prop := 0 < t.size → ∃ off, A = some ⟨b, off, none⟩ ∧ CellsAt w b off t
theorem CellsAt.below {w w' : World} {b off : Nat} {t : ByteArray} (h : CellsAt w b off t) {B : Nat} (hB : Below B w w') (hb : b < B) : CellsAt w' b off t :=
  fun i hi => by rw [hB.cell (p := ⟨b, off + i, none⟩) hb]; exact h i hi
theorem CellsAt.drop {w : World} {b off : Nat} {t : ByteArray} (h : CellsAt w b off t) (k : Nat) : CellsAt w b (off + k) (t.extract k t.size) := by
  intro i hi
  rw [Lib.ext_size] at hi
  have := h (k + i) (by omega)
  rw [Nat.add_assoc, this, ← getD_get!', ← getD_get!', Lib.ext_list]
  simp [List.getD]
theorem SlAt.drop {w : World} {b off : Nat} {t : ByteArray} (h : CellsAt w b off t) (k : Nat) (A : Option Addr) (hA : ¬ t.size = k → A = some ⟨b, off + k, none⟩) : SlAt w b A (t.extract k t.size) := by
  intro h0
  rw [Lib.ext_size] at h0
  exact ⟨off + k, hA (by omega), h.drop k⟩
theorem below_drewNv {B : Nat} {a w : World} (h : Below B a w) : ∀ q, Below B a (w.drewN q)
  | 0 => h
  | q + 1 => (below_drewNv h q).drew
theorem accept_new (wr : World) (LO HI : Nat) :
    (wr.alloc (Obj.cells #[.int .u8 (LO : Int), .int .u8 (HI : Int)] 56)).cell? ⟨wr.heap.size, 0, none⟩ = some (.int .u8 (LO : Int)) ∧
    (wr.alloc (Obj.cells #[.int .u8 (LO : Int), .int .u8 (HI : Int)] 56)).cell? ⟨wr.heap.size, 1, none⟩ = some (.int .u8 (HI : Int)) ∧
    (∀ b o, b < wr.heap.size → (wr.alloc (Obj.cells #[.int .u8 (LO : Int), .int .u8 (HI : Int)] 56)).cell? ⟨b, o, none⟩ = wr.cell? ⟨b, o, none⟩) ∧
    wr.heap.size < (wr.alloc (Obj.cells #[.int .u8 (LO : Int), .int .u8 (HI : Int)] 56)).heap.size := by
  have e : (wr.alloc (Obj.cells #[.int .u8 (LO : Int), .int .u8 (HI : Int)] 56)).heap[wr.heap.size]? = some (.cells #[.int .u8 (LO : Int), .int .u8 (HI : Int)] 56 (0, 0)) := by
    show (wr.heap.push _)[wr.heap.size]? = _
    rw [Array.getElem?_push_size]
  refine ⟨?_, ?_, fun b o h => ((Below.refl _ wr).alloc (Nat.le_refl _) _).cell (p := ⟨b, o, none⟩) h, ?_⟩
  · unfold World.cell?; simp only [e]; rfl
  · unfold World.cell?; simp only [e]; rfl
  · show _ < (wr.heap.push _).size
    rw [Array.size_push]; omega
set_option maxRecDepth 100000 in
theorem and7 : ∀ X : Fin 256, bits .and .u8 ((X.val : Nat) : Int) 7 = ((X.val % 8 : Nat) : Int) := by decide

set_option maxHeartbeats 16000000 in
set_option maxRecDepth 1000000 in
theorem utf8_valid (s : ByteArray) (b off cap : Nat) (w : World) (hcap : s.size ≤ cap) (hs : s.size ≤ 4294967296) (hb : b < w.heap.size) (hc : CellsAt w b off s) (hT : Lib.Utf8Tabs 0 1 w) :
    Calls Tryd.prog 18 #[.slice (some ⟨b, off, none⟩) s.size cap] w fun e w' => e = .returned (.bool (Lib.validD s.data.toList)) ∧ Below w.heap.size w w' := by
  have mixed : Tryd.prog.follows .mixedOrders = true := by kernel_rfl
  obtain ⟨ANS, hANS⟩ : ∃ ANS, Lib.validD s.data.toList = ANS := ⟨_, rfl⟩
  rw [hANS]
  go_enter Tryd.func18, Tryd.ntmps18
  go_wp2
  go_loopg [0] (s.size + 1) (fun gk s0 wx => Below w.heap.size w wx ∧ ∃ (t : ByteArray) (A : Option Addr), s0 = .slice A t.size t.size ∧ SlAt w b A t ∧ Lib.validD t.data.toList = ANS ∧ t.size < gk ∧ t.size ≤ 4294967296)
  case atStart => exact ⟨Below.refl _ _, s, some ⟨b, off, none⟩, rfl, fun _ => ⟨off, rfl, hc⟩, hANS, by omega, hs⟩
  case round =>
    obtain ⟨hbw, t, A, rfl, hA, hv, hg, hts⟩ := hrel
    clear hANS
    have hTr := Utf8Tabs_below hT hbw
    by_cases h0 : 0 < t.size
    · obtain ⟨off, rfl, hct⟩ := hA h0
      clear hA hc
      have hcr : CellsAt wr b off t := hct.below hbw hb
      obtain ⟨g', rfl⟩ : ∃ g', gk = g' + 1 := ⟨gk - 1, by omega⟩
      have h0z : (0 : Int) < (t.size : Int) := by omega
      obtain ⟨x0, hx0⟩ : ∃ x0, t.get! 0 = x0 := ⟨_, rfl⟩
      have hs0 := cells_head hcr h0
      rw [hx0] at hs0
      have hx0lt : x0.toNat < 256 := x0.toNat_lt
      by_cases hasc : x0.toNat < 128
      · as_aux_lemma =>
        -- A BYTE BELOW 128: THE FAST PATH
        have hascz : (x0.toNat : Int) < 128 := by omega
        have a1 : Lib.Asc t 1 := Lib.asc_one t h0 (by rw [hx0]; exact hasc)
        obtain ⟨t1, ht1⟩ : ∃ t1, t.extract 1 t.size = t1 := ⟨_, rfl⟩
        have z1 : t1.size + 1 = t.size := by rw [← ht1, Lib.ext_size]; omega
        have v1 : Lib.validD t1.data.toList = ANS := by rw [← ht1, Lib.valid_skip t 1 a1]; exact hv
        have HCT := Lib.hid hct
        clear hTr hT hv a1 hct hcr
        have hbr : b < wr.heap.size := by have := hbw.size; omega
        have n1 : t.size - 1 = t1.size := by omega
        obtain ⟨o1, ho1⟩ : ∃ o, off + 1 = o := ⟨_, rfl⟩
        have hC1 : CellsAt w b o1 t1 := by rw [← ho1, ← ht1]; exact HCT.out.drop 1
        clear ht1 HCT
        by_cases c1 : t.size = 1
        · have c8z : ¬ ((8 : Int) < (t1.size : Int)) := by omega
          have S1 : ∀ A, SlAt w b A t1 := fun A h => absurd h (by omega)
          clear hC1
          go_wp2
          go_roundg g'
          case measure => omega
          case rel => exact ⟨hbw, t1, some ⟨b, off, none⟩, by rw [show t1.size = 0 by omega], S1 _, v1, by omega, by omega⟩
        have S1 := Lib.hid (show SlAt w b (some ⟨b, o1, none⟩) t1 from fun _ => ⟨o1, rfl, hC1⟩)
        have HC1 := Lib.hid hC1
        clear hC1
        by_cases c8 : 8 < t1.size
        · have c8z : (8 : Int) < (t1.size : Int) := by omega
          have c8n : ¬ t1.size = 8 := by omega
          have s8a : (8 : Int) ≤ (t1.size : Int) := by omega
          obtain ⟨A1, hA1⟩ : ∃ A1, Lib.leNat [t1.get! 0, t1.get! 1, t1.get! 2, t1.get! 3, t1.get! 4, t1.get! 5, t1.get! 6, t1.get! 7] = A1 := ⟨_, rfl⟩
          have lA1 : A1 < 18446744073709551616 := hA1 ▸ Lib.word_lt t1
          have cW1 := word_any b o1 t1.size t1 wr (by omega) (HC1.out.below hbw hb)
          have kA1 := Lib.word_asc t1 (by omega)
          rw [hA1] at kA1 cW1
          have hand1 : bits .and .u64 (A1 : Int) 9259542123273814144 = ((A1 &&& 9259542123273814144 : Nat) : Int) := u64_and_nat A1 9259542123273814144 lA1 (by omega)
          obtain ⟨Z1, hZ1⟩ : ∃ Z1, A1 &&& 9259542123273814144 = Z1 := ⟨_, rfl⟩
          rw [hZ1] at hand1 kA1
          by_cases hz1 : Z1 = 0
          · have hz1b : ((Z1 : Int) == 0) = true := by simp [hz1]
            have a8 : Lib.Asc t1 8 := kA1.1 hz1
            obtain ⟨t2, ht2⟩ : ∃ t2, t1.extract 8 t1.size = t2 := ⟨_, rfl⟩
            have z2 : t2.size + 8 = t1.size := by rw [← ht2, Lib.ext_size]; omega
            have n2 : t1.size - 8 = t2.size := by omega
            obtain ⟨o2, ho2⟩ : ∃ o, o1 + 8 = o := ⟨_, rfl⟩
            have HC2 : Hid (CellsAt w b o2 t2) := by rw [← ho2, ← ht2]; exact HC1.out.drop 8
            have S2 := Lib.hid (show SlAt w b (some ⟨b, o2, none⟩) t2 from fun _ => ⟨o2, rfl, HC2.out⟩)
            have v2 : Lib.validD t2.data.toList = ANS := by rw [← ht2, Lib.valid_skip t1 8 a8]; exact v1
            clear kA1 a8 v1 ht2 hA1 hZ1
            go_wp2_with (go_at_call 28; refine cW1.mono ?_; rintro e W1 ⟨rfl, q1, rfl⟩)
            have hb1 : Below w.heap.size w (wr.drewN q1) := below_drewNv hbw q1
            generalize wr.drewN q1 = wq at hb1 ⊢
            clear cW1 hbw hs0
            by_cases c16 : 16 < t2.size
            · have c16z : (16 : Int) < (t2.size : Int) := by omega
              have c16n : ¬ t2.size = 16 := by omega
              have c16m : ¬ t2.size = 8 := by omega
              have s8z : (8 : Int) ≤ (t2.size : Int) := by omega
              have s16z : (16 : Int) ≤ (t2.size : Int) := by omega
              obtain ⟨t2b, ht2b⟩ : ∃ t2b, t2.extract 8 t2.size = t2b := ⟨_, rfl⟩
              have z2b : t2b.size + 8 = t2.size := by rw [← ht2b, Lib.ext_size]; omega
              have n2b : t2.size - 8 = t2b.size := by omega
              obtain ⟨o2b, ho2b⟩ : ∃ o, o2 + 8 = o := ⟨_, rfl⟩
              have HC2b : Hid (CellsAt w b o2b t2b) := by rw [← ho2b, ← ht2b]; exact HC2.out.drop 8
              obtain ⟨A2, hA2⟩ : ∃ A2, Lib.leNat [t2.get! 0, t2.get! 1, t2.get! 2, t2.get! 3, t2.get! 4, t2.get! 5, t2.get! 6, t2.get! 7] = A2 := ⟨_, rfl⟩
              have lA2 : A2 < 18446744073709551616 := hA2 ▸ Lib.word_lt t2
              have q2 : CellsAt wq b o2 t2 := HC2.out.below hb1 hb
              have cW2 := fun n => word_any b o2 t2.size t2 (wq.drewN n) (by omega) q2
              have kA2 := Lib.word_asc t2 (by omega)
              rw [hA2] at kA2 cW2
              obtain ⟨A3, hA3⟩ : ∃ A3, Lib.leNat [t2b.get! 0, t2b.get! 1, t2b.get! 2, t2b.get! 3, t2b.get! 4, t2b.get! 5, t2b.get! 6, t2b.get! 7] = A3 := ⟨_, rfl⟩
              have lA3 : A3 < 18446744073709551616 := hA3 ▸ Lib.word_lt t2b
              have q2b : CellsAt wq b o2b t2b := HC2b.out.below hb1 hb
              have cW3 := fun n => word_any b o2b t2b.size t2b (wq.drewN n) (by omega) q2b
              have kA3 := Lib.word_asc t2b (by omega)
              rw [hA3] at kA3 cW3
              clear q2 q2b
              have hor2 : bits .or .u64 (A2 : Int) (A3 : Int) = ((A2 ||| A3 : Nat) : Int) := u64_or_nat A2 A3 lA2 lA3
              have lor2 : A2 ||| A3 < 18446744073709551616 := Nat.or_lt_two_pow (n := 64) lA2 lA3
              have hand2 : bits .and .u64 ((A2 ||| A3 : Nat) : Int) 9259542123273814144 = (((A2 ||| A3) &&& 9259542123273814144 : Nat) : Int) := u64_and_nat _ 9259542123273814144 lor2 (by omega)
              have k2 : (A2 ||| A3) &&& 9259542123273814144 = 0 → Lib.Asc t2 16 := fun h0' => by
                obtain ⟨e1, e2⟩ := (Lib.or_mask A2 A3 _).1 h0'
                exact Lib.asc_add t2 8 8 (kA2.1 e1) (by rw [ht2b]; exact kA3.1 e2)
              obtain ⟨O2, hO2⟩ : ∃ O2, A2 ||| A3 = O2 := ⟨_, rfl⟩
              rw [hO2] at hor2 hand2 k2
              obtain ⟨Z2, hZ2⟩ : ∃ Z2, O2 &&& 9259542123273814144 = Z2 := ⟨_, rfl⟩
              rw [hZ2] at hand2 k2
              clear kA2 kA3 lor2 hO2 hZ2 hA2 hA3 ht2b
              by_cases hz2 : Z2 = 0
              · have hz2b : ((Z2 : Int) == 0) = true := by simp [hz2]
                have a16 := k2 hz2
                obtain ⟨t3, ht3⟩ : ∃ t3, t2.extract 16 t2.size = t3 := ⟨_, rfl⟩
                have z3 : t3.size + 16 = t2.size := by rw [← ht3, Lib.ext_size]; omega
                have n3 : t2.size - 16 = t3.size := by omega
                obtain ⟨o3, ho3⟩ : ∃ o, o2 + 16 = o := ⟨_, rfl⟩
                have HC3 : Hid (CellsAt w b o3 t3) := by rw [← ho3, ← ht3]; exact HC2.out.drop 16
                have S3 := Lib.hid (show SlAt w b (some ⟨b, o3, none⟩) t3 from fun _ => ⟨o3, rfl, HC3.out⟩)
                have v3 : Lib.validD t3.data.toList = ANS := by rw [← ht3, Lib.valid_skip t2 16 a16]; exact v2
                clear k2 a16 v2 ht3
                go_big_quiet_o (first | (go_at_call 28; with_reducible refine Calls.quiet_of (cW2 _)) | (go_at_call 28; with_reducible refine Calls.quiet_of (cW3 _)))
                have hb2 : Below w.heap.size w (wq.drewN nq) := below_drewNv hb1 nq
                generalize wq.drewN nq = wq2 at hb2 ⊢
                clear cW2 cW3 hb1
                go_wp2
                -- 32 bytes a round
                go_loopg [0] (t3.size + 1) (fun g2 s0 wx => Below w.heap.size w wx ∧ ∃ (u : ByteArray) (A : Option Addr), s0 = .slice A u.size u.size ∧ SlAt w b A u ∧ Lib.validD u.data.toList = ANS ∧ u.size < g2 ∧ u.size ≤ t3.size)
                case atStart => exact ⟨hb2, t3, some ⟨b, o3, none⟩, rfl, S3.out, v3, by omega, Nat.le_refl _⟩
                case round =>
                  obtain ⟨hbu, u, A, rfl, hAu, vu, hgu, hut⟩ := hrel
                  have SU := Lib.hid hAu
                  clear hAu HC3 S3 HC2 S2 HC1 S1 v3 hb2
                  by_cases c32 : 32 < u.size
                  · obtain ⟨g3, rfl⟩ : ∃ g3, gk = g3 + 1 := ⟨gk - 1, by omega⟩
                    obtain ⟨ou, rfl, hcu⟩ := SU.out (by omega)
                    have HCU := Lib.hid hcu
                    clear hcu
                    have c32z : (32 : Int) < (u.size : Int) := by omega
                    have s8u : (8 : Int) ≤ (u.size : Int) := by omega
                    have s8v : ¬ u.size = 8 := by omega
                    have s16u : (16 : Int) ≤ (u.size : Int) := by omega
                    have s16v : ¬ u.size = 16 := by omega
                    have s24u : (24 : Int) ≤ (u.size : Int) := by omega
                    have s24v : ¬ u.size = 24 := by omega
                    have s32u : (32 : Int) ≤ (u.size : Int) := by omega
                    have s32v : ¬ u.size = 32 := by omega
                    obtain ⟨ub, hub⟩ : ∃ x, u.extract 8 u.size = x := ⟨_, rfl⟩
                    have zub : ub.size + 8 = u.size := by rw [← hub, Lib.ext_size]; omega
                    have nub : u.size - 8 = ub.size := by omega
                    obtain ⟨oub, houb⟩ : ∃ o, ou + 8 = o := ⟨_, rfl⟩
                    have qub : CellsAt wr b oub ub := by rw [← houb, ← hub]; exact (HCU.out.drop 8).below hbu hb
                    obtain ⟨uc, huc⟩ : ∃ x, u.extract 16 u.size = x := ⟨_, rfl⟩
                    have zuc : uc.size + 16 = u.size := by rw [← huc, Lib.ext_size]; omega
                    have nuc : u.size - 16 = uc.size := by omega
                    obtain ⟨ouc, houc⟩ : ∃ o, ou + 16 = o := ⟨_, rfl⟩
                    have quc : CellsAt wr b ouc uc := by rw [← houc, ← huc]; exact (HCU.out.drop 16).below hbu hb
                    obtain ⟨ud, hud⟩ : ∃ x, u.extract 24 u.size = x := ⟨_, rfl⟩
                    have zud : ud.size + 24 = u.size := by rw [← hud, Lib.ext_size]; omega
                    have nud : u.size - 24 = ud.size := by omega
                    obtain ⟨oud, houd⟩ : ∃ o, ou + 24 = o := ⟨_, rfl⟩
                    have qud : CellsAt wr b oud ud := by rw [← houd, ← hud]; exact (HCU.out.drop 24).below hbu hb
                    have qu : CellsAt wr b ou u := HCU.out.below hbu hb
                    obtain ⟨B0, hB0⟩ : ∃ x, Lib.leNat [u.get! 0, u.get! 1, u.get! 2, u.get! 3, u.get! 4, u.get! 5, u.get! 6, u.get! 7] = x := ⟨_, rfl⟩
                    have lB0 : B0 < 18446744073709551616 := hB0 ▸ Lib.word_lt u
                    have cB0 := fun n => word_any b ou u.size u (wr.drewN n) (by omega) qu
                    have kB0 := Lib.word_asc u (by omega)
                    rw [hB0] at kB0 cB0
                    obtain ⟨B1, hB1⟩ : ∃ x, Lib.leNat [ub.get! 0, ub.get! 1, ub.get! 2, ub.get! 3, ub.get! 4, ub.get! 5, ub.get! 6, ub.get! 7] = x := ⟨_, rfl⟩
                    have lB1 : B1 < 18446744073709551616 := hB1 ▸ Lib.word_lt ub
                    have cB1 := fun n => word_any b oub ub.size ub (wr.drewN n) (by omega) qub
                    have kB1 := Lib.word_asc ub (by omega)
                    rw [hB1] at kB1 cB1
                    obtain ⟨B2, hB2⟩ : ∃ x, Lib.leNat [uc.get! 0, uc.get! 1, uc.get! 2, uc.get! 3, uc.get! 4, uc.get! 5, uc.get! 6, uc.get! 7] = x := ⟨_, rfl⟩
                    have lB2 : B2 < 18446744073709551616 := hB2 ▸ Lib.word_lt uc
                    have cB2 := fun n => word_any b ouc uc.size uc (wr.drewN n) (by omega) quc
                    have kB2 := Lib.word_asc uc (by omega)
                    rw [hB2] at kB2 cB2
                    obtain ⟨B3, hB3⟩ : ∃ x, Lib.leNat [ud.get! 0, ud.get! 1, ud.get! 2, ud.get! 3, ud.get! 4, ud.get! 5, ud.get! 6, ud.get! 7] = x := ⟨_, rfl⟩
                    have lB3 : B3 < 18446744073709551616 := hB3 ▸ Lib.word_lt ud
                    have cB3 := fun n => word_any b oud ud.size ud (wr.drewN n) (by omega) qud
                    have kB3 := Lib.word_asc ud (by omega)
                    rw [hB3] at kB3 cB3
                    clear qu qub quc qud
                    have ho1' : bits .or .u64 (B0 : Int) (B1 : Int) = ((B0 ||| B1 : Nat) : Int) := u64_or_nat B0 B1 lB0 lB1
                    have ho2' : bits .or .u64 (B2 : Int) (B3 : Int) = ((B2 ||| B3 : Nat) : Int) := u64_or_nat B2 B3 lB2 lB3
                    have lo1 : B0 ||| B1 < 18446744073709551616 := Nat.or_lt_two_pow (n := 64) lB0 lB1
                    have lo2 : B2 ||| B3 < 18446744073709551616 := Nat.or_lt_two_pow (n := 64) lB2 lB3
                    have ho3' : bits .or .u64 ((B0 ||| B1 : Nat) : Int) ((B2 ||| B3 : Nat) : Int) = (((B0 ||| B1) ||| (B2 ||| B3) : Nat) : Int) := u64_or_nat _ _ lo1 lo2
                    have lo3 : (B0 ||| B1) ||| (B2 ||| B3) < 18446744073709551616 := Nat.or_lt_two_pow (n := 64) lo1 lo2
                    have hand3 : bits .and .u64 (((B0 ||| B1) ||| (B2 ||| B3) : Nat) : Int) 9259542123273814144 = ((((B0 ||| B1) ||| (B2 ||| B3)) &&& 9259542123273814144 : Nat) : Int) := u64_and_nat _ 9259542123273814144 lo3 (by omega)
                    have k3 : ((B0 ||| B1) ||| (B2 ||| B3)) &&& 9259542123273814144 = 0 → Lib.Asc u 32 := fun h0' => by
                      obtain ⟨e01, e23⟩ := (Lib.or_mask _ _ _).1 h0'
                      obtain ⟨e0, e1⟩ := (Lib.or_mask _ _ _).1 e01
                      obtain ⟨e2, e3⟩ := (Lib.or_mask _ _ _).1 e23
                      have s16 : Lib.Asc u 16 := Lib.asc_add u 8 8 (kB0.1 e0) (by rw [hub]; exact kB1.1 e1)
                      have s24 : Lib.Asc u 24 := Lib.asc_add u 16 8 s16 (by rw [huc]; exact kB2.1 e2)
                      exact Lib.asc_add u 24 8 s24 (by rw [hud]; exact kB3.1 e3)
                    obtain ⟨P1, hP1⟩ : ∃ P1, B0 ||| B1 = P1 := ⟨_, rfl⟩
                    obtain ⟨P2, hP2⟩ : ∃ P2, B2 ||| B3 = P2 := ⟨_, rfl⟩
                    rw [hP1, hP2] at ho3' hand3 k3
                    rw [hP1] at ho1'
                    rw [hP2] at ho2'
                    obtain ⟨P3, hP3⟩ : ∃ P3, P1 ||| P2 = P3 := ⟨_, rfl⟩
                    rw [hP3] at ho3' hand3 k3
                    obtain ⟨Z3, hZ3⟩ : ∃ Z3, P3 &&& 9259542123273814144 = Z3 := ⟨_, rfl⟩
                    rw [hZ3] at hand3 k3
                    clear kB0 kB1 kB2 kB3 lo1 lo2 lo3 hP1 hP2 hP3 hZ3 hB0 hB1 hB2 hB3 hub huc hud
                    by_cases hz3 : Z3 = 0
                    · have hz3b : ((Z3 : Int) == 0) = true := by simp [hz3]
                      have a32 := k3 hz3
                      obtain ⟨u2, hu2⟩ : ∃ u2, u.extract 32 u.size = u2 := ⟨_, rfl⟩
                      have zu2 : u2.size + 32 = u.size := by rw [← hu2, Lib.ext_size]; omega
                      have nu2 : u.size - 32 = u2.size := by omega
                      have vu2 : Lib.validD u2.data.toList = ANS := by rw [← hu2, Lib.valid_skip u 32 a32]; exact vu
                      have SU2 : Hid (SlAt w b (some ⟨b, ou + 32, none⟩) u2) := by rw [← hu2]; exact fun _ => ⟨_, rfl, HCU.out.drop 32⟩
                      clear hu2 k3 a32
                      go_wp2_with fail
                      go_big_quiet_o (first | (go_at_call 28; with_reducible refine Calls.quiet_of (cB0 _)) | (go_at_call 28; with_reducible refine Calls.quiet_of (cB1 _)) | (go_at_call 28; with_reducible refine Calls.quiet_of (cB2 _)) | (go_at_call 28; with_reducible refine Calls.quiet_of (cB3 _)))
                      go_wp2
                      go_roundg g3
                      case measure => omega
                      case rel => exact ⟨below_drewNv hbu nq, u2, _, rfl, SU2.out, vu2, by omega, by omega⟩
                    · have hz3b : ((Z3 : Int) == 0) = false := by simp; omega
                      clear k3
                      go_wp2_with fail
                      go_big_quiet_o (first | (go_at_call 28; with_reducible refine Calls.quiet_of (cB0 _)) | (go_at_call 28; with_reducible refine Calls.quiet_of (cB1 _)) | (go_at_call 28; with_reducible refine Calls.quiet_of (cB2 _)) | (go_at_call 28; with_reducible refine Calls.quiet_of (cB3 _)))
                      go_wp2
                      go_roundg g'
                      case measure => omega
                      case rel => exact ⟨below_drewNv hbu nq, u, _, rfl, SU.out, vu, by omega, by omega⟩
                  · have c32z : ¬ ((32 : Int) < (u.size : Int)) := by omega
                    have c32b : decide ((32 : Int) < (u.size : Int)) = false := decide_eq_false c32z
                    go_wp2_with fail
                    go_big_quiet_o (fail)
                    go_wp2
                    go_roundg g'
                    case measure => omega
                    case rel => exact ⟨below_drewNv hbu nq, u, _, rfl, SU.out, vu, by omega, by omega⟩
              · have hz2b : ((Z2 : Int) == 0) = false := by simp; omega
                go_big_quiet_o (first | (go_at_call 28; with_reducible refine Calls.quiet_of (cW2 _)) | (go_at_call 28; with_reducible refine Calls.quiet_of (cW3 _)))
                go_wp2
                go_roundg g'
                case measure => omega
                case rel => exact ⟨below_drewNv hb1 nq, t2, _, rfl, S2.out, v2, by omega, by omega⟩
            · have c16z : ¬ ((16 : Int) < (t2.size : Int)) := by omega
              have c16b : decide ((16 : Int) < (t2.size : Int)) = false := decide_eq_false c16z
              go_big_quiet_o (fail)
              go_wp2
              go_roundg g'
              case measure => omega
              case rel => exact ⟨below_drewNv hb1 nq, t2, _, rfl, S2.out, v2, by omega, by omega⟩
          · have hz1b : ((Z1 : Int) == 0) = false := by simp; omega
            go_wp2_with (go_at_call 28; refine cW1.mono ?_; rintro e W1 ⟨rfl, q1, rfl⟩)
            go_roundg g'
            case measure => omega
            case rel => exact ⟨below_drewNv hbw q1, t1, _, rfl, S1.out, v1, by omega, by omega⟩
        · have c8z : ¬ ((8 : Int) < (t1.size : Int)) := by omega
          go_wp2
          go_roundg g'
          case measure => omega
          case rel => exact ⟨hbw, t1, _, rfl, S1.out, v1, by omega, by omega⟩
      · as_aux_lemma =>
        -- A LEAD BYTE FROM 128 ON
        have hbr : b < wr.heap.size := by have := hbw.size; omega
        have hge : 128 ≤ x0.toNat := by omega
        have hascz : ¬ ((x0.toNat : Int) < 128) := by omega
        obtain ⟨x1, hx1⟩ : ∃ x1, t.get! 1 = x1 := ⟨_, rfl⟩
        obtain ⟨x2, hx2⟩ : ∃ x2, t.get! 2 = x2 := ⟨_, rfl⟩
        obtain ⟨x3, hx3⟩ : ∃ x3, t.get! 3 = x3 := ⟨_, rfl⟩
        have l1 := x1.toNat_lt; have l2 := x2.toNat_lt; have l3 := x3.toNat_lt
        have hne : t.data.toList ≠ [] := fun h => by rw [Lib.size_eq, h] at h0; simp at h0
        have hlead := Lib.validD_lead t.data.toList hne (by rw [Lib.getD_get!', hx0]; exact hge)
        rw [Lib.getD_get!', Lib.getD_get!', Lib.getD_get!', Lib.getD_get!', hx0, hx1, hx2, hx3, ← Lib.size_eq, hv] at hlead
        have hc0 := hTr.1 x0.toNat hx0lt
        have hXlt : Lib.firstT x0.toNat < 256 := by rcases Lib.firstT_cases x0.toNat with h | h | h | h | h | h | h | h | h <;> omega
        obtain ⟨X, hX⟩ : ∃ X, Lib.firstT x0.toNat = X := ⟨_, rfl⟩
        rw [hX] at hc0 hXlt hlead
        have h7 := and7 ⟨X, hXlt⟩
        simp only at h7
        have ha0 : wr.cell? ⟨1, X / 16 * 2, none⟩ = some (.int .u8 (Lib.accLo (X / 16))) := by rw [Nat.mul_comm]; exact (hTr.2 (X / 16) (by omega)).1
        have ha1 : wr.cell? ⟨1, X / 16 * 2 + 1, none⟩ = some (.int .u8 (Lib.accHi (X / 16))) := by rw [Nat.mul_comm]; exact (hTr.2 (X / 16) (by omega)).2
        obtain ⟨LO, hLO⟩ : ∃ LO, Lib.accLo (X / 16) = LO := ⟨_, rfl⟩
        obtain ⟨HI, hHI⟩ : ∃ HI, Lib.accHi (X / 16) = HI := ⟨_, rfl⟩
        rw [hLO] at ha0 hlead
        rw [hHI] at ha1 hlead
        obtain ⟨SZ, hSZ⟩ : ∃ SZ, X % 8 = SZ := ⟨_, rfl⟩
        rw [hSZ] at hlead
        have HCT := Lib.hid hct
        have HCR := Lib.hid hcr
        have HX1 := Lib.hid hx1
        have HX2 := Lib.hid hx2
        have HX3 := Lib.hid hx3
        clear hTr hT hX hv hLO hHI hne hct hcr hx0 hx1 hx2 hx3
        by_cases s2 : SZ = 2
        · -- 'case 2'
          subst s2
          have hSZz : (X : Int) % 8 = 2 := by omega
          simp only [Lib.checkN, Nat.reduceEqDiff, if_true, if_false] at hlead
          go_upto_region 18 with fail
          obtain ⟨k0, k1, k2, k3⟩ := accept_new wr LO HI
          have kb := hbw.alloc hbw.size (Obj.cells #[.int .u8 (LO : Int), .int .u8 (HI : Int)] 56)
          generalize wr.alloc (Obj.cells #[.int .u8 (LO : Int), .int .u8 (HI : Int)] 56) = wa at *
          have hab : b < wa.heap.size := by omega
          have K2 := Lib.hid k2
          clear k2
          generalize wr.heap.size = ab at *
          go_cut [103] from 85 to 103 (fun c wx => c = .bool (decide (t.size < 2 ∨ x1.toNat < LO ∨ HI < x1.toNat)) ∧ Below w.heap.size w wx)
          case first =>
            by_cases q0 : t.size < 2
            · have q0z : (t.size : Int) < 2 := by omega
              go_big_quiet_o (fail)
              go_wp2
              go_meet
              exact ⟨congrArg Value.bool (decide_eq_true (p := t.size < 2 ∨ x1.toNat < LO ∨ HI < x1.toNat) (by omega)).symm, below_drewNv kb _⟩
            · have q0z : ¬ ((t.size : Int) < 2) := by omega
              have hz1 : (1 : Int) < (t.size : Int) := by omega
              have hp1 : 1 < t.size := by omega
              have hs1 : wa.cell? ⟨b, off + 1, none⟩ = some (.int .u8 (x1.toNat : Int)) := by rw [K2.out _ _ hbr, HCR.out 1 hp1, HX1.out]
              clear hs0 hc0 ha0 ha1 h7 hlead
              by_cases r0 : x1.toNat < LO
              · have r0z : (x1.toNat : Int) < (LO : Int) := by omega
                go_big_quiet_o (fail)
                go_wp2
                go_meet
                exact ⟨congrArg Value.bool (decide_eq_true (p := t.size < 2 ∨ x1.toNat < LO ∨ HI < x1.toNat) (by omega)).symm, below_drewNv kb _⟩
              · have r0z : ¬ ((x1.toNat : Int) < (LO : Int)) := by omega
                by_cases r1 : HI < x1.toNat
                · have r1z : (HI : Int) < (x1.toNat : Int) := by omega
                  go_big_quiet_o (fail)
                  go_wp2
                  go_meet
                  exact ⟨congrArg Value.bool (decide_eq_true (p := t.size < 2 ∨ x1.toNat < LO ∨ HI < x1.toNat) (by omega)).symm, below_drewNv kb _⟩
                · have r1z : ¬ ((HI : Int) < (x1.toNat : Int)) := by omega
                  go_big_quiet_o (fail)
                  go_wp2
                  go_meet
                  exact ⟨congrArg Value.bool (decide_eq_false (p := t.size < 2 ∨ x1.toNat < LO ∨ HI < x1.toNat) (by omega)).symm, below_drewNv kb _⟩
          case rest =>
            obtain ⟨rfl, hbc⟩ := hcut
            clear k0 k1 k3 kb hs0 hc0 ha0 ha1 h7
            by_cases hb : t.size < 2 ∨ x1.toNat < LO ∨ HI < x1.toNat
            · have hbd : decide (t.size < 2 ∨ x1.toNat < LO ∨ HI < x1.toNat) = true := decide_eq_true hb
              rw [if_pos hb] at hlead
              have HLD := Lib.hid hlead
              clear hlead
              go_wp2
              all_goals (go_ret; exact ⟨by rw [HLD.out]; rfl, hbc⟩)
            · have hbd : decide (t.size < 2 ∨ x1.toNat < LO ∨ HI < x1.toNat) = false := decide_eq_false hb
              rw [if_neg hb] at hlead
              have HLD := Lib.hid hlead
              have hk1 : 2 ≤ t.size := by omega
              have hk2 : (2 : Int) ≤ (t.size : Int) := by omega
              have n1 : t.size - 2 = (t.extract 2 t.size).size := (Lib.ext_size t 2).symm
              obtain ⟨t', ht'⟩ : ∃ t', t.extract 2 t.size = t' := ⟨_, rfl⟩
              rw [ht'] at n1
              have HV' : Hid (Lib.validD t'.data.toList = ANS) := by rw [← ht', Lib.ext_list]; exact HLD.out.symm
              have HA' : Hid (∀ A, (¬ t.size = 2 → A = some ⟨b, off + 2, none⟩) → SlAt w b A t') := fun A hA => by rw [← ht']; exact SlAt.drop HCT.out 2 A hA
              clear hlead ht'
              go_wp2
              all_goals
                go_roundg g'
                case measure => omega
                case rel => first | exact ⟨hbc, t', _, rfl, HA'.out _ (fun _ => rfl), HV'.out, by omega, by omega⟩ | exact ⟨hbc, t', _, rfl, HA'.out _ (fun h => absurd (by assumption) h), HV'.out, by omega, by omega⟩ | exact ⟨hbc, t', some ⟨b, off, none⟩, by rw [show t'.size = 0 by omega], HA'.out _ (fun h => absurd (by assumption) h), HV'.out, by omega, by omega⟩
        by_cases s3 : SZ = 3
        · -- 'case 3'
          subst s3
          have hSZz : (X : Int) % 8 = 3 := by omega
          simp only [Lib.checkN, Nat.reduceEqDiff, if_true, if_false] at hlead
          go_upto_region 22 with fail
          obtain ⟨k0, k1, k2, k3⟩ := accept_new wr LO HI
          have kb := hbw.alloc hbw.size (Obj.cells #[.int .u8 (LO : Int), .int .u8 (HI : Int)] 56)
          generalize wr.alloc (Obj.cells #[.int .u8 (LO : Int), .int .u8 (HI : Int)] 56) = wa at *
          have hab : b < wa.heap.size := by omega
          have K2 := Lib.hid k2
          clear k2
          generalize wr.heap.size = ab at *
          go_cut [138] from 108 to 138 (fun c wx => c = .bool (decide (t.size < 3 ∨ x1.toNat < LO ∨ HI < x1.toNat ∨ x2.toNat < 128 ∨ 191 < x2.toNat)) ∧ Below w.heap.size w wx)
          case first =>
            by_cases q0 : t.size < 3
            · have q0z : (t.size : Int) < 3 := by omega
              go_big_quiet_o (fail)
              go_wp2
              go_meet
              exact ⟨congrArg Value.bool (decide_eq_true (p := t.size < 3 ∨ x1.toNat < LO ∨ HI < x1.toNat ∨ x2.toNat < 128 ∨ 191 < x2.toNat) (by omega)).symm, below_drewNv kb _⟩
            · have q0z : ¬ ((t.size : Int) < 3) := by omega
              have hz1 : (1 : Int) < (t.size : Int) := by omega
              have hp1 : 1 < t.size := by omega
              have hs1 : wa.cell? ⟨b, off + 1, none⟩ = some (.int .u8 (x1.toNat : Int)) := by rw [K2.out _ _ hbr, HCR.out 1 hp1, HX1.out]
              have hz2 : (2 : Int) < (t.size : Int) := by omega
              have hp2 : 2 < t.size := by omega
              have hs2 : wa.cell? ⟨b, off + 2, none⟩ = some (.int .u8 (x2.toNat : Int)) := by rw [K2.out _ _ hbr, HCR.out 2 hp2, HX2.out]
              clear hs0 hc0 ha0 ha1 h7 hlead
              by_cases r0 : x1.toNat < LO
              · have r0z : (x1.toNat : Int) < (LO : Int) := by omega
                go_big_quiet_o (fail)
                go_wp2
                go_meet
                exact ⟨congrArg Value.bool (decide_eq_true (p := t.size < 3 ∨ x1.toNat < LO ∨ HI < x1.toNat ∨ x2.toNat < 128 ∨ 191 < x2.toNat) (by omega)).symm, below_drewNv kb _⟩
              · have r0z : ¬ ((x1.toNat : Int) < (LO : Int)) := by omega
                by_cases r1 : HI < x1.toNat
                · have r1z : (HI : Int) < (x1.toNat : Int) := by omega
                  go_big_quiet_o (fail)
                  go_wp2
                  go_meet
                  exact ⟨congrArg Value.bool (decide_eq_true (p := t.size < 3 ∨ x1.toNat < LO ∨ HI < x1.toNat ∨ x2.toNat < 128 ∨ 191 < x2.toNat) (by omega)).symm, below_drewNv kb _⟩
                · have r1z : ¬ ((HI : Int) < (x1.toNat : Int)) := by omega
                  by_cases r2 : x2.toNat < 128
                  · have r2z : (x2.toNat : Int) < 128 := by omega
                    go_big_quiet_o (fail)
                    go_wp2
                    go_meet
                    exact ⟨congrArg Value.bool (decide_eq_true (p := t.size < 3 ∨ x1.toNat < LO ∨ HI < x1.toNat ∨ x2.toNat < 128 ∨ 191 < x2.toNat) (by omega)).symm, below_drewNv kb _⟩
                  · have r2z : ¬ ((x2.toNat : Int) < 128) := by omega
                    by_cases r3 : 191 < x2.toNat
                    · have r3z : (191 : Int) < (x2.toNat : Int) := by omega
                      go_big_quiet_o (fail)
                      go_wp2
                      go_meet
                      exact ⟨congrArg Value.bool (decide_eq_true (p := t.size < 3 ∨ x1.toNat < LO ∨ HI < x1.toNat ∨ x2.toNat < 128 ∨ 191 < x2.toNat) (by omega)).symm, below_drewNv kb _⟩
                    · have r3z : ¬ ((191 : Int) < (x2.toNat : Int)) := by omega
                      go_big_quiet_o (fail)
                      go_wp2
                      go_meet
                      exact ⟨congrArg Value.bool (decide_eq_false (p := t.size < 3 ∨ x1.toNat < LO ∨ HI < x1.toNat ∨ x2.toNat < 128 ∨ 191 < x2.toNat) (by omega)).symm, below_drewNv kb _⟩
          case rest =>
            obtain ⟨rfl, hbc⟩ := hcut
            clear k0 k1 k3 kb hs0 hc0 ha0 ha1 h7
            by_cases hb : t.size < 3 ∨ x1.toNat < LO ∨ HI < x1.toNat ∨ x2.toNat < 128 ∨ 191 < x2.toNat
            · have hbd : decide (t.size < 3 ∨ x1.toNat < LO ∨ HI < x1.toNat ∨ x2.toNat < 128 ∨ 191 < x2.toNat) = true := decide_eq_true hb
              rw [if_pos hb] at hlead
              have HLD := Lib.hid hlead
              clear hlead
              go_wp2
              all_goals (go_ret; exact ⟨by rw [HLD.out]; rfl, hbc⟩)
            · have hbd : decide (t.size < 3 ∨ x1.toNat < LO ∨ HI < x1.toNat ∨ x2.toNat < 128 ∨ 191 < x2.toNat) = false := decide_eq_false hb
              rw [if_neg hb] at hlead
              have HLD := Lib.hid hlead
              have hk1 : 3 ≤ t.size := by omega
              have hk2 : (3 : Int) ≤ (t.size : Int) := by omega
              have n1 : t.size - 3 = (t.extract 3 t.size).size := (Lib.ext_size t 3).symm
              obtain ⟨t', ht'⟩ : ∃ t', t.extract 3 t.size = t' := ⟨_, rfl⟩
              rw [ht'] at n1
              have HV' : Hid (Lib.validD t'.data.toList = ANS) := by rw [← ht', Lib.ext_list]; exact HLD.out.symm
              have HA' : Hid (∀ A, (¬ t.size = 3 → A = some ⟨b, off + 3, none⟩) → SlAt w b A t') := fun A hA => by rw [← ht']; exact SlAt.drop HCT.out 3 A hA
              clear hlead ht'
              go_wp2
              all_goals
                go_roundg g'
                case measure => omega
                case rel => first | exact ⟨hbc, t', _, rfl, HA'.out _ (fun _ => rfl), HV'.out, by omega, by omega⟩ | exact ⟨hbc, t', _, rfl, HA'.out _ (fun h => absurd (by assumption) h), HV'.out, by omega, by omega⟩ | exact ⟨hbc, t', some ⟨b, off, none⟩, by rw [show t'.size = 0 by omega], HA'.out _ (fun h => absurd (by assumption) h), HV'.out, by omega, by omega⟩
        by_cases s4 : SZ = 4
        · -- 'case 4'
          subst s4
          have hSZz : (X : Int) % 8 = 4 := by omega
          simp only [Lib.checkN, Nat.reduceEqDiff, if_true, if_false] at hlead
          go_upto_region 26 with fail
          obtain ⟨k0, k1, k2, k3⟩ := accept_new wr LO HI
          have kb := hbw.alloc hbw.size (Obj.cells #[.int .u8 (LO : Int), .int .u8 (HI : Int)] 56)
          generalize wr.alloc (Obj.cells #[.int .u8 (LO : Int), .int .u8 (HI : Int)] 56) = wa at *
          have hab : b < wa.heap.size := by omega
          have K2 := Lib.hid k2
          clear k2
          generalize wr.heap.size = ab at *
          go_cut [185] from 143 to 185 (fun c wx => c = .bool (decide (t.size < 4 ∨ x1.toNat < LO ∨ HI < x1.toNat ∨ x2.toNat < 128 ∨ 191 < x2.toNat ∨ x3.toNat < 128 ∨ 191 < x3.toNat)) ∧ Below w.heap.size w wx)
          case first =>
            by_cases q0 : t.size < 4
            · have q0z : (t.size : Int) < 4 := by omega
              go_big_quiet_o (fail)
              go_wp2
              go_meet
              exact ⟨congrArg Value.bool (decide_eq_true (p := t.size < 4 ∨ x1.toNat < LO ∨ HI < x1.toNat ∨ x2.toNat < 128 ∨ 191 < x2.toNat ∨ x3.toNat < 128 ∨ 191 < x3.toNat) (by omega)).symm, below_drewNv kb _⟩
            · have q0z : ¬ ((t.size : Int) < 4) := by omega
              have hz1 : (1 : Int) < (t.size : Int) := by omega
              have hp1 : 1 < t.size := by omega
              have hs1 : wa.cell? ⟨b, off + 1, none⟩ = some (.int .u8 (x1.toNat : Int)) := by rw [K2.out _ _ hbr, HCR.out 1 hp1, HX1.out]
              have hz2 : (2 : Int) < (t.size : Int) := by omega
              have hp2 : 2 < t.size := by omega
              have hs2 : wa.cell? ⟨b, off + 2, none⟩ = some (.int .u8 (x2.toNat : Int)) := by rw [K2.out _ _ hbr, HCR.out 2 hp2, HX2.out]
              have hz3 : (3 : Int) < (t.size : Int) := by omega
              have hp3 : 3 < t.size := by omega
              have hs3 : wa.cell? ⟨b, off + 3, none⟩ = some (.int .u8 (x3.toNat : Int)) := by rw [K2.out _ _ hbr, HCR.out 3 hp3, HX3.out]
              clear hs0 hc0 ha0 ha1 h7 hlead
              by_cases r0 : x1.toNat < LO
              · have r0z : (x1.toNat : Int) < (LO : Int) := by omega
                go_big_quiet_o (fail)
                go_wp2
                go_meet
                exact ⟨congrArg Value.bool (decide_eq_true (p := t.size < 4 ∨ x1.toNat < LO ∨ HI < x1.toNat ∨ x2.toNat < 128 ∨ 191 < x2.toNat ∨ x3.toNat < 128 ∨ 191 < x3.toNat) (by omega)).symm, below_drewNv kb _⟩
              · have r0z : ¬ ((x1.toNat : Int) < (LO : Int)) := by omega
                by_cases r1 : HI < x1.toNat
                · have r1z : (HI : Int) < (x1.toNat : Int) := by omega
                  go_big_quiet_o (fail)
                  go_wp2
                  go_meet
                  exact ⟨congrArg Value.bool (decide_eq_true (p := t.size < 4 ∨ x1.toNat < LO ∨ HI < x1.toNat ∨ x2.toNat < 128 ∨ 191 < x2.toNat ∨ x3.toNat < 128 ∨ 191 < x3.toNat) (by omega)).symm, below_drewNv kb _⟩
                · have r1z : ¬ ((HI : Int) < (x1.toNat : Int)) := by omega
                  by_cases r2 : x2.toNat < 128
                  · have r2z : (x2.toNat : Int) < 128 := by omega
                    go_big_quiet_o (fail)
                    go_wp2
                    go_meet
                    exact ⟨congrArg Value.bool (decide_eq_true (p := t.size < 4 ∨ x1.toNat < LO ∨ HI < x1.toNat ∨ x2.toNat < 128 ∨ 191 < x2.toNat ∨ x3.toNat < 128 ∨ 191 < x3.toNat) (by omega)).symm, below_drewNv kb _⟩
                  · have r2z : ¬ ((x2.toNat : Int) < 128) := by omega
                    by_cases r3 : 191 < x2.toNat
                    · have r3z : (191 : Int) < (x2.toNat : Int) := by omega
                      go_big_quiet_o (fail)
                      go_wp2
                      go_meet
                      exact ⟨congrArg Value.bool (decide_eq_true (p := t.size < 4 ∨ x1.toNat < LO ∨ HI < x1.toNat ∨ x2.toNat < 128 ∨ 191 < x2.toNat ∨ x3.toNat < 128 ∨ 191 < x3.toNat) (by omega)).symm, below_drewNv kb _⟩
                    · have r3z : ¬ ((191 : Int) < (x2.toNat : Int)) := by omega
                      by_cases r4 : x3.toNat < 128
                      · have r4z : (x3.toNat : Int) < 128 := by omega
                        go_big_quiet_o (fail)
                        go_wp2
                        go_meet
                        exact ⟨congrArg Value.bool (decide_eq_true (p := t.size < 4 ∨ x1.toNat < LO ∨ HI < x1.toNat ∨ x2.toNat < 128 ∨ 191 < x2.toNat ∨ x3.toNat < 128 ∨ 191 < x3.toNat) (by omega)).symm, below_drewNv kb _⟩
                      · have r4z : ¬ ((x3.toNat : Int) < 128) := by omega
                        by_cases r5 : 191 < x3.toNat
                        · have r5z : (191 : Int) < (x3.toNat : Int) := by omega
                          go_big_quiet_o (fail)
                          go_wp2
                          go_meet
                          exact ⟨congrArg Value.bool (decide_eq_true (p := t.size < 4 ∨ x1.toNat < LO ∨ HI < x1.toNat ∨ x2.toNat < 128 ∨ 191 < x2.toNat ∨ x3.toNat < 128 ∨ 191 < x3.toNat) (by omega)).symm, below_drewNv kb _⟩
                        · have r5z : ¬ ((191 : Int) < (x3.toNat : Int)) := by omega
                          go_big_quiet_o (fail)
                          go_wp2
                          go_meet
                          exact ⟨congrArg Value.bool (decide_eq_false (p := t.size < 4 ∨ x1.toNat < LO ∨ HI < x1.toNat ∨ x2.toNat < 128 ∨ 191 < x2.toNat ∨ x3.toNat < 128 ∨ 191 < x3.toNat) (by omega)).symm, below_drewNv kb _⟩
          case rest =>
            obtain ⟨rfl, hbc⟩ := hcut
            clear k0 k1 k3 kb hs0 hc0 ha0 ha1 h7
            by_cases hb : t.size < 4 ∨ x1.toNat < LO ∨ HI < x1.toNat ∨ x2.toNat < 128 ∨ 191 < x2.toNat ∨ x3.toNat < 128 ∨ 191 < x3.toNat
            · have hbd : decide (t.size < 4 ∨ x1.toNat < LO ∨ HI < x1.toNat ∨ x2.toNat < 128 ∨ 191 < x2.toNat ∨ x3.toNat < 128 ∨ 191 < x3.toNat) = true := decide_eq_true hb
              rw [if_pos hb] at hlead
              have HLD := Lib.hid hlead
              clear hlead
              go_wp2
              all_goals (go_ret; exact ⟨by rw [HLD.out]; rfl, hbc⟩)
            · have hbd : decide (t.size < 4 ∨ x1.toNat < LO ∨ HI < x1.toNat ∨ x2.toNat < 128 ∨ 191 < x2.toNat ∨ x3.toNat < 128 ∨ 191 < x3.toNat) = false := decide_eq_false hb
              rw [if_neg hb] at hlead
              have HLD := Lib.hid hlead
              have hk1 : 4 ≤ t.size := by omega
              have hk2 : (4 : Int) ≤ (t.size : Int) := by omega
              have n1 : t.size - 4 = (t.extract 4 t.size).size := (Lib.ext_size t 4).symm
              obtain ⟨t', ht'⟩ : ∃ t', t.extract 4 t.size = t' := ⟨_, rfl⟩
              rw [ht'] at n1
              have HV' : Hid (Lib.validD t'.data.toList = ANS) := by rw [← ht', Lib.ext_list]; exact HLD.out.symm
              have HA' : Hid (∀ A, (¬ t.size = 4 → A = some ⟨b, off + 4, none⟩) → SlAt w b A t') := fun A hA => by rw [← ht']; exact SlAt.drop HCT.out 4 A hA
              clear hlead ht'
              go_wp2
              all_goals
                go_roundg g'
                case measure => omega
                case rel => first | exact ⟨hbc, t', _, rfl, HA'.out _ (fun _ => rfl), HV'.out, by omega, by omega⟩ | exact ⟨hbc, t', _, rfl, HA'.out _ (fun h => absurd (by assumption) h), HV'.out, by omega, by omega⟩ | exact ⟨hbc, t', some ⟨b, off, none⟩, by rw [show t'.size = 0 by omega], HA'.out _ (fun h => absurd (by assumption) h), HV'.out, by omega, by omega⟩
        · -- 'default: return false'
          have e2 : ¬ ((X : Int) % 8 = 2) := by omega
          have e3 : ¬ ((X : Int) % 8 = 3) := by omega
          have e4 : ¬ ((X : Int) % 8 = 4) := by omega
          have e2b : (((X : Int) % 8) == 2) = false := by simp; omega
          have e3b : (((X : Int) % 8) == 3) = false := by simp; omega
          have e4b : (((X : Int) % 8) == 4) = false := by simp; omega
          simp only [Lib.checkN, s2, s3, s4, if_false] at hlead
          have HLD := Lib.hid hlead
          clear hlead
          go_wp2
          all_goals (go_ret; exact ⟨by rw [HLD.out]; rfl, hbw.alloc hbw.size _⟩)
    · have h0z : ¬ ((0 : Int) < (t.size : Int)) := by omega
      have ht0 : t.data.toList = [] := List.eq_nil_of_length_eq_zero (by rw [← Lib.size_eq]; omega)
      rw [ht0, Lib.validD_nil] at hv
      subst hv
      clear hA ht0
      go_wp2
      go_ret
      exact ⟨rfl, hbw⟩
end Go.Proofs.YteejkkdimkgmfaaDoor
