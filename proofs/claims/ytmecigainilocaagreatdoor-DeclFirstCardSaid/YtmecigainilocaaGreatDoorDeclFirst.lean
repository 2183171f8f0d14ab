/-
  THE LAW DeclFirst, out of what is asked of package decl (DeclSaid): of declarations of one name the first stays.
-/
import Derived.Test.YtmecigainilocaaGreatDoorDeclTypes
import Derived.Test.YtmecigainilocaaGreatDoorDeclDoc1
namespace Go.Proofs.YtmecigainilocaaGreatDoor
open Go.RowKit

def plainC (b : UInt8) : Bool := !(decide (b.toNat = 39) || decide (b.toNat = 60) || decide (b.toNat = 38) || decide (b.toNat = 37))
def plainB (l : List UInt8) : Bool := l.all plainC
theorem plain_no {l : List UInt8} {i : Nat} {b : UInt8} (hb : l[i]? = some b) (h : plainC b = false) : plainB l = false := by
  unfold plainB
  rw [List.all_eq_false]
  exact ⟨b, List.mem_iff_getElem?.2 ⟨i, hb⟩, by rw [h]; decide⟩
theorem plain_not {l : List UInt8} (h : plainB l = true) : (39 : UInt8) ∉ l ∧ (60 : UInt8) ∉ l ∧ (38 : UInt8) ∉ l ∧ (37 : UInt8) ∉ l := by
  have H := List.all_eq_true.1 h
  refine ⟨fun e => ?_, fun e => ?_, fun e => ?_, fun e => ?_⟩ <;> (have := H _ e; revert this; decide)
set_option maxHeartbeats 4000000 in
set_option maxRecDepth 100000 in
theorem plain_any (l : List UInt8) (w : World) (hl : l.length ≤ 30) : Calls Tryz.prog 12 #[.string (bytes l)] w fun e w' => e = .returned (.bool (plainB l)) ∧ w' = w := by
  have hsz : (bytes l).size = l.length := bytes_len11 l
  go_enter Tryz.func12, Tryz.ntmps12
  go_wp2
  go_loopg [3] l.length (fun gg iv wr => wr = w ∧ ∃ i : Nat, iv = .int .i64 (i : Int) ∧ i + gg = l.length ∧ (l.take i).all plainC = true)
  case atStart => exact ⟨rfl, 0, rfl, Nat.zero_add _, rfl⟩
  case round =>
    obtain ⟨rfl, i, rfl, hig, hp⟩ := hrel
    cases gk with
    | zero =>
      have HP : Hid (plainB l = true) := Lib.hid (by unfold plainB; rw [← hp, show i = l.length by omega, List.take_length])
      have g1 : ¬ (i : Int) < (l.length : Int) := by omega
      have g2 : decide ((i : Int) < (l.length : Int)) = false := decide_eq_false g1
      have g3 : decide (i < l.length) = false := decide_eq_false (by omega)
      clear hp g1
      go_wp2
      go_ret
      exact ⟨by rw [HP.out]; rfl, rfl⟩
    | succ g =>
      have hlt : i < (bytes l).size := by rw [hsz]; omega
      have hl2 : i < l.length := by omega
      obtain ⟨b, hb⟩ : ∃ b, l[i]? = some b := ⟨l[i]'hl2, List.getElem?_eq_getElem hl2⟩
      have hbi : ((bytes l)[i]'hlt) = b := by
        have : (bytes l).data.toList[i]? = some b := hb
        rw [Array.getElem?_toList, Array.getElem?_eq_getElem (by exact hlt)] at this
        exact Option.some.inj this
      have g2 : decide ((i : Int) < (l.length : Int)) = true := decide_eq_true (by omega)
      have g3 : decide (i < l.length) = true := decide_eq_true hl2
      have HNO := Lib.hid (fun h : plainC b = false => plain_no hb h)
      have HON : Hid (plainC b = true → (l.take (i + 1)).all plainC = true) := Lib.hid (fun h => by
        rw [List.take_add_one, hb, List.all_append, hp]
        simp [h])
      obtain ⟨x, hx⟩ : ∃ x, b.toNat = x := ⟨_, rfl⟩
      have hbx : ((bytes l)[i]'hlt).toNat = x := by rw [hbi, hx]
      have HC : Hid (plainC b = !(decide (x = 39) || decide (x = 60) || decide (x = 38) || decide (x = 37))) := Lib.hid (by unfold plainC; rw [hx])
      clear hb hbi hx hp
      rcases (show x = 39 ∨ x = 60 ∨ x = 38 ∨ x = 37 ∨ (x ≠ 39 ∧ x ≠ 60 ∧ x ≠ 38 ∧ x ≠ 37) by omega) with rfl | rfl | rfl | rfl | ⟨n1, n2, n3, n4⟩
      · have HF := Lib.hid (HNO.out (HC.out.trans rfl))
        clear HNO HON HC
        go_wp2
        go_ret
        exact ⟨by rw [HF.out]; rfl, rfl⟩
      · have HF := Lib.hid (HNO.out (HC.out.trans rfl))
        clear HNO HON HC
        go_wp2
        go_ret
        exact ⟨by rw [HF.out]; rfl, rfl⟩
      · have HF := Lib.hid (HNO.out (HC.out.trans rfl))
        clear HNO HON HC
        go_wp2
        go_ret
        exact ⟨by rw [HF.out]; rfl, rfl⟩
      · have HF := Lib.hid (HNO.out (HC.out.trans rfl))
        clear HNO HON HC
        go_wp2
        go_ret
        exact ⟨by rw [HF.out]; rfl, rfl⟩
      · have HY := Lib.hid (HON.out (HC.out.trans (by rw [decide_eq_false n1, decide_eq_false n2, decide_eq_false n3, decide_eq_false n4]; rfl)))
        have e1 : ((x : Int) == 39) = false := beq_eq_false_iff_ne.2 (by omega)
        have e2 : ((x : Int) == 60) = false := beq_eq_false_iff_ne.2 (by omega)
        have e3 : ((x : Int) == 38) = false := beq_eq_false_iff_ne.2 (by omega)
        have e4 : ((x : Int) == 37) = false := beq_eq_false_iff_ne.2 (by omega)
        clear HNO HON HC n1 n2 n3 n4
        go_wp2
        go_roundg g
        case measure => omega
        case rel => exact ⟨rfl, i + 1, rfl, by omega, HY.out⟩
theorem first_bytes (a b : List UInt8) : (⟨#[60, 33, 68, 79, 67, 84, 89, 80, 69, 32, 114, 32, 91, 60, 33, 69, 78, 84, 73, 84, 89, 32, 101, 32, 39]⟩ : ByteArray) ++ bytes a ++ ⟨#[39, 62, 60, 33, 69, 78, 84, 73, 84, 89, 32, 101, 32, 39]⟩ ++ bytes b ++ ⟨#[39, 62, 60, 33, 65, 84, 84, 76, 73, 83, 84, 32, 114, 32, 120, 32, 67, 68, 65, 84, 65, 32, 39]⟩ ++ bytes a ++ ⟨#[39, 62, 60, 33, 65, 84, 84, 76, 73, 83, 84, 32, 114, 32, 121, 32, 67, 68, 65, 84, 65, 32, 39, 113, 39, 32, 120, 32, 73, 68, 32, 39]⟩ ++ bytes b ++ ⟨#[39, 62, 93, 62]⟩ = bytes (firstText a b) := by
  show bytes [60, 33, 68, 79, 67, 84, 89, 80, 69, 32, 114, 32, 91, 60, 33, 69, 78, 84, 73, 84, 89, 32, 101, 32, 39] ++ bytes a ++ bytes [39, 62, 60, 33, 69, 78, 84, 73, 84, 89, 32, 101, 32, 39] ++ bytes b ++ bytes [39, 62, 60, 33, 65, 84, 84, 76, 73, 83, 84, 32, 114, 32, 120, 32, 67, 68, 65, 84, 65, 32, 39] ++ bytes a ++ bytes [39, 62, 60, 33, 65, 84, 84, 76, 73, 83, 84, 32, 114, 32, 121, 32, 67, 68, 65, 84, 65, 32, 39, 113, 39, 32, 120, 32, 73, 68, 32, 39] ++ bytes b ++ bytes [39, 62, 93, 62] = _
  simp only [bytes_app]
  congr 1
  simp [firstText]
theorem first_len (a b : List UInt8) : (firstText a b).length = a.length + a.length + b.length + b.length + 98 := by
  simp [firstText]
  omega
set_option maxHeartbeats 2000000 in
set_option maxRecDepth 100000 in
theorem declfirst_any {E : Nat → World → Prop} (S : DeclSaid E) (n : Nat) (a b : List UInt8) (w : World) (hE : E n w) (hn : n ≤ w.heap.size) :
    Calls Tryz.prog 5 #[.string (bytes a), .string (bytes b)] w fun e w' => e = .returned (.bool true) ∧ Below w.heap.size w w' := by
  have H := Lib.hid (show CAt E n w w from ⟨hE, hn, Below.refl _ _⟩)
  have hza : (bytes a).size = a.length := bytes_len11 a
  have hzb : (bytes b).size = b.length := bytes_len11 b
  clear hE
  by_cases ha : 30 < a.length
  · have g : decide ((30 : Int) < (a.length : Int)) = true := decide_eq_true (by omega)
    have g' : decide (30 < a.length) = true := decide_eq_true ha
    go_enter Tryz.func5, Tryz.ntmps5
    go_wp2_with fail
    refine (told11_any S n _ H.out.e H.out.n_le).mono ?_
    rintro e w2 ⟨rfl, hb⟩
    have HF := Lib.hid hb
    clear hb
    go_wp2
    go_ret
    exact ⟨rfl, HF.out⟩
  · have g : decide ((30 : Int) < (a.length : Int)) = false := decide_eq_false (by omega)
    have g' : decide (30 < a.length) = false := decide_eq_false ha
    by_cases hb : 30 < b.length
    · have g1 : decide ((30 : Int) < (b.length : Int)) = true := decide_eq_true (by omega)
      have g1' : decide (30 < b.length) = true := decide_eq_true hb
      go_enter Tryz.func5, Tryz.ntmps5
      go_wp2_with fail
      refine (told11_any S n _ H.out.e H.out.n_le).mono ?_
      rintro e w2 ⟨rfl, hb⟩
      have HF := Lib.hid hb
      clear hb
      go_wp2
      go_ret
      exact ⟨rfl, HF.out⟩
    · have g1 : decide ((30 : Int) < (b.length : Int)) = false := decide_eq_false (by omega)
      have g1' : decide (30 < b.length) = false := decide_eq_false hb
      have CA := Lib.hid (fun W => plain_any a W (by omega))
      cases hpa : plainB a with
      | false =>
        rw [hpa] at CA
        clear hpa
        go_enter Tryz.func5, Tryz.ntmps5
        go_wp2_with fail
        refine (CA.out _).mono ?_
        rintro e w9 ⟨rfl, rfl⟩
        go_wp2_with fail
        refine (told11_any S n _ H.out.e H.out.n_le).mono ?_
        rintro e w2 ⟨rfl, hb⟩
        have HF := Lib.hid hb
        clear hb
        go_wp2
        go_ret
        exact ⟨rfl, HF.out⟩
      | true =>
        have CB := Lib.hid (fun W => plain_any b W (by omega))
        rw [hpa] at CA
        cases hpb : plainB b with
        | false =>
          rw [hpb] at CB
          clear hpa hpb
          go_enter Tryz.func5, Tryz.ntmps5
          go_wp2_with fail
          refine (CA.out _).mono ?_
          rintro e w9 ⟨rfl, rfl⟩
          go_wp2_with fail
          refine (CB.out _).mono ?_
          rintro e w9 ⟨rfl, rfl⟩
          go_wp2_with fail
          refine (told11_any S n _ H.out.e H.out.n_le).mono ?_
          rintro e w2 ⟨rfl, hb⟩
          have HF := Lib.hid hb
          clear hb
          go_wp2
          go_ret
          exact ⟨rfl, HF.out⟩
        | true =>
          rw [hpb] at CB
          have HD := Lib.hid (first_sym a b (plain_not hpa) (plain_not hpb))
          have HB := Lib.hid (first_bytes a b)
          have hfl := first_len a b
          have hfs : (bytes (firstText a b)).size = (firstText a b).length := bytes_len11 _
          clear hpa hpb
          generalize firstText a b = X at *
          go_enter Tryz.func5, Tryz.ntmps5
          go_wp2_with fail
          refine (CA.out _).mono ?_
          rintro e w9 ⟨rfl, rfl⟩
          go_wp2_with fail
          refine (CB.out _).mono ?_
          rintro e w9 ⟨rfl, rfl⟩
          go_wp2_with fail
          rw [HB.out]
          refine (cdocAt S _ 0 (firstDecl a) ⟨#[114]⟩ rfl (X.length : Int) 0 HD.out (by omega) 1 2 rfl rfl H.out).mono ?_
          rintro e w1 ⟨a1, c1, a2, c2, rfl, hE1, hA1, h, _⟩
          obtain ⟨b0, o0, rfl, hb0, hc0⟩ := hE1.cell (show 0 < 1 by decide)
          obtain ⟨b1, o1, rfl, hb1, hc1⟩ := hA1.cell (show 0 < 2 by decide)
          have HBX := Lib.hid (box_decls w1 (.string ⟨#[114]⟩) (.slice (some ⟨b0, o0, none⟩) 1 c1) (.slice (some ⟨b1, o1, none⟩) 2 c2) 27)
          have HCC : Hid (∀ W, Below w1.heap.size w1 W → W.cell? ⟨b0, o0 + 1, none⟩ = some (.string (bytes a)) ∧ W.cell? ⟨b1, o1 + 2, none⟩ = some (.int .i64 1) ∧ W.cell? ⟨b1, o1 + 4, none⟩ = some (.string (bytes a)) ∧ W.cell? ⟨b1, o1 + 5 + 1, none⟩ = some (.string ⟨#[121]⟩)) := Lib.hid (fun W hW => by
            obtain ⟨_, q0, _⟩ := hc0 0 (show 0 < 1 by decide)
            obtain ⟨_, _, q2, _, q4⟩ := hc1 0 (show 0 < 2 by decide)
            obtain ⟨_, q1, _, _, _⟩ := hc1 1 (show 1 < 2 by decide)
            exact ⟨(hW.cell (p := ⟨b0, o0 + 1, none⟩) hb0).trans q0, (hW.cell (p := ⟨b1, o1 + 2, none⟩) hb1).trans q2, (hW.cell (p := ⟨b1, o1 + 4, none⟩) hb1).trans q4, (hW.cell (p := ⟨b1, o1 + 5 + 1, none⟩) hb1).trans q1⟩)
          have hba := (Below.refl w1.heap.size w1).alloc (Nat.le_refl _) (.cells #[.string ⟨#[114]⟩, .slice (some ⟨b0, o0, none⟩) 1 c1, .slice (some ⟨b1, o1, none⟩) 2 c2] 27)
          have HBB := Lib.hid hba
          have H2 := Lib.hid (h.other S hba)
          clear h H HD HB hba hE1 hA1 hc0 hc1 CA CB
          go_wp2_with fail
          refine (told11_any S n _ H2.out.e H2.out.n_le).mono ?_
          rintro e w2 ⟨rfl, hb⟩
          obtain ⟨x0, x1, x2⟩ := HBX.out _ hb
          obtain ⟨t1, t2, t3, t4⟩ := HCC.out _ (HBB.out.trans (hb.mono HBB.out.size))
          have t5 : w2.cell? ⟨b1, o1 + 6, none⟩ = some (.string ⟨#[121]⟩) := t4
          have HF := Lib.hid (H2.out.since.trans (hb.mono H2.out.since.size))
          clear HBX hb HCC HBB
          go_wp2
          go_ret
          exact ⟨rfl, HF.out⟩
theorem declfirst_str {E : Nat → World → Prop} (S : DeclSaid E) (n : Nat) (s t : ByteArray) (w : World) (hE : E n w) (hn : n ≤ w.heap.size) :
    Calls Tryz.prog 5 #[.string s, .string t] w fun e w' => e = .returned (.bool true) ∧ Below w.heap.size w w' := by
  have e : ∀ s : ByteArray, s = bytes s.data.toList := fun s => by
    apply ByteArray.ext
    show s.data = s.data.toList.toArray
    rw [Array.toArray_toList]
  rw [e s, e t]
  exact declfirst_any S n s.data.toList t.data.toList w hE hn
end Go.Proofs.YtmecigainilocaaGreatDoor
