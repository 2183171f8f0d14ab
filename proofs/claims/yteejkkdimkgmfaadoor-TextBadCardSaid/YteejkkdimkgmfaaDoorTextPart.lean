/-
  LAYER 2: THE CONTRACT OF brackenlaw2.TextParts out of what is asked of package text.
-/
import Derived.Test.YteejkkdimkgmfaaDoorTextNone
namespace Go.Proofs.YteejkkdimkgmfaaDoor
open Go.RowKit

/-- a row of bytes that may be appended: nil, or at an address with its cells (of no byte: whatever address) -/
def SrcOK (w : World) (a : Option Addr) (bs : List UInt8) (cap : Nat) : Prop :=
  (a = none ∧ bs = [] ∧ cap = 0) ∨ ∃ ad, a = some ad ∧ ∀ j u, (bs.map bval)[j]? = some u → w.cell? (ad.add j) = some u
theorem srcOK_of {w w' : World} {a : Option Addr} {n cap : Nat} {bs : List UInt8} (h : BytesAt w.heap.size w (.slice a n cap) bs) (hn : a = none → cap = 0) (hb : Below w.heap.size w w') : SrcOK w' a bs cap := by
  obtain ⟨a', cap', e, _, h2⟩ := h.below hb
  injection e with e1 e2 e3
  subst e1
  cases a with
  | none =>
    rcases h2 with rfl | ⟨b, off, e, _, _⟩
    · exact Or.inl ⟨rfl, rfl, hn rfl⟩
    · cases e
  | some ad =>
    rcases h2 with rfl | ⟨b, off, e, _, hc⟩
    · exact Or.inr ⟨ad, rfl, fun j u hu => by simp at hu⟩
    · injection e with e
      subst e
      exact Or.inr ⟨_, rfl, bytes_cell hc⟩
theorem wpList_append_bytes {w : World} {ops : Array Oper} {rest : List Oper} {o : Oper} {act : Act} {Q : Exit → Act → World → Prop} (hgd : o.guard = none) (s x : Operand)
    (ho : o.op = .call { callee := .builtin .append, args := #[s, x], argTypes := #[22, 22] })
    (base : Nat) (v : Value) (l bs : List UInt8) (a : Option Addr) (n cap : Nat) (hs : act.eval s = v) (hown : OwnB w base v l) (hsrc : SrcOK w a bs cap) (hn : bs.length = n) (hx : act.eval x = .slice a n cap)
    (hl : l.length + n ≤ 1000) (hbase : base ≤ w.heap.size)
    (h : ∀ v' w', OwnB w' base v' (l ++ bs) → Below base w w' → wpList Tryd.prog ops Q rest (act.put o.dst v') w') : wpList Tryd.prog ops Q (o :: rest) act w := by
  obtain ⟨i0, hi, hz0, hz1, hz2⟩ := info_parts info_u8
  rcases hsrc with ⟨rfl, rfl, rfl⟩ | ⟨ad, rfl, hc⟩
  · obtain rfl : n = 0 := by simpa using hn.symm
    exact wpList_append_own_none hgd s x 22 ho base 5 i0 1 Tryd.underlying22 hi v _ _ hs hown hx (h v w (by rw [List.append_nil]; exact hown) (Below.refl _ _))
  · exact wpList_append_own w hgd s x 22 ho base 5 i0 (.int .u8 0) 1 1 Tryd.underlying22 hi hz0 hz1 hz2 rfl (by decide) v _ _ hs hown ad n cap (bs.map bval) hx (by rw [List.length_map]; omega) hc (bytes_one bs) (by unfold maxLen; omega) (by omega) hbase
      (fun v' w' h1 h2 _ => h v' w' (by unfold OwnB; rw [List.length_append, List.map_append, hn]; exact h1) ((Below.refl base w).grown h2 hbase (ownB_block hown)))
theorem wpList_append_grows_g {P : Program} (w : World) {ops : Array Oper} {rest : List Oper} {o : Oper} {a : Act} {Q : Exit → Act → World → Prop}
    (hw : Region.wanted o (yielded ops a.tmps) = true) (s x : Operand) (t : TypeId) (hop : o.op = Op.call { callee := Callee.builtin Builtin.append, args := #[s, x], argTypes := #[t, t] })
    (e : TypeId) (i : TypeInfo) (z : Value) (size bytes : Nat) (h1 : P.underlying t = some (.slice e)) (h2 : P.info? e = some i) (h3 : i.zero = some z) (h4 : i.size = size) (h5 : i.bytes = bytes) (h6 : z.cells.size = size) (h7 : 0 < size)
    (b : Addr) (n cap : Nat) (olds : List Value) (hs : a.eval s = .slice (some b) n cap) (hlo : olds.length = n * size) (holds : ∀ j u, olds[j]? = some u → w.cell? (b.add j) = some u)
    (ad : Addr) (m c : Nat) (news : List Value) (hx : a.eval x = .slice (some ad) m c) (hn : news.length = m * size) (hc : ∀ j u, news[j]? = some u → w.cell? (ad.add j) = some u)
    (hfull : cap < n + m) (b1 : n + m ≤ maxLen) (b2 : (n + m) * bytes ≤ 140737488355328)
    (hK : ∀ v' w', w'.ownsRow w.heap.size e size v' (n + m) (olds ++ news) → w.grownBy w' none → wpList P ops Q rest (a.put o.dst v') w') :
    wpList P ops Q (o :: rest) a w := by
  refine wpList_step fun K hK' => ?_
  rw [if_pos hw]
  obtain ⟨v', w', hrun, r1, r2⟩ := run_append_arg_grows (P := P) w t o.type e i z size bytes h1 h2 h3 h4 h5 h6 h7 b n cap olds hlo holds ad m c news hn hc hfull b1 b2
  unfold Oper.wp
  simp [execOp, hop, resolve, invoke, builtin, hs, hx, hrun, Result.andThen]
  exact hK' _ _ (hK v' w' r1 r2)
theorem ownB_lit0 (w : World) (base : Nat) (h : base ≤ w.heap.size) : OwnB (w.alloc (.cells #[] 5 (0, 0))) base (.slice (some ⟨w.heap.size, 0, none⟩) 0 0) [] :=
  World.ownsRow_lit (base := base) (e := 5) (size := 1) w #[] 0 h (by unfold maxLen; omega) rfl
theorem validT_x (bs : List UInt8) : validT ⟨([120] ++ bs).toArray⟩ = validT ⟨bs.toArray⟩ := by
  rw [bytes_append]; exact validT_letter 120 _ (by decide) (by decide)
theorem parts_told {A B : List UInt8} (s t : ByteArray) (ex fx : Bool) (ha : readT ⟨A.toArray⟩ = (s, ex)) (hb : readT ⟨B.toArray⟩ = (t, fx)) (h13 : A.length = 0 ∨ (A.getD (A.length - 1) 0).toNat ≠ 13) (hB : B.length ≤ 2 ∨ (B.getD 0 0).toNat ≠ 239) :
    ∃ u gx, readT ⟨(A ++ B).toArray⟩ = (u, gx) ∧ (ex = true → fx = true → gx = true ∧ u = s ++ t) ∧ validT ⟨([120] ++ B).toArray⟩ = fx ∧ s.size ≤ A.length ∧ t.size ≤ B.length := by
  have h13' : (⟨A.toArray⟩ : ByteArray).size = 0 ∨ (⟨A.toArray⟩ : ByteArray).get! ((⟨A.toArray⟩ : ByteArray).size - 1) ≠ 13 := by
    rw [size_bytes]
    rcases h13 with h | h
    · exact Or.inl h
    · by_cases h0 : A.length = 0
      · exact Or.inl h0
      · right
        rw [get_bytes _ _ (by omega)]
        intro e
        exact h (by rw [e]; rfl)
  have hB' : (⟨B.toArray⟩ : ByteArray).size ≤ 2 ∨ (⟨B.toArray⟩ : ByteArray).get! 0 ≠ 239 := by
    rw [size_bytes]
    rcases hB with h | h
    · exact Or.inl h
    · by_cases h0 : B.length ≤ 2
      · exact Or.inl h0
      · right
        rw [get_bytes _ _ (by omega)]
        intro e
        exact h (by rw [e]; rfl)
  have hv : validT ⟨([120] ++ B).toArray⟩ = fx := by
    rw [validT_x]
    rw [readT_b _ hB'] at hb
    by_cases v : validT ⟨B.toArray⟩ = true
    · rw [if_pos v] at hb; rw [v]; exact congrArg Prod.snd hb
    · rw [if_neg v] at hb
      have h2 : fx = false := (congrArg Prod.snd hb).symm
      rw [h2]
      simpa using v
  have hsz : ∀ (l : List UInt8) (x : ByteArray) (y : Bool), readT ⟨l.toArray⟩ = (x, y) → x.size ≤ l.length := by
    intro l x y h
    have hle : (restT ⟨l.toArray⟩).size ≤ l.length := by
      unfold restT
      split
      · rw [ByteArray.size_extract, size_bytes]; omega
      · rw [size_bytes]; exact Nat.le_refl _
    unfold readT at h
    split at h
    · cases h
      exact Nat.le_trans (endsT_le _) hle
    · cases h
      exact Nat.zero_le _
  obtain ⟨u, gx, hu⟩ : ∃ u gx, readT ⟨(A ++ B).toArray⟩ = (u, gx) := ⟨_, _, rfl⟩
  refine ⟨u, gx, hu, ?_, hv, hsz A s ex ha, hsz B t fx hb⟩
  intro e1 e2
  subst e1
  subst e2
  have hva : validT (restT ⟨A.toArray⟩) = true := by
    by_cases v : validT (restT ⟨A.toArray⟩) = true
    · exact v
    · unfold readT at ha
      rw [if_neg v] at ha
      cases ha
  have hs : s = endsT (restT ⟨A.toArray⟩) := by
    unfold readT at ha
    rw [if_pos hva] at ha
    exact (congrArg Prod.fst ha).symm
  have hvb : validT ⟨B.toArray⟩ = true := by rw [← validT_x, hv]
  have ht : t = endsT ⟨B.toArray⟩ := by
    rw [readT_b _ hB', if_pos hvb] at hb
    exact (congrArg Prod.fst hb).symm
  rw [bytes_append, readT_two _ _ hva h13' hB', if_pos hvb] at hu
  rw [hs, ht]
  exact ⟨(congrArg Prod.snd hu).symm, (congrArg Prod.fst hu).symm⟩

set_option maxHeartbeats 1000000 in
set_option maxRecDepth 100000 in
theorem parts2_longA {E : World → Prop} (T : TextSaid E) (a b : Option Addr) (n cap m cb : Nat) (w : World) (h : 60 < n) (hE : E w) :
    Calls Tryd.prog 8 #[.slice a n cap, .slice b m cb] w fun e w' => e = .returned (.bool true) ∧ Below w.heap.size w w' := by
  have cT := told2_any T w hE
  have g1 : decide ((60 : Int) < (n : Int)) = true := decide_eq_true (by omega)
  have g2 : decide (60 < n) = true := decide_eq_true h
  go_enter Tryd.func8, Tryd.ntmps8
  go_wp2_with (go_at_call 9; refine cT.mono ?_; rintro e w1 ⟨rfl, hb⟩)
  go_ret
  exact ⟨rfl, hb⟩
set_option maxHeartbeats 1000000 in
set_option maxRecDepth 100000 in
theorem parts2_longB {E : World → Prop} (T : TextSaid E) (a b : Option Addr) (n cap m cb : Nat) (w : World) (h0 : ¬ 60 < n) (h : 60 < m) (hE : E w) :
    Calls Tryd.prog 8 #[.slice a n cap, .slice b m cb] w fun e w' => e = .returned (.bool true) ∧ Below w.heap.size w w' := by
  have cT := told2_any T w hE
  have g1 : decide ((60 : Int) < (n : Int)) = false := decide_eq_false (by omega)
  have g2 : decide (60 < n) = false := decide_eq_false h0
  have g3 : decide ((60 : Int) < (m : Int)) = true := decide_eq_true (by omega)
  have g4 : decide (60 < m) = true := decide_eq_true h
  go_enter Tryd.func8, Tryd.ntmps8
  go_wp2_with (go_at_call 9; refine cT.mono ?_; rintro e w1 ⟨rfl, hb⟩)
  go_ret
  exact ⟨rfl, hb⟩
set_option maxHeartbeats 4000000 in
set_option maxRecDepth 100000 in
theorem parts2_ns {E : World → Prop} (T : TextSaid E) (a : Option Addr) (b : Option Addr) (cap n cb : Nat) (A B : List UInt8) (w : World) (hE : E w) (hlA : A.length = 0) (hlB : B.length = n) (hn : n ≤ 60) (hnb : n ≤ 2) (hbA : BytesAt w.heap.size w (.slice a 0 cap) A) (hnA : (a : Option Addr) = none → cap = 0) (hbB : BytesAt w.heap.size w (.slice b n cb) B) (hnB : (b : Option Addr) = none → cb = 0) :
    Calls Tryd.prog 8 #[.slice a 0 cap, .slice b n cb] w fun e w' => e = .returned (.bool true) ∧ Below w.heap.size w w' := by
  obtain ⟨s, ex, hra⟩ : ∃ s ex, readT ⟨A.toArray⟩ = (s, ex) := ⟨_, _, rfl⟩
  obtain ⟨t, fx, hrb⟩ : ∃ t fx, readT ⟨B.toArray⟩ = (t, fx) := ⟨_, _, rfl⟩
  obtain ⟨u, gx, hru, hug, hvx, hsA, htB⟩ := parts_told s t ex fx hra hrb (Or.inl hlA) (Or.inl (by omega))
  have HE := Lib.hid hE
  have HRA := Lib.hid hra
  have HRB := Lib.hid hrb
  have HRU := Lib.hid hru
  have HUG := Lib.hid hug
  have HVX := Lib.hid hvx
  have HBA := Lib.hid hbA
  have HBB := Lib.hid hbB
  have HNA := Lib.hid hnA
  have HNB := Lib.hid hnB
  have HLA : Hid (A.length = 0) := hlA
  have HLB : Hid (B.length = n) := hlB
  have HL1 : Hid (A.length ≤ 100000) := show _ ≤ _ by omega
  have HL2 : Hid (B.length ≤ 100000) := show _ ≤ _ by omega
  have HL3 : Hid ((A ++ B).length ≤ 100000) := show _ ≤ _ by rw [List.length_append]; omega
  have HL4 : Hid (([120] ++ B).length ≤ 100000) := show _ ≤ _ by rw [List.length_append]; simp; omega
  have hst : ¬ 9223372036854775807 < s.size + t.size := by omega
  have gB1 : decide ((60 : Int) < (n : Int)) = false := decide_eq_false (by omega)
  have gB2 : decide (60 < n) = false := decide_eq_false (by omega)
  have gC1 : decide ((2 : Int) < (n : Int)) = false := decide_eq_false (by omega)
  have gC2 : decide (2 < n) = false := decide_eq_false (by omega)
  clear hE hlA hlB hra hrb hru hug hvx hbA hbB hnA hnB
  have kc := fun (w : World) (C : Array Value) (n c : Nat) => Lib.run_convert_bytes_const (P := Tryd.prog) w 22 5 C n c Tryd.underlying22 Tryd.underlying5
  go_enter Tryd.func8, Tryd.ntmps8
  go_wp2_with fail
  refine (T.readIs _ _ A s (codeOf ex) ex HRA.out rfl _ HE.out HL1.out HBA.out).mono ?_
  rintro e v1 ⟨rfl, hb⟩
  go_wp2_with fail
  refine (T.readIs _ _ B t (codeOf fx) fx HRB.out rfl _ (T.below _ _ HE.out hb) HL2.out (HBB.out.below hb)).mono ?_
  rintro e v2 ⟨rfl, hb'⟩
  replace hb := step_below2 hb hb'
  clear hb'
  have hO := ownB_lit0 v2 w.heap.size hb.size
  have hb1 := hb.alloc hb.size (Obj.cells #[] 5 (0, 0))
  have hz1 := hb1.size
  have hsA := srcOK_of HBA.out HNA.out hb1
  go_wp2_with (first
    | (at_builtin; refine wpList_append_bytes rfl _ _ rfl w.heap.size _ [] A _ _ cap rfl hO hsA HLA.out rfl (show 0 + _ ≤ 1000 by omega) hz1 ?_; intro v3 w3 hown3 hb3')
    | (at_builtin; refine wpList_append_bytes rfl _ _ rfl w.heap.size _ ([] ++ A) B _ _ cb rfl hown3 (srcOK_of HBB.out HNB.out (hb1.trans hb3')) HLB.out rfl (by rw [List.nil_append, HLA.out]; omega) (hb1.trans hb3').size ?_; intro v4 w4 hown4 hb4'))
  have hb4 := (hb1.trans hb3').trans hb4'
  have HM := Lib.hid (ownB_at hown4)
  clear hO hsA hown3 hown4 hb3' hb4' hz1 hb1 hb
  have z0 : codeOf true = 0 := rfl
  have z2 : codeOf false = 2 := rfl
  refine (T.readIs _ _ (A ++ B) u (codeOf gx) gx HRU.out rfl _ (T.below _ _ HE.out hb4) HL3.out HM.out).mono ?_
  rintro e v5 ⟨rfl, hb'⟩
  have hb := step_below2 hb4 hb'
  clear hb' hb4 HM
  cases ex
  · go_wp2_with fail
    refine (told2_any T _ (T.below _ _ HE.out hb)).mono ?_
    rintro e v6 ⟨rfl, hb'⟩
    replace hb := step_below2 hb hb'
    clear hb'
    go_wp2
    go_ret
    exact ⟨rfl, hb⟩
  · cases fx
    · have hne : B ≠ [] := by
        intro e
        have h1 := HRB.out
        rw [e] at h1
        have h2 := h1.symm.trans read_none
        injection h2 with _ h3
        cases h3
      have hn0 : 0 < n := by have := List.length_pos_iff.2 hne; rw [HLB.out] at this; exact this
      go_wp2_with fail
      refine (told2_any T _ (T.below _ _ HE.out hb)).mono ?_
      rintro e v6 ⟨rfl, hb'⟩
      replace hb := step_below2 hb hb'
      clear hb'
      have HB2 := Lib.hid (hb.alloc hb.size (.cells #[.int .u8 120] 5 (1, 2)))
      rcases srcOK_of HBB.out HNB.out HB2.out with ⟨_, e, _⟩ | ⟨ad, e, hcell⟩
      · exact absurd e hne
      · cases e
        have hnew : ∀ p, (some ⟨v6.heap.size, 0, none⟩ : Option Addr) = some p → ∀ j u, ([.int .u8 120] : List Value)[j]? = some u → (v6.alloc (.cells #[.int .u8 120] 5 (1, 2))).cell? (p.add j) = some u := by
          intro p hp j u hu
          cases hp
          rcases j with _ | j
          · simp at hu; subst hu; exact cell_new1 _ _ _
          · simp at hu
        obtain ⟨i0, hi, hz0, hz1, hz2⟩ := info_parts info_u8
        clear hne
        go_wp2_with (at_builtin; refine wpList_append_grows_g _ (by rfl) _ _ 22 rfl 5 i0 (.int .u8 0) 1 1 Tryd.underlying22 hi hz0 hz1 hz2 rfl (by decide) ⟨v6.heap.size, 0, none⟩ 1 1 [.int .u8 120] rfl rfl (hnew _ rfl) _ n cb (B.map bval) rfl (by rw [List.length_map, HLB.out, Nat.mul_one]) hcell (by omega) (by unfold maxLen; omega) (by omega) ?_; intro v7 w7 hown7 hgrow7)
        have hb7 : Below w.heap.size w w7 := HB2.out.grown hgrow7 (by have := hb.size; simp; omega) (fun k hk => by cases hk)
        have hown : OwnB w7 (v6.alloc (.cells #[.int .u8 120] 5 (1, 2))).heap.size v7 ([120] ++ B) := by
          unfold OwnB
          rw [List.length_append, List.map_append, HLB.out]
          exact hown7
        have HM := Lib.hid (ownB_at hown)
        clear hnew hown7 hown hgrow7 hcell hb HB2
        refine (T.validIs _ _ ([120] ++ B) false HVX.out _ (T.below _ _ HE.out hb7) HL4.out HM.out).mono ?_
        rintro e v8 ⟨rfl, hb'⟩
        have hb := step_below2 hb7 hb'
        clear hb' hb7 HM
        go_wp2
        go_ret
        exact ⟨rfl, hb⟩
    · obtain ⟨rfl, rfl⟩ := HUG.out rfl rfl
      clear HUG
      go_wp2_with fail
      refine (told2_any T _ (T.below _ _ HE.out hb)).mono ?_
      rintro e v6 ⟨rfl, hb'⟩
      replace hb := step_below2 hb hb'
      clear hb'
      go_wp2
      go_ret
      exact ⟨rfl, hb⟩
set_option maxHeartbeats 4000000 in
set_option maxRecDepth 100000 in
theorem parts2_nl {E : World → Prop} (T : TextSaid E) (a : Option Addr) (bb ob : Nat) (cap n cb y : Nat) (A B : List UInt8) (w : World) (hE : E w) (hlA : A.length = 0) (hlB : B.length = n) (hn : n ≤ 60) (hnb : 2 < n) (hcB : w.cell? ⟨bb, ob, none⟩ = some (.int .u8 (y : Int))) (hy : ¬ y = 239) (hyB : (B.getD 0 0).toNat = y) (hbA : BytesAt w.heap.size w (.slice a 0 cap) A) (hnA : (a : Option Addr) = none → cap = 0) (hbB : BytesAt w.heap.size w (.slice (some ⟨bb, ob, none⟩) n cb) B) (hnB : ((some ⟨bb, ob, none⟩) : Option Addr) = none → cb = 0) :
    Calls Tryd.prog 8 #[.slice a 0 cap, .slice (some ⟨bb, ob, none⟩) n cb] w fun e w' => e = .returned (.bool true) ∧ Below w.heap.size w w' := by
  obtain ⟨s, ex, hra⟩ : ∃ s ex, readT ⟨A.toArray⟩ = (s, ex) := ⟨_, _, rfl⟩
  obtain ⟨t, fx, hrb⟩ : ∃ t fx, readT ⟨B.toArray⟩ = (t, fx) := ⟨_, _, rfl⟩
  obtain ⟨u, gx, hru, hug, hvx, hsA, htB⟩ := parts_told s t ex fx hra hrb (Or.inl hlA) (Or.inr (by rw [hyB]; exact hy))
  have HE := Lib.hid hE
  have HRA := Lib.hid hra
  have HRB := Lib.hid hrb
  have HRU := Lib.hid hru
  have HUG := Lib.hid hug
  have HVX := Lib.hid hvx
  have HBA := Lib.hid hbA
  have HBB := Lib.hid hbB
  have HNA := Lib.hid hnA
  have HNB := Lib.hid hnB
  have HLA : Hid (A.length = 0) := hlA
  have HLB : Hid (B.length = n) := hlB
  have HL1 : Hid (A.length ≤ 100000) := show _ ≤ _ by omega
  have HL2 : Hid (B.length ≤ 100000) := show _ ≤ _ by omega
  have HL3 : Hid ((A ++ B).length ≤ 100000) := show _ ≤ _ by rw [List.length_append]; omega
  have HL4 : Hid (([120] ++ B).length ≤ 100000) := show _ ≤ _ by rw [List.length_append]; simp; omega
  have hst : ¬ 9223372036854775807 < s.size + t.size := by omega
  have gB1 : decide ((60 : Int) < (n : Int)) = false := decide_eq_false (by omega)
  have gB2 : decide (60 < n) = false := decide_eq_false (by omega)
  have gC1 : decide ((2 : Int) < (n : Int)) = true := decide_eq_true (by omega)
  have gC2 : decide (2 < n) = true := decide_eq_true hnb
  have gC3 : 0 < n := by omega
  have b1 : ((y : Int) == 239) = false := beq_eq_false_iff_ne.2 (by omega)
  have b2 : (y == 239) = false := beq_eq_false_iff_ne.2 hy
  clear hE hlA hlB hra hrb hru hug hvx hbA hbB hnA hnB hy hyB
  have kc := fun (w : World) (C : Array Value) (n c : Nat) => Lib.run_convert_bytes_const (P := Tryd.prog) w 22 5 C n c Tryd.underlying22 Tryd.underlying5
  go_enter Tryd.func8, Tryd.ntmps8
  go_wp2_with fail
  refine (T.readIs _ _ A s (codeOf ex) ex HRA.out rfl _ HE.out HL1.out HBA.out).mono ?_
  rintro e v1 ⟨rfl, hb⟩
  go_wp2_with fail
  refine (T.readIs _ _ B t (codeOf fx) fx HRB.out rfl _ (T.below _ _ HE.out hb) HL2.out (HBB.out.below hb)).mono ?_
  rintro e v2 ⟨rfl, hb'⟩
  replace hb := step_below2 hb hb'
  clear hb'
  have hO := ownB_lit0 v2 w.heap.size hb.size
  have hb1 := hb.alloc hb.size (Obj.cells #[] 5 (0, 0))
  have hz1 := hb1.size
  have hsA := srcOK_of HBA.out HNA.out hb1
  go_wp2_with (first
    | (at_builtin; refine wpList_append_bytes rfl _ _ rfl w.heap.size _ [] A _ _ cap rfl hO hsA HLA.out rfl (show 0 + _ ≤ 1000 by omega) hz1 ?_; intro v3 w3 hown3 hb3')
    | (at_builtin; refine wpList_append_bytes rfl _ _ rfl w.heap.size _ ([] ++ A) B _ _ cb rfl hown3 (srcOK_of HBB.out HNB.out (hb1.trans hb3')) HLB.out rfl (by rw [List.nil_append, HLA.out]; omega) (hb1.trans hb3').size ?_; intro v4 w4 hown4 hb4'))
  have hb4 := (hb1.trans hb3').trans hb4'
  have HM := Lib.hid (ownB_at hown4)
  clear hO hsA hown3 hown4 hb3' hb4' hz1 hb1 hb
  have z0 : codeOf true = 0 := rfl
  have z2 : codeOf false = 2 := rfl
  refine (T.readIs _ _ (A ++ B) u (codeOf gx) gx HRU.out rfl _ (T.below _ _ HE.out hb4) HL3.out HM.out).mono ?_
  rintro e v5 ⟨rfl, hb'⟩
  have hb := step_below2 hb4 hb'
  clear hb' hb4 HM
  cases ex
  · go_wp2_with fail
    refine (told2_any T _ (T.below _ _ HE.out hb)).mono ?_
    rintro e v6 ⟨rfl, hb'⟩
    replace hb := step_below2 hb hb'
    clear hb'
    go_wp2
    go_ret
    exact ⟨rfl, hb⟩
  · cases fx
    · have hne : B ≠ [] := by
        intro e
        have h1 := HRB.out
        rw [e] at h1
        have h2 := h1.symm.trans read_none
        injection h2 with _ h3
        cases h3
      have hn0 : 0 < n := by have := List.length_pos_iff.2 hne; rw [HLB.out] at this; exact this
      go_wp2_with fail
      refine (told2_any T _ (T.below _ _ HE.out hb)).mono ?_
      rintro e v6 ⟨rfl, hb'⟩
      replace hb := step_below2 hb hb'
      clear hb'
      have HB2 := Lib.hid (hb.alloc hb.size (.cells #[.int .u8 120] 5 (1, 2)))
      rcases srcOK_of HBB.out HNB.out HB2.out with ⟨_, e, _⟩ | ⟨ad, e, hcell⟩
      · exact absurd e hne
      · cases e
        have hnew : ∀ p, (some ⟨v6.heap.size, 0, none⟩ : Option Addr) = some p → ∀ j u, ([.int .u8 120] : List Value)[j]? = some u → (v6.alloc (.cells #[.int .u8 120] 5 (1, 2))).cell? (p.add j) = some u := by
          intro p hp j u hu
          cases hp
          rcases j with _ | j
          · simp at hu; subst hu; exact cell_new1 _ _ _
          · simp at hu
        obtain ⟨i0, hi, hz0, hz1, hz2⟩ := info_parts info_u8
        clear hne
        go_wp2_with (at_builtin; refine wpList_append_grows_g _ (by rfl) _ _ 22 rfl 5 i0 (.int .u8 0) 1 1 Tryd.underlying22 hi hz0 hz1 hz2 rfl (by decide) ⟨v6.heap.size, 0, none⟩ 1 1 [.int .u8 120] rfl rfl (hnew _ rfl) _ n cb (B.map bval) rfl (by rw [List.length_map, HLB.out, Nat.mul_one]) hcell (by omega) (by unfold maxLen; omega) (by omega) ?_; intro v7 w7 hown7 hgrow7)
        have hb7 : Below w.heap.size w w7 := HB2.out.grown hgrow7 (by have := hb.size; simp; omega) (fun k hk => by cases hk)
        have hown : OwnB w7 (v6.alloc (.cells #[.int .u8 120] 5 (1, 2))).heap.size v7 ([120] ++ B) := by
          unfold OwnB
          rw [List.length_append, List.map_append, HLB.out]
          exact hown7
        have HM := Lib.hid (ownB_at hown)
        clear hnew hown7 hown hgrow7 hcell hb HB2
        refine (T.validIs _ _ ([120] ++ B) false HVX.out _ (T.below _ _ HE.out hb7) HL4.out HM.out).mono ?_
        rintro e v8 ⟨rfl, hb'⟩
        have hb := step_below2 hb7 hb'
        clear hb' hb7 HM
        go_wp2
        go_ret
        exact ⟨rfl, hb⟩
    · obtain ⟨rfl, rfl⟩ := HUG.out rfl rfl
      clear HUG
      go_wp2_with fail
      refine (told2_any T _ (T.below _ _ HE.out hb)).mono ?_
      rintro e v6 ⟨rfl, hb'⟩
      replace hb := step_below2 hb hb'
      clear hb'
      go_wp2
      go_ret
      exact ⟨rfl, hb⟩
set_option maxHeartbeats 4000000 in
set_option maxRecDepth 100000 in
theorem parts2_as {E : World → Prop} (T : TextSaid E) (ba oa m : Nat) (b : Option Addr) (cap n cb x : Nat) (A B : List UInt8) (w : World) (hE : E w) (hlA : A.length = (m + 1)) (hlB : B.length = n) (hn : n ≤ 60) (hm : m + 1 ≤ 60) (hcA : w.cell? ⟨ba, oa + m, none⟩ = some (.int .u8 (x : Int))) (hx : ¬ x = 13) (hxA : (A.getD m 0).toNat = x) (hnb : n ≤ 2) (hbA : BytesAt w.heap.size w (.slice (some ⟨ba, oa, none⟩) (m + 1) cap) A) (hnA : ((some ⟨ba, oa, none⟩) : Option Addr) = none → cap = 0) (hbB : BytesAt w.heap.size w (.slice b n cb) B) (hnB : (b : Option Addr) = none → cb = 0) :
    Calls Tryd.prog 8 #[.slice (some ⟨ba, oa, none⟩) (m + 1) cap, .slice b n cb] w fun e w' => e = .returned (.bool true) ∧ Below w.heap.size w w' := by
  obtain ⟨s, ex, hra⟩ : ∃ s ex, readT ⟨A.toArray⟩ = (s, ex) := ⟨_, _, rfl⟩
  obtain ⟨t, fx, hrb⟩ : ∃ t fx, readT ⟨B.toArray⟩ = (t, fx) := ⟨_, _, rfl⟩
  obtain ⟨u, gx, hru, hug, hvx, hsA, htB⟩ := parts_told s t ex fx hra hrb (Or.inr (by rw [hlA, Nat.add_sub_cancel, hxA]; exact hx)) (Or.inl (by omega))
  have HE := Lib.hid hE
  have HRA := Lib.hid hra
  have HRB := Lib.hid hrb
  have HRU := Lib.hid hru
  have HUG := Lib.hid hug
  have HVX := Lib.hid hvx
  have HBA := Lib.hid hbA
  have HBB := Lib.hid hbB
  have HNA := Lib.hid hnA
  have HNB := Lib.hid hnB
  have HLA : Hid (A.length = (m + 1)) := hlA
  have HLB : Hid (B.length = n) := hlB
  have HL1 : Hid (A.length ≤ 100000) := show _ ≤ _ by omega
  have HL2 : Hid (B.length ≤ 100000) := show _ ≤ _ by omega
  have HL3 : Hid ((A ++ B).length ≤ 100000) := show _ ≤ _ by rw [List.length_append]; omega
  have HL4 : Hid (([120] ++ B).length ≤ 100000) := show _ ≤ _ by rw [List.length_append]; simp; omega
  have hst : ¬ 9223372036854775807 < s.size + t.size := by omega
  have gA1 : decide ((60 : Int) < ((m + 1 : Nat) : Int)) = false := decide_eq_false (by omega)
  have gA2 : decide (60 < m + 1) = false := decide_eq_false (by omega)
  have gA3 : decide ((60 : Int) < (m : Int) + 1) = false := decide_eq_false (by omega)
  have a1 : ((x : Int) == 13) = false := beq_eq_false_iff_ne.2 (by omega)
  have a2 : (x == 13) = false := beq_eq_false_iff_ne.2 hx
  have gB1 : decide ((60 : Int) < (n : Int)) = false := decide_eq_false (by omega)
  have gB2 : decide (60 < n) = false := decide_eq_false (by omega)
  have gC1 : decide ((2 : Int) < (n : Int)) = false := decide_eq_false (by omega)
  have gC2 : decide (2 < n) = false := decide_eq_false (by omega)
  clear hE hlA hlB hra hrb hru hug hvx hbA hbB hnA hnB hx hxA
  have kc := fun (w : World) (C : Array Value) (n c : Nat) => Lib.run_convert_bytes_const (P := Tryd.prog) w 22 5 C n c Tryd.underlying22 Tryd.underlying5
  go_enter Tryd.func8, Tryd.ntmps8
  go_wp2_with fail
  refine (T.readIs _ _ A s (codeOf ex) ex HRA.out rfl _ HE.out HL1.out HBA.out).mono ?_
  rintro e v1 ⟨rfl, hb⟩
  go_wp2_with fail
  refine (T.readIs _ _ B t (codeOf fx) fx HRB.out rfl _ (T.below _ _ HE.out hb) HL2.out (HBB.out.below hb)).mono ?_
  rintro e v2 ⟨rfl, hb'⟩
  replace hb := step_below2 hb hb'
  clear hb'
  have hO := ownB_lit0 v2 w.heap.size hb.size
  have hb1 := hb.alloc hb.size (Obj.cells #[] 5 (0, 0))
  have hz1 := hb1.size
  have hsA := srcOK_of HBA.out HNA.out hb1
  go_wp2_with (first
    | (at_builtin; refine wpList_append_bytes rfl _ _ rfl w.heap.size _ [] A _ _ cap rfl hO hsA HLA.out rfl (show 0 + _ ≤ 1000 by omega) hz1 ?_; intro v3 w3 hown3 hb3')
    | (at_builtin; refine wpList_append_bytes rfl _ _ rfl w.heap.size _ ([] ++ A) B _ _ cb rfl hown3 (srcOK_of HBB.out HNB.out (hb1.trans hb3')) HLB.out rfl (by rw [List.nil_append, HLA.out]; omega) (hb1.trans hb3').size ?_; intro v4 w4 hown4 hb4'))
  have hb4 := (hb1.trans hb3').trans hb4'
  have HM := Lib.hid (ownB_at hown4)
  clear hO hsA hown3 hown4 hb3' hb4' hz1 hb1 hb
  have z0 : codeOf true = 0 := rfl
  have z2 : codeOf false = 2 := rfl
  refine (T.readIs _ _ (A ++ B) u (codeOf gx) gx HRU.out rfl _ (T.below _ _ HE.out hb4) HL3.out HM.out).mono ?_
  rintro e v5 ⟨rfl, hb'⟩
  have hb := step_below2 hb4 hb'
  clear hb' hb4 HM
  cases ex
  · go_wp2_with fail
    refine (told2_any T _ (T.below _ _ HE.out hb)).mono ?_
    rintro e v6 ⟨rfl, hb'⟩
    replace hb := step_below2 hb hb'
    clear hb'
    go_wp2
    go_ret
    exact ⟨rfl, hb⟩
  · cases fx
    · have hne : B ≠ [] := by
        intro e
        have h1 := HRB.out
        rw [e] at h1
        have h2 := h1.symm.trans read_none
        injection h2 with _ h3
        cases h3
      have hn0 : 0 < n := by have := List.length_pos_iff.2 hne; rw [HLB.out] at this; exact this
      go_wp2_with fail
      refine (told2_any T _ (T.below _ _ HE.out hb)).mono ?_
      rintro e v6 ⟨rfl, hb'⟩
      replace hb := step_below2 hb hb'
      clear hb'
      have HB2 := Lib.hid (hb.alloc hb.size (.cells #[.int .u8 120] 5 (1, 2)))
      rcases srcOK_of HBB.out HNB.out HB2.out with ⟨_, e, _⟩ | ⟨ad, e, hcell⟩
      · exact absurd e hne
      · cases e
        have hnew : ∀ p, (some ⟨v6.heap.size, 0, none⟩ : Option Addr) = some p → ∀ j u, ([.int .u8 120] : List Value)[j]? = some u → (v6.alloc (.cells #[.int .u8 120] 5 (1, 2))).cell? (p.add j) = some u := by
          intro p hp j u hu
          cases hp
          rcases j with _ | j
          · simp at hu; subst hu; exact cell_new1 _ _ _
          · simp at hu
        obtain ⟨i0, hi, hz0, hz1, hz2⟩ := info_parts info_u8
        clear hne
        go_wp2_with (at_builtin; refine wpList_append_grows_g _ (by rfl) _ _ 22 rfl 5 i0 (.int .u8 0) 1 1 Tryd.underlying22 hi hz0 hz1 hz2 rfl (by decide) ⟨v6.heap.size, 0, none⟩ 1 1 [.int .u8 120] rfl rfl (hnew _ rfl) _ n cb (B.map bval) rfl (by rw [List.length_map, HLB.out, Nat.mul_one]) hcell (by omega) (by unfold maxLen; omega) (by omega) ?_; intro v7 w7 hown7 hgrow7)
        have hb7 : Below w.heap.size w w7 := HB2.out.grown hgrow7 (by have := hb.size; simp; omega) (fun k hk => by cases hk)
        have hown : OwnB w7 (v6.alloc (.cells #[.int .u8 120] 5 (1, 2))).heap.size v7 ([120] ++ B) := by
          unfold OwnB
          rw [List.length_append, List.map_append, HLB.out]
          exact hown7
        have HM := Lib.hid (ownB_at hown)
        clear hnew hown7 hown hgrow7 hcell hb HB2
        refine (T.validIs _ _ ([120] ++ B) false HVX.out _ (T.below _ _ HE.out hb7) HL4.out HM.out).mono ?_
        rintro e v8 ⟨rfl, hb'⟩
        have hb := step_below2 hb7 hb'
        clear hb' hb7 HM
        go_wp2
        go_ret
        exact ⟨rfl, hb⟩
    · obtain ⟨rfl, rfl⟩ := HUG.out rfl rfl
      clear HUG
      go_wp2_with fail
      refine (told2_any T _ (T.below _ _ HE.out hb)).mono ?_
      rintro e v6 ⟨rfl, hb'⟩
      replace hb := step_below2 hb hb'
      clear hb'
      go_wp2
      go_ret
      exact ⟨rfl, hb⟩
set_option maxHeartbeats 4000000 in
set_option maxRecDepth 100000 in
theorem parts2_al {E : World → Prop} (T : TextSaid E) (ba oa m : Nat) (bb ob : Nat) (cap n cb x y : Nat) (A B : List UInt8) (w : World) (hE : E w) (hlA : A.length = (m + 1)) (hlB : B.length = n) (hn : n ≤ 60) (hm : m + 1 ≤ 60) (hcA : w.cell? ⟨ba, oa + m, none⟩ = some (.int .u8 (x : Int))) (hx : ¬ x = 13) (hxA : (A.getD m 0).toNat = x) (hnb : 2 < n) (hcB : w.cell? ⟨bb, ob, none⟩ = some (.int .u8 (y : Int))) (hy : ¬ y = 239) (hyB : (B.getD 0 0).toNat = y) (hbA : BytesAt w.heap.size w (.slice (some ⟨ba, oa, none⟩) (m + 1) cap) A) (hnA : ((some ⟨ba, oa, none⟩) : Option Addr) = none → cap = 0) (hbB : BytesAt w.heap.size w (.slice (some ⟨bb, ob, none⟩) n cb) B) (hnB : ((some ⟨bb, ob, none⟩) : Option Addr) = none → cb = 0) :
    Calls Tryd.prog 8 #[.slice (some ⟨ba, oa, none⟩) (m + 1) cap, .slice (some ⟨bb, ob, none⟩) n cb] w fun e w' => e = .returned (.bool true) ∧ Below w.heap.size w w' := by
  obtain ⟨s, ex, hra⟩ : ∃ s ex, readT ⟨A.toArray⟩ = (s, ex) := ⟨_, _, rfl⟩
  obtain ⟨t, fx, hrb⟩ : ∃ t fx, readT ⟨B.toArray⟩ = (t, fx) := ⟨_, _, rfl⟩
  obtain ⟨u, gx, hru, hug, hvx, hsA, htB⟩ := parts_told s t ex fx hra hrb (Or.inr (by rw [hlA, Nat.add_sub_cancel, hxA]; exact hx)) (Or.inr (by rw [hyB]; exact hy))
  have HE := Lib.hid hE
  have HRA := Lib.hid hra
  have HRB := Lib.hid hrb
  have HRU := Lib.hid hru
  have HUG := Lib.hid hug
  have HVX := Lib.hid hvx
  have HBA := Lib.hid hbA
  have HBB := Lib.hid hbB
  have HNA := Lib.hid hnA
  have HNB := Lib.hid hnB
  have HLA : Hid (A.length = (m + 1)) := hlA
  have HLB : Hid (B.length = n) := hlB
  have HL1 : Hid (A.length ≤ 100000) := show _ ≤ _ by omega
  have HL2 : Hid (B.length ≤ 100000) := show _ ≤ _ by omega
  have HL3 : Hid ((A ++ B).length ≤ 100000) := show _ ≤ _ by rw [List.length_append]; omega
  have HL4 : Hid (([120] ++ B).length ≤ 100000) := show _ ≤ _ by rw [List.length_append]; simp; omega
  have hst : ¬ 9223372036854775807 < s.size + t.size := by omega
  have gA1 : decide ((60 : Int) < ((m + 1 : Nat) : Int)) = false := decide_eq_false (by omega)
  have gA2 : decide (60 < m + 1) = false := decide_eq_false (by omega)
  have gA3 : decide ((60 : Int) < (m : Int) + 1) = false := decide_eq_false (by omega)
  have a1 : ((x : Int) == 13) = false := beq_eq_false_iff_ne.2 (by omega)
  have a2 : (x == 13) = false := beq_eq_false_iff_ne.2 hx
  have gB1 : decide ((60 : Int) < (n : Int)) = false := decide_eq_false (by omega)
  have gB2 : decide (60 < n) = false := decide_eq_false (by omega)
  have gC1 : decide ((2 : Int) < (n : Int)) = true := decide_eq_true (by omega)
  have gC2 : decide (2 < n) = true := decide_eq_true hnb
  have gC3 : 0 < n := by omega
  have b1 : ((y : Int) == 239) = false := beq_eq_false_iff_ne.2 (by omega)
  have b2 : (y == 239) = false := beq_eq_false_iff_ne.2 hy
  clear hE hlA hlB hra hrb hru hug hvx hbA hbB hnA hnB hx hxA hy hyB
  have kc := fun (w : World) (C : Array Value) (n c : Nat) => Lib.run_convert_bytes_const (P := Tryd.prog) w 22 5 C n c Tryd.underlying22 Tryd.underlying5
  go_enter Tryd.func8, Tryd.ntmps8
  go_wp2_with fail
  refine (T.readIs _ _ A s (codeOf ex) ex HRA.out rfl _ HE.out HL1.out HBA.out).mono ?_
  rintro e v1 ⟨rfl, hb⟩
  go_wp2_with fail
  refine (T.readIs _ _ B t (codeOf fx) fx HRB.out rfl _ (T.below _ _ HE.out hb) HL2.out (HBB.out.below hb)).mono ?_
  rintro e v2 ⟨rfl, hb'⟩
  replace hb := step_below2 hb hb'
  clear hb'
  have hO := ownB_lit0 v2 w.heap.size hb.size
  have hb1 := hb.alloc hb.size (Obj.cells #[] 5 (0, 0))
  have hz1 := hb1.size
  have hsA := srcOK_of HBA.out HNA.out hb1
  go_wp2_with (first
    | (at_builtin; refine wpList_append_bytes rfl _ _ rfl w.heap.size _ [] A _ _ cap rfl hO hsA HLA.out rfl (show 0 + _ ≤ 1000 by omega) hz1 ?_; intro v3 w3 hown3 hb3')
    | (at_builtin; refine wpList_append_bytes rfl _ _ rfl w.heap.size _ ([] ++ A) B _ _ cb rfl hown3 (srcOK_of HBB.out HNB.out (hb1.trans hb3')) HLB.out rfl (by rw [List.nil_append, HLA.out]; omega) (hb1.trans hb3').size ?_; intro v4 w4 hown4 hb4'))
  have hb4 := (hb1.trans hb3').trans hb4'
  have HM := Lib.hid (ownB_at hown4)
  clear hO hsA hown3 hown4 hb3' hb4' hz1 hb1 hb
  have z0 : codeOf true = 0 := rfl
  have z2 : codeOf false = 2 := rfl
  refine (T.readIs _ _ (A ++ B) u (codeOf gx) gx HRU.out rfl _ (T.below _ _ HE.out hb4) HL3.out HM.out).mono ?_
  rintro e v5 ⟨rfl, hb'⟩
  have hb := step_below2 hb4 hb'
  clear hb' hb4 HM
  cases ex
  · go_wp2_with fail
    refine (told2_any T _ (T.below _ _ HE.out hb)).mono ?_
    rintro e v6 ⟨rfl, hb'⟩
    replace hb := step_below2 hb hb'
    clear hb'
    go_wp2
    go_ret
    exact ⟨rfl, hb⟩
  · cases fx
    · have hne : B ≠ [] := by
        intro e
        have h1 := HRB.out
        rw [e] at h1
        have h2 := h1.symm.trans read_none
        injection h2 with _ h3
        cases h3
      have hn0 : 0 < n := by have := List.length_pos_iff.2 hne; rw [HLB.out] at this; exact this
      go_wp2_with fail
      refine (told2_any T _ (T.below _ _ HE.out hb)).mono ?_
      rintro e v6 ⟨rfl, hb'⟩
      replace hb := step_below2 hb hb'
      clear hb'
      have HB2 := Lib.hid (hb.alloc hb.size (.cells #[.int .u8 120] 5 (1, 2)))
      rcases srcOK_of HBB.out HNB.out HB2.out with ⟨_, e, _⟩ | ⟨ad, e, hcell⟩
      · exact absurd e hne
      · cases e
        have hnew : ∀ p, (some ⟨v6.heap.size, 0, none⟩ : Option Addr) = some p → ∀ j u, ([.int .u8 120] : List Value)[j]? = some u → (v6.alloc (.cells #[.int .u8 120] 5 (1, 2))).cell? (p.add j) = some u := by
          intro p hp j u hu
          cases hp
          rcases j with _ | j
          · simp at hu; subst hu; exact cell_new1 _ _ _
          · simp at hu
        obtain ⟨i0, hi, hz0, hz1, hz2⟩ := info_parts info_u8
        clear hne
        go_wp2_with (at_builtin; refine wpList_append_grows_g _ (by rfl) _ _ 22 rfl 5 i0 (.int .u8 0) 1 1 Tryd.underlying22 hi hz0 hz1 hz2 rfl (by decide) ⟨v6.heap.size, 0, none⟩ 1 1 [.int .u8 120] rfl rfl (hnew _ rfl) _ n cb (B.map bval) rfl (by rw [List.length_map, HLB.out, Nat.mul_one]) hcell (by omega) (by unfold maxLen; omega) (by omega) ?_; intro v7 w7 hown7 hgrow7)
        have hb7 : Below w.heap.size w w7 := HB2.out.grown hgrow7 (by have := hb.size; simp; omega) (fun k hk => by cases hk)
        have hown : OwnB w7 (v6.alloc (.cells #[.int .u8 120] 5 (1, 2))).heap.size v7 ([120] ++ B) := by
          unfold OwnB
          rw [List.length_append, List.map_append, HLB.out]
          exact hown7
        have HM := Lib.hid (ownB_at hown)
        clear hnew hown7 hown hgrow7 hcell hb HB2
        refine (T.validIs _ _ ([120] ++ B) false HVX.out _ (T.below _ _ HE.out hb7) HL4.out HM.out).mono ?_
        rintro e v8 ⟨rfl, hb'⟩
        have hb := step_below2 hb7 hb'
        clear hb' hb7 HM
        go_wp2
        go_ret
        exact ⟨rfl, hb⟩
    · obtain ⟨rfl, rfl⟩ := HUG.out rfl rfl
      clear HUG
      go_wp2_with fail
      refine (told2_any T _ (T.below _ _ HE.out hb)).mono ?_
      rintro e v6 ⟨rfl, hb'⟩
      replace hb := step_below2 hb hb'
      clear hb'
      go_wp2
      go_ret
      exact ⟨rfl, hb⟩
set_option maxHeartbeats 1000000 in
set_option maxRecDepth 100000 in
theorem parts2_a13 {E : World → Prop} (T : TextSaid E) (ba oa m : Nat) (b : Option Addr) (cap n cb : Nat) (w : World) (hE : E w) (hm : m + 1 ≤ 60) (hn : n ≤ 60) (hcA : w.cell? ⟨ba, oa + m, none⟩ = some (.int .u8 13)) :
    Calls Tryd.prog 8 #[.slice (some ⟨ba, oa, none⟩) (m + 1) cap, .slice b n cb] w fun e w' => e = .returned (.bool true) ∧ Below w.heap.size w w' := by
  have cT := told2_any T w hE
  have gA2 : decide (60 < m + 1) = false := decide_eq_false (by omega)
  have gA3 : decide ((60 : Int) < (m : Int) + 1) = false := decide_eq_false (by omega)
  have gB1 : decide ((60 : Int) < (n : Int)) = false := decide_eq_false (by omega)
  have gB2 : decide (60 < n) = false := decide_eq_false (by omega)
  go_enter Tryd.func8, Tryd.ntmps8
  go_wp2_with (go_at_call 9; refine cT.mono ?_; rintro e w1 ⟨rfl, hb⟩)
  go_ret
  exact ⟨rfl, hb⟩
set_option maxHeartbeats 1000000 in
set_option maxRecDepth 100000 in
theorem parts2_nE {E : World → Prop} (T : TextSaid E) (a : Option Addr) (bb ob cap n cb : Nat) (w : World) (hE : E w) (hn : n ≤ 60) (hnb : 2 < n) (hcB : w.cell? ⟨bb, ob, none⟩ = some (.int .u8 239)) :
    Calls Tryd.prog 8 #[.slice a 0 cap, .slice (some ⟨bb, ob, none⟩) n cb] w fun e w' => e = .returned (.bool true) ∧ Below w.heap.size w w' := by
  have cT := told2_any T w hE
  have gB1 : decide ((60 : Int) < (n : Int)) = false := decide_eq_false (by omega)
  have gB2 : decide (60 < n) = false := decide_eq_false (by omega)
  have gC1 : decide ((2 : Int) < (n : Int)) = true := decide_eq_true (by omega)
  have gC2 : decide (2 < n) = true := decide_eq_true hnb
  have gC3 : 0 < n := by omega
  go_enter Tryd.func8, Tryd.ntmps8
  go_wp2_with (go_at_call 9; refine cT.mono ?_; rintro e w1 ⟨rfl, hb⟩)
  go_ret
  exact ⟨rfl, hb⟩
set_option maxHeartbeats 1000000 in
set_option maxRecDepth 100000 in
theorem parts2_aE {E : World → Prop} (T : TextSaid E) (ba oa m bb ob cap n cb x : Nat) (w : World) (hE : E w) (hm : m + 1 ≤ 60) (hcA : w.cell? ⟨ba, oa + m, none⟩ = some (.int .u8 (x : Int))) (hx : ¬ x = 13) (hn : n ≤ 60) (hnb : 2 < n) (hcB : w.cell? ⟨bb, ob, none⟩ = some (.int .u8 239)) :
    Calls Tryd.prog 8 #[.slice (some ⟨ba, oa, none⟩) (m + 1) cap, .slice (some ⟨bb, ob, none⟩) n cb] w fun e w' => e = .returned (.bool true) ∧ Below w.heap.size w w' := by
  have cT := told2_any T w hE
  have gA2 : decide (60 < m + 1) = false := decide_eq_false (by omega)
  have gA3 : decide ((60 : Int) < (m : Int) + 1) = false := decide_eq_false (by omega)
  have a1 : ((x : Int) == 13) = false := beq_eq_false_iff_ne.2 (by omega)
  have a2 : (x == 13) = false := beq_eq_false_iff_ne.2 hx
  have gB1 : decide ((60 : Int) < (n : Int)) = false := decide_eq_false (by omega)
  have gB2 : decide (60 < n) = false := decide_eq_false (by omega)
  have gC1 : decide ((2 : Int) < (n : Int)) = true := decide_eq_true (by omega)
  have gC2 : decide (2 < n) = true := decide_eq_true hnb
  have gC3 : 0 < n := by omega
  go_enter Tryd.func8, Tryd.ntmps8
  go_wp2_with (go_at_call 9; refine cT.mono ?_; rintro e w1 ⟨rfl, hb⟩)
  go_ret
  exact ⟨rfl, hb⟩
theorem parts2_any {E : World → Prop} (T : TextSaid E) (a : Option Addr) (nA cap : Nat) (hnA : a = none → cap = 0) (b : Option Addr) (n cb : Nat) (hnB : b = none → cb = 0) (A B : List UInt8) (w : World) (hE : E w) (hlA : A.length = nA) (hbA : BytesAt w.heap.size w (.slice a nA cap) A) (hlB : B.length = n) (hbB : BytesAt w.heap.size w (.slice b n cb) B) :
    Calls Tryd.prog 8 #[.slice a nA cap, .slice b n cb] w fun e w' => e = .returned (.bool true) ∧ Below w.heap.size w w' := by
  by_cases h1 : 60 < nA
  · exact parts2_longA T a b nA cap n cb w h1 hE
  by_cases h2 : 60 < n
  · exact parts2_longB T a b nA cap n cb w h1 h2 hE
  have hn : n ≤ 60 := by omega
  have cA : nA = 0 ∨ ∃ ba oa, a = some ⟨ba, oa, none⟩ ∧ ∀ i, i < A.length → w.cell? ⟨ba, oa + i, none⟩ = some (bval (A.getD i 0)) := by
    obtain ⟨a', c', e, _, hh⟩ := hbA
    injection e with e1 _ _
    subst e1
    rcases hh with rfl | ⟨ba, oa, e, _, hc⟩
    · exact Or.inl hlA.symm
    · exact Or.inr ⟨ba, oa, e, hc⟩
  have cB : n ≤ 2 ∨ (2 < n ∧ ∃ bb ob, b = some ⟨bb, ob, none⟩ ∧ w.cell? ⟨bb, ob, none⟩ = some (.int .u8 ((B.getD 0 0).toNat : Int))) := by
    by_cases h : n ≤ 2
    · exact Or.inl h
    · right
      refine ⟨by omega, ?_⟩
      obtain ⟨b', c', e, _, hh⟩ := hbB
      injection e with e1 _ _
      subst e1
      rcases hh with rfl | ⟨bb, ob, e, _, hc⟩
      · simp at hlB; omega
      · exact ⟨bb, ob, e, by have := hc 0 (by omega); rw [Nat.add_zero] at this; exact this⟩
  rcases cA with rfl | ⟨ba, oa, rfl, hcA⟩
  · rcases cB with h | ⟨h, bb, ob, rfl, hcB⟩
    · exact parts2_ns T a b cap n cb A B w hE hlA hlB hn h hbA hnA hbB hnB
    · by_cases hy : (B.getD 0 0).toNat = 239
      · rw [hy] at hcB
        exact parts2_nE T a bb ob cap n cb w hE hn h hcB
      · exact parts2_nl T a bb ob cap n cb _ A B w hE hlA hlB hn h hcB hy rfl hbA hnA hbB hnB
  · by_cases h0 : nA = 0
    · subst h0
      rcases cB with h | ⟨h, bb, ob, rfl, hcB⟩
      · exact parts2_ns T _ b cap n cb A B w hE hlA hlB hn h hbA hnA hbB hnB
      · by_cases hy : (B.getD 0 0).toNat = 239
        · rw [hy] at hcB
          exact parts2_nE T _ bb ob cap n cb w hE hn h hcB
        · exact parts2_nl T _ bb ob cap n cb _ A B w hE hlA hlB hn h hcB hy rfl hbA hnA hbB hnB
    · obtain ⟨m, rfl⟩ : ∃ m, nA = m + 1 := ⟨nA - 1, by omega⟩
      have hc := hcA m (by omega)
      have hc' : w.cell? ⟨ba, oa + m, none⟩ = some (.int .u8 ((A.getD m 0).toNat : Int)) := hc
      by_cases hx : (A.getD m 0).toNat = 13
      · rw [hx] at hc'
        exact parts2_a13 T ba oa m b cap n cb w hE (by omega) hn hc'
      · rcases cB with h | ⟨h, bb, ob, rfl, hcB⟩
        · exact parts2_as T ba oa m b cap n cb _ A B w hE hlA hlB hn (by omega) hc' hx rfl h hbA hnA hbB hnB
        · by_cases hy : (B.getD 0 0).toNat = 239
          · rw [hy] at hcB
            exact parts2_aE T ba oa m bb ob cap n cb _ w hE (by omega) hc' hx hn h hcB
          · exact parts2_al T ba oa m bb ob cap n cb _ _ A B w hE hlA hlB hn (by omega) hc' hx rfl h hcB hy rfl hbA hnA hbB hnB
end Go.Proofs.YteejkkdimkgmfaaDoor
