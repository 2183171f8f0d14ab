/-
  THE LANDED PACKAGE value: the contract of Norm.
  THE LANDED PACKAGE value: the contracts of inText, inAttr, instead, Text and Attr.
-/
import Derived.Test.YtjijjmkeehdooaaGreatDoorChecked
import Derived.Test.YtjijjmkeehdooaaGreatDoorShelfB
import Derived.Test.YtjijjmkeehdooaaGreatDoorValNorm
import Derived.WalkKit
import Derived.WalkSpells
import Derived.WalkLawsBesides
import Derived.LoopTactic
import Derived.Lib.Hide
import Derived.Lib.OthersKept
import Derived.BigCall
namespace Go.Proofs.YtjijjmkeehdooaaGreatDoor
open Go.RowKit

theorem cells_put13 (a : List UInt8) (x : ByteArray) : Lib.byteCells a ++ Lib.strCells x = Lib.byteCells (a ++ x.data.toList) := by
  rw [Lib.strCells_eq, Lib.byteCells_append]
theorem piece_bytes (l : List UInt8) (d k : Nat) : ((bytes l).extract d k).data.toList = pieceV l d k := by
  rw [ByteArray.data_extract, Array.toList_extract, List.extract_eq_take_drop]
  rfl
theorem rune_bytes (l : List UInt8) (pos : Nat) : Utf8.decode (bytes l) pos = Lib.decodeL (l.drop pos) := (Lib.decodeL_drop (bytes l) pos).symm
/-- where a range over a text with a builder stands: the builder in block b holds o; the iterator in block I is at pos -/
structure BldAt (w : World) (b I : Nat) (t : List UInt8) (o : List UInt8) (pos : Nat) (wr : World) : Prop where
  bld : Lib.IsBuilderF 59 5 b b (Lib.byteCells o) wr
  iter : wr.heap[I]? = some (.stringIter (bytes t) pos)
  since : Below w.heap.size w wr
  lo : w.heap.size ≤ b
  ne : b < I
section
variable {w wr w' : World} {b I pos : Nat} {t o : List UInt8}
theorem BldAt.size (h : BldAt w b I t o pos wr) : b ≤ wr.heap.size := by have := (Array.getElem?_eq_some_iff.1 h.iter).1; have := h.ne; omega
theorem BldAt.next (h : BldAt w b I t o pos wr) (p : Nat) : BldAt w b I t o p (wr.iterAt I (bytes t) p) :=
  ⟨h.bld.iterAt h.iter p, Lib.iterAt_heap wr I (bytes t) pos p h.iter, Lib.below_iterAt h.since (by have := h.lo; have := h.ne; omega) _ _, h.lo, h.ne⟩
theorem BldAt.wrote (h : BldAt w b I t o pos wr) (x : ByteArray) (h1 : Lib.BuilderAtF 59 5 b b (.pointer (some ⟨b, 0, none⟩)) (Lib.byteCells o ++ Lib.strCells x) w') (hb : Below b wr w') (hk : Lib.OthersKept 5 (some b) wr w') : BldAt w b I t (o ++ x.data.toList) pos w' :=
  ⟨by rw [cells_put13] at h1; exact Or.inr h1, hk.iter h.iter (by have := h.ne; omega), h.since.trans (hb.mono h.lo), h.lo, h.ne⟩
theorem BldAt.posOf (h : BldAt w b I t o pos wr) : wr.iterPos I = pos := by unfold World.iterPos; rw [h.iter]
end
theorem bput13 {w wr : World} {b I pos : Nat} {t o : List UInt8} (h : BldAt w b I t o pos wr) (x : ByteArray) (hl : o.length + x.size ≤ 140737488355328) :
    Calls Tryz.prog 27 #[.pointer (some ⟨b, 0, none⟩), .string x] wr fun e w' => e = .returned (.tuple #[.int .i64 x.size, .nilIface]) ∧ BldAt w b I t (o ++ x.data.toList) pos w' :=
  (Tryz.Builder_WriteString_k b b (Lib.byteCells o) x wr h.bld (by rw [Lib.byteCells_length]; exact hl) h.size).mono fun _ _ ⟨he, h1, hb, hk⟩ => ⟨he, h.wrote x h1 hb hk⟩

set_option maxHeartbeats 4000000 in
set_option maxRecDepth 100000 in
theorem norm_any (s : List UInt8) (w : World) (hs : s.length ≤ 2000000) :
    Calls Tryz.prog 16 #[.string (bytes s)] w fun e w' => e = .returned (.string (bytes (normL s))) ∧ Below w.heap.size w w' := by
  have C := Tryz.strings_Trim_one (bytes s) 32 (by decide) w (by rw [bytesL_len]; omega)
  have ht := trim_len s
  have HE := Lib.hid (norm_sq s)
  obtain ⟨t, htt⟩ : ∃ t, Lib.trimB s 32 = t := ⟨_, rfl⟩
  rw [show (⟨(Lib.trimB (bytes s).data.toList 32).toArray⟩ : ByteArray) = bytes (Lib.trimB s 32) from rfl, htt] at C
  rw [htt] at ht HE
  clear htt
  have hsz : (bytes t).size = t.length := bytesL_len t
  go_enter Tryz.func16, Tryz.ntmps16
  go_wp2_with fail
  refine C.mono ?_
  rintro e w1 ⟨rfl, hw1⟩
  have hb1 : Below w.heap.size w w1 := by
    rcases hw1 with rfl | rfl
    · exact Below.refl _ _
    · exact (Below.refl _ _).drew
  clear hw1 C
  go_wp2_with fail
  go_loopw [5, 6] (fun d a wr => ∃ (o : List UInt8) (pos dn : Nat) (r : Int), NormAt t o dn pos r ∧ BldAt w w1.heap.size (w1.heap.size + 1) t o pos wr ∧ d = .int .i64 dn ∧ a = .int .i32 r ∧ 0 ≤ r ∧ r ≤ 1114111) (fun _ _ wr => t.length - wr.iterPos (w1.heap.size + 1))
  case atStart =>
    exact ⟨[], 0, 0, 0, NormAt.start t, ⟨(Lib.IsBuilderF.of (Lib.fresh_isBuilder _ _ w1)).alloc _, by have := World.iter_heap (w1.alloc (.cells #[.pointer none, .slice none 0 0] 59)) (bytes t) 0; simpa using this, (hb1.alloc hb1.size _).alloc (by have := hb1.size; simp; omega) _, hb1.size, Nat.lt_succ_self _⟩, rfl, rfl, by decide, by decide⟩
  case round =>
    obtain ⟨o, pos, dn, r, hn, hb, rfl, rfl, hr0, hr1⟩ := hrel
    have hle := hn.le
    have hlt := hn.lt
    have hsh := hn.short
    have HM := Lib.hid hb.posOf
    by_cases hp : pos < t.length
    · have hnx : ∀ ty, (Instr.next (.pointer (some ⟨w1.heap.size + 1, 0, none⟩)) true ty).run Tryz.prog wr = _ := fun ty => Lib.run_next_any_at wr (w1.heap.size + 1) (bytes t) pos ty hb.iter (by rw [hsz]; exact hp)
      rw [rune_bytes] at hnx
      obtain ⟨g1, g2, _⟩ := rune_at t pos hp
      have g3 := decode_le t pos
      rw [rune_bytes] at g3
      have HN := Lib.hid (fun h => hn.next hp h)
      have HS := Lib.hid (fun h h2 => hn.skip hp h h2)
      have HB := Lib.hid (hb.next (pos + (Lib.decodeL (t.drop pos)).2))
      obtain ⟨c, hc⟩ : ∃ c : Nat, (Lib.decodeL (t.drop pos)).1 = c := ⟨_, rfl⟩
      obtain ⟨k, hk⟩ : ∃ k : Nat, (Lib.decodeL (t.drop pos)).2 = k := ⟨_, rfl⟩
      rw [hc] at HN HS g3
      rw [hk] at HN HB g1 g2
      simp only [hk] at HS
      rw [hc, hk] at hnx
      clear hc hk hn hb
      obtain ⟨wi, hwi⟩ : ∃ wi, wr.iterAt (w1.heap.size + 1) (bytes t) (pos + k) = wi := ⟨_, rfl⟩
      rw [hwi] at HB
      simp only [hwi] at hnx
      clear hwi
      by_cases hc32 : c = 32
      · by_cases hr32 : r = 32
        · subst hc32
          subst hr32
          obtain ⟨hk1, hs1⟩ := HS.out rfl rfl
          subst hk1
          have HS1 := Lib.hid hs1
          clear hs1 HS HN
          have q1 : (dn : Int) ≤ (pos : Int) := by omega
          have q2 : (pos : Int) ≤ ((bytes t).size : Int) := by rw [hsz]; omega
          have q3 : (0 : Int) ≤ (dn : Int) := by omega
          have HC := Lib.hid (bput13 HB.out ((bytes t).extract dn pos) (by rw [ByteArray.size_extract, hsz]; omega))
          go_wp2_with fail
          refine HC.out.mono ?_
          rintro e w2 ⟨rfl, hb2⟩
          rw [piece_bytes] at hb2
          have HB2 := Lib.hid hb2
          clear hb2
          go_wp2_with fail
          go_roundw
          case rel => exact ⟨_, pos + 1, pos + 1, 32, HS1.out, HB2.out, by go_num, rfl, by decide, by decide⟩
          case measure =>
            have e1 := HB2.out.posOf
            have e2 := HM.out
            simp only [e1, e2]
            omega
        · have HN1 := Lib.hid (HN.out (fun h => hr32 h.2))
          have HB2 := Lib.hid HB.out
          subst hc32
          have a1 : (r == 32) = false := beq_eq_false_iff_ne.2 hr32
          have a2 : decide (r = 32) = false := decide_eq_false hr32
          clear HN HS HB hr32
          go_wp2_with fail
          go_roundw
          case rel => exact ⟨o, pos + k, dn, 32, HN1.out, HB2.out, rfl, rfl, by decide, by decide⟩
          case measure =>
            have e1 := HB2.out.posOf
            have e2 := HM.out
            simp only [e1, e2]
            omega
      · have HN1 := Lib.hid (HN.out (fun h => hc32 h.1))
        have HB2 := Lib.hid HB.out
        have a1 : ((c : Int) == 32) = false := beq_eq_false_iff_ne.2 (by omega)
        have a2 : (c == 32) = false := beq_eq_false_iff_ne.2 hc32
        clear HN HS HB
        go_wp2_with fail
        go_roundw
        case rel => exact ⟨o, pos + k, dn, (c : Int), HN1.out, HB2.out, rfl, rfl, by omega, by omega⟩
        case measure =>
          have e1 := HB2.out.posOf
          have e2 := HM.out
          simp only [e1, e2]
          omega
    · have hnx : ∀ ty, (Instr.next (.pointer (some ⟨w1.heap.size + 1, 0, none⟩)) true ty).run Tryz.prog wr = _ := fun ty => Lib.run_next_end_at wr (w1.heap.size + 1) (bytes t) pos ty hb.iter (by rw [hsz]; exact hp)
      obtain rfl : pos = t.length := by omega
      have HD := Lib.hid hn.done
      have q1 : (dn : Int) ≤ ((bytes t).size : Int) := by rw [hsz]; omega
      have q3 : (0 : Int) ≤ (dn : Int) := by omega
      have HC := Lib.hid (bput13 hb ((bytes t).extract dn (bytes t).size) (by rw [ByteArray.size_extract, hsz]; omega))
      clear hn hb
      go_wp2_with fail
      refine HC.out.mono ?_
      rintro e w2 ⟨rfl, hb2⟩
      rw [piece_bytes, hsz, piece_end, HD.out] at hb2
      have HB2 := Lib.hid hb2
      clear hb2 HC HD
      go_wp2_with fail
      refine (Tryz.Builder_String_any_k w1.heap.size w1.heap.size _ _ HB2.out.bld HB2.out.size).mono ?_
      rintro e W3 ⟨rfl, _, b3, _⟩
      go_wp2
      go_ret
      rw [HE.out]
      exact ⟨rfl, HB2.out.since.trans (b3.mono hb1.size)⟩
end Go.Proofs.YtjijjmkeehdooaaGreatDoor

namespace Go.Proofs.YtjijjmkeehdooaaGreatDoor
open Go.RowKit

set_option maxHeartbeats 1000000 in
theorem inText_any (r : Int) (w : World) : Calls Tryz.prog 30 #[.int .i32 r] w fun e w' => e = .returned (.string (bytes (escP false r))) ∧ w' = w := by
  go_enter Tryz.func30, Tryz.ntmps30
  go_wp2
  all_goals go_ret
  all_goals (simp only [beq_iff_eq, beq_eq_false_iff_ne, ne_eq] at *; exact ⟨by simp [escP, bytes, *], trivial⟩)
set_option maxHeartbeats 1000000 in
theorem inAttr_any (r : Int) (w : World) : Calls Tryz.prog 31 #[.int .i32 r] w fun e w' => e = .returned (.string (bytes (escP true r))) ∧ w' = w := by
  go_enter Tryz.func31, Tryz.ntmps31
  go_wp2
  all_goals go_ret
  all_goals (simp only [beq_iff_eq, beq_eq_false_iff_ne, ne_eq] at *; exact ⟨by simp [escP, bytes, *], trivial⟩)
theorem enter_inText : ∀ args w, (callFunc 30 args).run Tryz.prog w = .ok (.enter 30 args) w := enters_of Tryz.func30 (by kernel_rfl) rfl
theorem enter_inAttr : ∀ args w, (callFunc 31 args).run Tryz.prog w = .ok (.enter 31 args) w := enters_of Tryz.func31 (by kernel_rfl) rfl

set_option maxHeartbeats 4000000 in
set_option maxRecDepth 100000 in
theorem instead_any (attr : Bool) (g : Nat) (eg : ∀ args w, (callFunc g args).run Tryz.prog w = .ok (.enter g args) w)
    (hg : ∀ (r : Int) (w : World), Calls Tryz.prog g #[.int .i32 r] w fun e w' => e = .returned (.string (bytes (escP attr r))) ∧ w' = w) (s : List UInt8) (w : World) (hs : s.length ≤ 2000000) :
    Calls Tryz.prog 29 #[.string (bytes s), .func (.func g) #[] #[]] w fun e w' => e = .returned (.string (bytes (escL attr s))) ∧ Below w.heap.size w w' := by
  have hsz : (bytes s).size = s.length := bytesL_len s
  have HG := Lib.hid hg
  clear hg
  go_enter Tryz.func29, Tryz.ntmps29
  go_wp2_with fail
  go_loopw [6] (fun d wr => ∃ (o : List UInt8) (pos dn : Nat), EscAt attr s o dn pos ∧ BldAt w w.heap.size (w.heap.size + 1) s o pos wr ∧ d = .int .i64 dn) (fun _ wr => s.length - wr.iterPos (w.heap.size + 1))
  case atStart =>
    exact ⟨[], 0, 0, EscAt.start attr s, ⟨(Lib.IsBuilderF.of (Lib.fresh_isBuilder _ _ w)).alloc _, by have := World.iter_heap (w.alloc (.cells #[.pointer none, .slice none 0 0] 59)) (bytes s) 0; simpa using this, ((Below.refl _ w).alloc (Nat.le_refl _) _).alloc (by simp) _, Nat.le_refl _, Nat.lt_succ_self _⟩, rfl⟩
  case round =>
    obtain ⟨o, pos, dn, hn, hb, rfl⟩ := hrel
    have hle := hn.le
    have hlt := hn.lt
    have hsh := hn.short
    have HM := Lib.hid hb.posOf
    by_cases hp : pos < s.length
    · have hnx : ∀ ty, (Instr.next (.pointer (some ⟨w.heap.size + 1, 0, none⟩)) true ty).run Tryz.prog wr = _ := fun ty => Lib.run_next_any_at wr (w.heap.size + 1) (bytes s) pos ty hb.iter (by rw [hsz]; exact hp)
      rw [rune_bytes] at hnx
      obtain ⟨g1, g2, _⟩ := rune_at s pos hp
      have g3 := decode_le s pos
      rw [rune_bytes] at g3
      have HN := Lib.hid (fun h => hn.next hp h)
      have HS := Lib.hid (fun h => hn.put hp h)
      have HB := Lib.hid (hb.next (pos + (Lib.decodeL (s.drop pos)).2))
      obtain ⟨c, hc⟩ : ∃ c : Nat, (Lib.decodeL (s.drop pos)).1 = c := ⟨_, rfl⟩
      obtain ⟨k, hk⟩ : ∃ k : Nat, (Lib.decodeL (s.drop pos)).2 = k := ⟨_, rfl⟩
      rw [hc] at HN g3
      simp only [hc, hk] at HS
      rw [hk] at HN HB g1 g2
      rw [hc, hk] at hnx
      clear hc hk hn hb
      obtain ⟨wi, hwi⟩ : ∃ wi, wr.iterAt (w.heap.size + 1) (bytes s) (pos + k) = wi := ⟨_, rfl⟩
      rw [hwi] at HB
      simp only [hwi] at hnx
      clear hwi
      have hcall := HG.out (c : Int) wi
      have h6 := escP_len attr (c : Int)
      obtain ⟨x, hx⟩ : ∃ x, escP attr (c : Int) = x := ⟨_, rfl⟩
      rw [hx] at hcall HN h6
      simp only [hx] at HS
      clear hx
      by_cases hxe : x = []
      · subst hxe
        have HN1 := Lib.hid (HN.out rfl)
        have a1 : (bytes []).toList.isEmpty = true := by rw [bytesL_toList]; rfl
        clear HN HS
        go_wp2_with (go_at_fn g; refine hcall.mono ?_; rintro e w' ⟨rfl, rfl⟩)
        go_roundw
        case rel => exact ⟨o, pos + k, dn, HN1.out, HB.out, rfl⟩
        case measure =>
          have e1 := HB.out.posOf
          have e2 := HM.out
          simp only [e1, e2]
          omega
      · obtain ⟨hk1, hc128, hs1⟩ := HS.out hxe
        subst hk1
        have HS1 := Lib.hid hs1
        clear hs1 HS HN
        have q1 : (dn : Int) ≤ (pos : Int) := by omega
        have q2 : (pos : Int) ≤ ((bytes s).size : Int) := by rw [hsz]; omega
        have q3 : (0 : Int) ≤ (dn : Int) := by omega
        have a1 : (bytes x).toList.isEmpty = false := by
          rw [bytesL_toList]
          cases x with
          | nil => exact absurd rfl hxe
          | cons _ _ => rfl
        have HL := Lib.hid (Tryz.utf8_RuneLen (c : Int))
        have hl1 : Lib.runeLen (c : Int) = 1 := by unfold Lib.runeLen; rw [if_neg (by omega), if_pos (by omega)]
        rw [hl1] at HL
        clear hl1 hxe
        have HC := Lib.hid (bput13 HB.out ((bytes s).extract dn pos) (by rw [ByteArray.size_extract, hsz]; omega))
        have hox : o.length + (pos - dn) + 6 ≤ 140737488355328 := by omega
        go_wp2_with fail
        refine hcall.mono ?_
        rintro e w2 ⟨rfl, rfl⟩
        go_wp2_with fail
        refine HC.out.mono ?_
        rintro e w3 ⟨rfl, hb2⟩
        rw [piece_bytes] at hb2
        have HC2 := Lib.hid (bput13 hb2 (bytes x) (by rw [List.length_append, piece_len s dn pos hle hlt, bytesL_len]; omega))
        clear hb2 HC
        go_wp2_with fail
        refine HC2.out.mono ?_
        rintro e w4 ⟨rfl, hb3⟩
        have HB3 := Lib.hid (show BldAt w w.heap.size (w.heap.size + 1) s (o ++ pieceV s dn pos ++ x) (pos + 1) w4 from hb3)
        clear hb3 HC2
        go_wp2_with fail
        refine (HL.out _).mono ?_
        rintro e w5 ⟨rfl, rfl⟩
        go_wp2_with fail
        go_roundw
        case rel => exact ⟨_, pos + 1, pos + 1, HS1.out, HB3.out, by go_num⟩
        case measure =>
          have e1 := HB3.out.posOf
          have e2 := HM.out
          simp only [e1, e2]
          omega
    · have hnx : ∀ ty, (Instr.next (.pointer (some ⟨w.heap.size + 1, 0, none⟩)) true ty).run Tryz.prog wr = _ := fun ty => Lib.run_next_end_at wr (w.heap.size + 1) (bytes s) pos ty hb.iter (by rw [hsz]; exact hp)
      obtain rfl : pos = s.length := by omega
      have HD := Lib.hid hn.done
      have q1 : (dn : Int) ≤ ((bytes s).size : Int) := by rw [hsz]; omega
      have q3 : (0 : Int) ≤ (dn : Int) := by omega
      have HC := Lib.hid (bput13 hb ((bytes s).extract dn (bytes s).size) (by rw [ByteArray.size_extract, hsz]; omega))
      clear hn hb
      go_wp2_with fail
      refine HC.out.mono ?_
      rintro e w2 ⟨rfl, hb2⟩
      rw [piece_bytes, hsz, piece_end, HD.out] at hb2
      have HB2 := Lib.hid hb2
      clear hb2 HC HD
      go_wp2_with fail
      refine (Tryz.Builder_String_any_k w.heap.size w.heap.size _ _ HB2.out.bld HB2.out.size).mono ?_
      rintro e W3 ⟨rfl, _, b3, _⟩
      go_wp2
      go_ret
      exact ⟨rfl, HB2.out.since.trans b3⟩
set_option maxHeartbeats 1000000 in
theorem text13_any (s : List UInt8) (w : World) (hs : s.length ≤ 2000000) :
    Calls Tryz.prog 18 #[.string (bytes s)] w fun e w' => e = .returned (.string (bytes (escL false s))) ∧ Below w.heap.size w w' := by
  have C := Lib.hid (instead_any false _ enter_inText inText_any s w hs)
  go_enter Tryz.func18, Tryz.ntmps18
  go_wp2_with fail
  refine C.out.mono ?_
  rintro e w2 ⟨rfl, hb⟩
  go_wp2
  go_ret
  exact ⟨rfl, hb⟩
set_option maxHeartbeats 1000000 in
theorem attr13_any (s : List UInt8) (w : World) (hs : s.length ≤ 2000000) :
    Calls Tryz.prog 20 #[.string (bytes s)] w fun e w' => e = .returned (.string (bytes (escL true s))) ∧ Below w.heap.size w w' := by
  have C := Lib.hid (instead_any true _ enter_inAttr inAttr_any s w hs)
  go_enter Tryz.func20, Tryz.ntmps20
  go_wp2_with fail
  refine C.out.mono ?_
  rintro e w2 ⟨rfl, hb⟩
  go_wp2
  go_ret
  exact ⟨rfl, hb⟩
end Go.Proofs.YtjijjmkeehdooaaGreatDoor
