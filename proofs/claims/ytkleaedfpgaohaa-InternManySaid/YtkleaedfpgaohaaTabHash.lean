/-
  LAYER 9: brackenlaw9.InternHash, out of TabSaid: true for any text, any byte. And a few bytes made a text.
-/
import Derived.Test.YtkleaedfpgaohaaTabTold
import Derived.Test.YtkleaedfpgaohaaRefHash
import Derived.Laws.BytesArg
import Derived.Deep.OwnRows
namespace Go.Proofs.Ytkleaedfpgaohaa
open Go.RowKit

theorem byte_wf {c : Int} (h : (Lit.int .u8 c).wf = true) : ∃ b : UInt8, c = (b.toNat : Int) := by
  have h2 : 0 ≤ c ∧ c ≤ 255 := by
    have h1 : IntKind.u8.min = 0 := rfl
    have h2 : IntKind.u8.max = 255 := rfl
    simp only [Lit.wf, Bool.and_eq_true, decide_eq_true_eq] at h
    omega
  refine ⟨UInt8.ofNat c.toNat, ?_⟩
  rw [UInt8.toNat_ofNat']
  omega
/-- a new row of bytes, made a text -/
theorem conv_new (w : World) (C : Array Value) (xs : List UInt8) (n : Nat) (hn : n = xs.length) (hC : C.toList = xs.map fun b => Value.int .u8 (b.toNat : Int)) :
    (convert 25 9 (.slice (some ⟨w.heap.size, 0, none⟩) n n)).run Try.prog (w.alloc (.cells C 5)) = .ok (.string ⟨xs.toArray⟩) (w.alloc (.cells C 5)) := by
  subst hn
  have h := run_convert_bytes_arg (P := Try.prog) (w.alloc (.cells C 5)) 25 5 Try.underlying25 Try.underlying5 w.heap.size 0 xs.length xs.length (xs.map fun b => (b.toNat : Int)) (by simp) (fun i hi => by
    have e : (w.alloc (.cells C 5)).heap[w.heap.size]? = some (.cells C 5) := by
      show (w.heap.push (Obj.cells C 5))[w.heap.size]? = _
      rw [Array.getElem?_push_size]
    have e2 : C[i]? = some (.int .u8 ((xs.map fun b => (b.toNat : Int)).getD i 0)) := by
      rw [← Array.getElem?_toList, hC, List.getElem?_map, List.getElem?_eq_getElem hi]
      simp [List.getD, hi]
    rw [Nat.zero_add]
    unfold World.cell?
    simp only [e]
    exact e2) 9 Try.underlying9
  rw [h]
  have : strOfNums (xs.map fun b => (b.toNat : Int)) = ⟨xs.toArray⟩ := by
    unfold strOfNums
    congr 2
    rw [List.map_map]
    have : ((fun n : Int => UInt8.ofNat n.toNat) ∘ fun b : UInt8 => (b.toNat : Int)) = id := by
      funext b
      simp
    rw [this, List.map_id]
  rw [this]
theorem hash_behind (s : ByteArray) (b : UInt8) : hashN (s ++ ⟨#[b]⟩) = (hashN s ^^^ b.toNat) * 1099511628211 % 18446744073709551616 := by
  unfold hashN
  rw [show (s ++ (⟨#[b]⟩ : ByteArray)).data.toList = s.data.toList ++ [b] by rw [ByteArray.data_append]; simp, hashL_append]
  rfl
theorem hash_lt (s : ByteArray) : hashN s < 18446744073709551616 := by rw [← hashTo_all]; exact hashTo_lt _ _
set_option maxHeartbeats 4000000 in
set_option maxRecDepth 100000 in
theorem internhash_any {E : Nat → World → Prop} {Is : (Nat → Prop) → World → Value → List ByteArray → List Nat → Int → Prop} (S : TabSaid E Is) (n : Nat) (s : ByteArray) (b : UInt8) (w : World) (hE : E n w) (hn : n ≤ w.heap.size) :
    Calls Try.prog 3 #[.string s, .int .u8 (b.toNat : Int)] w fun e w' => e = .returned (.bool true) ∧ Below w.heap.size w w' := by
  have HE := Lib.hid hE
  clear hE
  by_cases h60 : 60 < s.size
  · have g1 : decide (60 < s.size) = true := decide_eq_true h60
    have g2 : decide ((60 : Int) < (s.size : Int)) = true := decide_eq_true (by omega)
    go_enter Try.func3, Try.ntmps3
    go_wp2_with fail
    refine (told9_any S n _ HE.out hn).mono ?_
    rintro e wz ⟨rfl, hb⟩
    go_wp2
    go_ret
    exact ⟨rfl, hb⟩
  have g1 : decide (60 < s.size) = false := decide_eq_false h60
  have g2 : decide ((60 : Int) < (s.size : Int)) = false := decide_eq_false (by omega)
  have HS := Lib.hid (hash_step (hashN s) b (hash_lt s))
  have HB2 := Lib.hid (hash_behind s b)
  have C1 := Lib.hid (S.hash n s w HE.out hn (by omega))
  have C2 := Lib.hid (fun w' (h : Below w.heap.size w w') => S.hash n (s ++ ⟨#[b]⟩) w' (S.stay n w w' HE.out (h.mono hn)) (Nat.le_trans hn h.size) (by rw [ByteArray.size_append]; show s.size + 1 ≤ _; omega))
  have kc : ∀ W : World, (convert 25 9 (.slice (some ⟨W.heap.size, 0, none⟩) 1 1)).run Try.prog (W.alloc (.cells #[.int .u8 (b.toNat : Int)] 5)) = .ok (.string ⟨#[b]⟩) (W.alloc (.cells #[.int .u8 (b.toNat : Int)] 5)) := fun W => conv_new W _ [b] 1 rfl rfl
  have HH : Hid (s.size = 0 → hashN s = 14695981039346656037) := Lib.hid (fun h0 => by
    have : s = ⟨#[]⟩ := ByteArray.ext (Array.eq_empty_of_size_eq_zero h0)
    rw [this]; exact hash_none)
  rw [HB2.out] at C2
  generalize hashN s = h at *
  generalize (h ^^^ b.toNat) * 1099511628211 % 18446744073709551616 = h2 at *
  go_enter Try.func3, Try.ntmps3
  go_wp2_with fail
  refine C1.out.mono ?_
  rintro e w1 ⟨rfl, hb1⟩
  have HB1 := Lib.hid hb1
  clear hb1 C1
  go_wp2_with fail
  refine (told9_any S n _ (S.stay n w w1 HE.out (HB1.out.mono hn)) (Nat.le_trans hn HB1.out.size)).mono ?_
  rintro e w2 ⟨rfl, hb2⟩
  have HBB := Lib.hid (HB1.out.trans (hb2.mono HB1.out.size))
  clear hb2 HB1
  go_wp2_with fail
  try simp only [List.append_eq, List.cons_append, List.nil_append] at *
  refine (C2.out _ (HBB.out.alloc HBB.out.size _)).mono ?_
  rintro e w3 ⟨rfl, hb3⟩
  have HB3 := Lib.hid ((HBB.out.alloc HBB.out.size _).trans (hb3.mono (HBB.out.alloc HBB.out.size _).size))
  clear hb3 C2
  have hs := HS.out
  have hsz : s.toList.length = s.size := by rw [ByteArray.toList_eq, Array.length_toList]; rfl
  by_cases h0 : s.size = 0
  · have := HH.out h0
    subst this
    have j1 : s.toList = [] := List.eq_nil_of_length_eq_zero (by rw [hsz]; exact h0)
    rw [show ((14695981039346656037 : Nat) : Int) = 14695981039346656037 from rfl] at hs
    clear HS HB2 hsz
    go_wp2
    go_ret
    exact ⟨rfl, HB3.out⟩
  · have j1 : s.toList ≠ [] := fun e => h0 (by rw [← hsz, e]; rfl)
    have j2 : (s.toList == []) = false := beq_eq_false_iff_ne.2 j1
    clear HS HB2 hsz
    go_wp2
    go_ret
    exact ⟨rfl, HB3.out⟩
theorem internhash_law {E : Nat → World → Prop} {Is : (Nat → Prop) → World → Value → List ByteArray → List Nat → Int → Prop} (S : TabSaid E Is) (n : Nat) (s : ByteArray) (c : Int) (hc : (Lit.int .u8 c).wf = true) (w : World) (hE : E n w) (hn : n ≤ w.heap.size) :
    Calls Try.prog 3 #[.string s, .int .u8 c] w fun e w' => e = .returned (.bool true) ∧ Below w.heap.size w w' := by
  obtain ⟨b, rfl⟩ := byte_wf hc
  exact internhash_any S n s b w hE hn
end Go.Proofs.Ytkleaedfpgaohaa
