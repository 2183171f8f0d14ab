/-
  THE LANDED PACKAGE intern: the contracts of its parts' functions.
-/
import Derived.Test.YtkleaedfpgaohaaRunTBase
import Derived.Deep.LoopGhost
namespace Go.Proofs.Ytkleaedfpgaohaa
open Go.RowKit

set_option maxHeartbeats 1000000 in
set_option maxRecDepth 100000 in
theorem rtexts_any {p r t u q : Nat} {a : Option Addr} {c : Nat} {L : List ByteArray} {P : List Nat} {n : Int} {w : World} (h : GAt p r t u q a c L P n w) :
    Calls Try.prog 26 #[.pointer (some ⟨p, 0, none⟩)] w fun e w' => e = .returned (.pointer (some ⟨t, 0, none⟩)) ∧ w = w' := by
  have c0 := h.c0
  have c1 := h.r0
  have a1 := fun W => as_texts (.pointer (some ⟨t, 0, none⟩)) W
  clear h
  go_enter Try.func26, Try.ntmps26
  go_wp2
  go_ret
  exact ⟨rfl, rfl⟩
set_option maxHeartbeats 1000000 in
set_option maxRecDepth 100000 in
theorem rplaces_any {p r t u q : Nat} {a : Option Addr} {c : Nat} {L : List ByteArray} {P : List Nat} {n : Int} {w : World} (h : GAt p r t u q a c L P n w) :
    Calls Try.prog 22 #[.pointer (some ⟨p, 0, none⟩)] w fun e w' => e = .returned (.pointer (some ⟨u, 0, none⟩)) ∧ w = w' := by
  have c0 := h.c0
  have c1 := h.r1
  have a1 := fun W => as_places (.pointer (some ⟨u, 0, none⟩)) W
  clear h
  go_enter Try.func22, Try.ntmps22
  go_wp2
  go_ret
  exact ⟨rfl, rfl⟩
set_option maxHeartbeats 1000000 in
set_option maxRecDepth 100000 in
theorem rtcount_any {t : Nat} {a : Option Addr} {c : Nat} {L : List ByteArray} {w : World} (h : TxAt t a c L w) :
    Calls Try.prog 27 #[.pointer (some ⟨t, 0, none⟩)] w fun e w' => e = .returned (.int .i64 L.length) ∧ w = w' := by
  have c0 := h.c0
  clear h
  generalize L.length = m at *
  go_enter Try.func27, Try.ntmps27
  go_wp2
  go_ret
  exact ⟨rfl, rfl⟩
theorem tx_cell {t : Nat} {a : Option Addr} {c : Nat} {L : List ByteArray} {w : World} (h : TxAt t a c L w) (k : Nat) (hk : k < L.length) : ∃ g, a = some ⟨g, 0, none⟩ ∧ w.cell? ⟨g, k, none⟩ = some (.string (textAt L k)) := by
  rcases ownT_shape h.own with ⟨_, e2⟩ | ⟨g, cap, e, _, _, _, hh⟩
  · subst e2; cases hk
  · injection e with e1 _ _
    exact ⟨g, e1, hh k hk⟩
set_option maxHeartbeats 1000000 in
set_option maxRecDepth 100000 in
theorem rtat_any {t : Nat} {a : Option Addr} {c : Nat} {L : List ByteArray} {w : World} (h : TxAt t a c L w) (k : Nat) (hk : k < L.length) :
    Calls Try.prog 29 #[.pointer (some ⟨t, 0, none⟩), .int .i64 k] w fun e w' => e = .returned (.string (textAt L k)) ∧ w = w' := by
  have c0 := h.c0
  obtain ⟨g, rfl, c1⟩ := tx_cell h k hk
  clear h
  generalize textAt L k = tx at *
  generalize L.length = m at *
  have i1 : (k : Int) < (m : Int) := by omega
  go_enter Try.func29, Try.ntmps29
  go_wp2
  go_ret
  exact ⟨rfl, rfl⟩
set_option maxHeartbeats 1000000 in
set_option maxRecDepth 100000 in
theorem rclone_any (s : ByteArray) (w : World) (hs : s.size ≤ 8388608) : Calls Try.prog 28 #[.string s] w fun e w' => e = .returned (.string s) ∧ Below w.heap.size w w' := by
  have C := Lib.hid (Try.stringslite_Clone s w (by omega))
  go_enter Try.func28, Try.ntmps28
  go_wp2_with fail
  refine C.out.mono ?_
  rintro o w2 ⟨rfl, hb⟩
  go_wp2
  go_ret
  exact ⟨rfl, hb⟩
/-! ### where a text that is not there is put -/
set_option maxHeartbeats 2000000 in
set_option maxRecDepth 100000 in
theorem rfirstEmpty_any {u q : Nat} {P : List Nat} {L : List ByteArray} {i : Nat} {w : World} (s : ByteArray) (h : PlAt u q P w) (hP : Part P L i) (hi : i < P.length) (hm : P.length ≤ 16777216) (hs : s.size ≤ 1048576) (hno : ∀ j, j < i → textAt L j ≠ s) :
    Calls Try.prog 38 #[.pointer (some ⟨u, 0, none⟩), .string s] w fun e w' => e = .returned (.int .i64 (lookT P L s).1) ∧ ∃ x, w' = w.drewN x := by
  obtain ⟨d, hd1, hd2, hd3, hd4⟩ := hP.missed hi s hno
  have hm0 : 0 < P.length := by omega
  have C := Lib.hid (rfirst_any u q P s w h hm hm0 hs)
  have H := Lib.hid h
  rw [hd2]
  obtain ⟨st, hst⟩ : ∃ st, hashN s % P.length = st := ⟨_, rfl⟩
  rw [hst] at C hd3 hd4 ⊢
  have hstm : st < P.length := by rw [← hst]; exact Nat.mod_lt _ hm0
  have HE := Lib.hid hd3
  have HN := Lib.hid hd4
  have HK := Lib.hid (fun wr (x : Nat) (hwr : wr = w.drewN x) (k : Nat) (hk : k < P.length) => rnext_any u q P k wr (by rw [hwr]; exact h.drewN x) hm hm0 hk)
  clear h hd2 hd3 hd4 hst hP
  obtain ⟨m, hml⟩ : ∃ m, P.length = m := ⟨_, rfl⟩
  rw [hml] at HE HN hd1 hm hi hm0 hstm HK ⊢
  have HML := Lib.hid hml
  have HAN : Hid (∀ e, e = d → (st + e) % m = (st + d) % m) := Lib.hid (fun e h => by rw [h])
  show Calls _ _ _ _ fun e w' => e = .returned (.int .i64 ((st + d) % m : Nat)) ∧ ∃ x, w' = w.drewN x
  generalize (st + d) % m = ans at *
  clear hml
  go_enter Try.func38, Try.ntmps38
  go_wp2_with fail
  refine C.out.mono ?_
  rintro o w1 ⟨rfl, x0, hw1⟩
  go_wp2
  go_loopg [5] d (fun kx pv wr => ∃ e x : Nat, e + kx = d ∧ pv = .int .i64 ((st + e) % m : Nat) ∧ wr = w.drewN x)
  case atStart => exact ⟨0, x0, Nat.zero_add _, by rw [Nat.add_zero, Nat.mod_eq_of_lt hstm], rfl⟩
  case round =>
    obtain ⟨e, x, hed, rfl, hwr⟩ := hrel
    have HNX : Hid (((st + e) % m + 1) % m = (st + (e + 1)) % m) := Lib.hid (by rw [Nat.mod_add_mod]; rfl)
    have HWR := Lib.hid hwr
    have HWE : Hid (e < d → valAt P ((st + e) % m) ≠ 0) := Lib.hid (fun h => HN.out e h)
    have HWZ : Hid (e = d → valAt P ((st + e) % m) = 0) := Lib.hid (fun h => by rw [HAN.out e h]; exact HE.out)
    have HD : Hid (e = d → (st + e) % m = ans) := Lib.hid (HAN.out e)
    obtain ⟨sl, hsl⟩ : ∃ sl, (st + e) % m = sl := ⟨_, rfl⟩
    have hslm : sl < m := by rw [← hsl]; exact Nat.mod_lt _ hm0
    rw [hsl] at HNX HWE HWZ HD ⊢
    have CN := Lib.hid (HK.out wr x hwr sl hslm)
    have h0 : wr.cell? ⟨u, 0, none⟩ = some (.slice (some ⟨q, 0, none⟩) m m) := by rw [hwr, ← HML.out]; exact H.out.c0
    have h1 : wr.cell? ⟨q, sl, none⟩ = some (.int .u32 (valAt P sl)) := by rw [hwr]; exact H.out.row.cell (by rw [HML.out]; exact hslm)
    have i1 : (sl : Int) < (m : Int) := by omega
    clear hsl hwr
    generalize valAt P sl = v at *
    generalize (sl + 1) % m = s2 at *
    by_cases hlt : e < d
    · have hv0 : v ≠ 0 := HWE.out hlt
      have g1 : ((v : Int) == 0) = false := beq_eq_false_iff_ne.2 (by omega)
      have g2 : (v == 0) = false := beq_eq_false_iff_ne.2 hv0
      go_wp2_with fail
      refine CN.out.mono ?_
      rintro o w2 ⟨rfl, rfl⟩
      go_wp2
      go_roundg (d - (e + 1))
      case measure => omega
      case rel => exact ⟨e + 1, x, by omega, by rw [HNX.out], HWR.out⟩
    · have hdd : e = d := by omega
      have hv0 : v = 0 := HWZ.out hdd
      subst hv0
      go_wp2
      go_ret
      exact ⟨by rw [← HD.out hdd]; rfl, x, HWR.out⟩
end Go.Proofs.Ytkleaedfpgaohaa
