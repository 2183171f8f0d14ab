/-
  THE REFERENCE's TABLE IN MEMORY (TabIs), and the contract of its look.
-/
import Derived.Test.YtkleaedfpgaohaaRefHash
import Derived.Test.YtkleaedfpgaohaaStrsAt
import Derived.Deep.OwnRows
import Derived.Deep.QuietTactic
import Derived.BigQuiet
import Derived.IntWalk
namespace Go.Proofs.Ytkleaedfpgaohaa
open Go.RowKit

/-- A TABLE OF THE REFERENCE in block p: the texts L (the slice a, c), the places P (block q), n looked at; in blocks from B on. -/
structure TabAt (B p q : Nat) (a : Option Addr) (c : Nat) (L : List ByteArray) (P : List Nat) (n : Int) (w : World) : Prop where
  pB : B ≤ p
  qB : B ≤ q
  pq : p ≠ q
  ga : ∀ g, a = some g → g.block ≠ p ∧ g.block ≠ q
  row : w.rowIs p 39 3 (fun i => if i = 0 then .slice a L.length c else if i = 1 then .slice (some ⟨q, 0, none⟩) P.length P.length else .int .i64 n)
  own : OwnT w B (.slice a L.length c) L
  places : w.rowIs q 3 P.length (fun i => .int .i64 (valAt P i))
def TabIs (B : Nat) (w : World) (v : Value) (L : List ByteArray) (P : List Nat) (n : Int) : Prop :=
  ∃ (p q : Nat) (a : Option Addr) (c : Nat), v = .pointer (some ⟨p, 0, none⟩) ∧ TabAt B p q a c L P n w

theorem list_ne {t s : ByteArray} (h : ¬ t = s) : (t.toList == s.toList) = false := beq_eq_false_iff_ne.2 fun e => h (by
  rw [ByteArray.toList_eq, ByteArray.toList_eq] at e
  cases t; cases s; congr 1; exact Array.toList_inj.1 e)
theorem drewN_twice (w : World) (a b : Nat) : (w.drewN a).drewN b = w.drewN (a + b) := by
  show World.drewN _ _ = _
  unfold World.drewN
  simp [Nat.add_assoc]
set_option maxHeartbeats 4000000 in
set_option maxRecDepth 100000 in
theorem refLook_any (B : Nat) (v : Value) (L : List ByteArray) (P : List Nat) (n0 : Int) (k : Nat) (s : ByteArray) (w : World) (hT : TabIs B w v L P n0) (hP : Part P L k) (hk : k < P.length) (hm : P.length ≤ 1048576) (hs : s.size ≤ 1048576) (hL : L.length ≤ 1048576) :
    Calls Try.prog 24 #[v, .string s] w fun e w' => e = .returned (.tuple #[.int .i64 (lookT P L s).1, .int .i64 (lookT P L s).2]) ∧ ∃ n, w' = w.drewN n := by
  obtain ⟨p, q, a, c, rfl, _, _, _, _, r1, ho, r2⟩ := hT
  have c0 : w.cell? ⟨p, 0, none⟩ = some (.slice a L.length c) := r1.cell (i := 0) (by decide)
  have c1 : w.cell? ⟨p, 1, none⟩ = some (.slice (some ⟨q, 0, none⟩) P.length P.length) := r1.cell (i := 1) (by decide)
  obtain ⟨d, hd1, hd2, hd3, hd4⟩ := hP.look hk s
  have hm0 : 0 < P.length := by omega
  have HV := Lib.hid (fun j (hj : j < P.length) => r2.cell hj)
  have HTX := Lib.hid (ownT_shape ho)
  have HPV := Lib.hid hP
  obtain ⟨m, hml⟩ : ∃ m, P.length = m := ⟨_, rfl⟩
  obtain ⟨h, hh⟩ : ∃ h, hashN s = h := ⟨_, rfl⟩
  have hh64 : h < 18446744073709551616 := by rw [← hh, ← hashTo_all]; exact hashTo_lt _ _
  have C := Lib.hid (refHash_any s w (by omega))
  rw [hh] at C hd2 hd3 hd4
  obtain ⟨st, hst⟩ : ∃ st, h % m = st := ⟨_, rfl⟩
  rw [hml, hst] at hd2 hd3 hd4
  rw [hd2]
  rw [hml] at c1 hk hm hd1 HV hm0
  have hstm : st < m := by rw [← hst]; exact Nat.mod_lt _ hm0
  have e1 : Int.tmod (h : Int) (m : Int) = (st : Int) := by rw [Int.tmod_eq_emod_of_nonneg (by omega)]; rw [← hst]; rfl
  have e2 : IntKind.u64.wrap (m : Int) = (m : Int) := by simp [IntKind.wrap, IntKind.bits, IntKind.signed]; omega
  have e3 : IntKind.i64.wrap (st : Int) = (st : Int) := IntWalk.i64_in _ (by omega)
  have e4 : ((m : Int) == 0) = false := beq_eq_false_iff_ne.2 (by omega)
  have e5 : (m == 0) = false := beq_eq_false_iff_ne.2 (by omega)
  have HML := Lib.hid hml
  have HE := Lib.hid hd3
  have HN := Lib.hid hd4
  clear hd2 hd3 hd4 hh hst r1 r2 ho hml hP
  go_enter Try.func24, Try.ntmps24
  go_wp2_with fail
  refine C.out.mono ?_
  rintro e w' ⟨rfl, rfl⟩
  go_wp2
  clear e1 e2 e3
  go_loopw [7, 8] (fun pv nv wr => ∃ e x : Nat, e ≤ d ∧ pv = .int .i64 ((st + e) % m : Nat) ∧ nv = .int .i64 (1 + e : Nat) ∧ wr = w.drewN x) (fun _ nv _ => 1 + d - (intOf nv).toNat)
  case atStart => exact ⟨0, 0, Nat.zero_le _, by rw [Nat.add_zero, Nat.mod_eq_of_lt hstm], rfl, rfl⟩
  case round =>
    obtain ⟨e, x, hed, rfl, rfl, hwr⟩ := hrel
    have HNX : Hid (((st + e) % m + 1) % m = (st + (e + 1)) % m) := Lib.hid (by rw [Nat.mod_add_mod]; rfl)
    have HWR := Lib.hid hwr
    obtain ⟨sl, hsl⟩ : ∃ sl, (st + e) % m = sl := ⟨_, rfl⟩
    have hslm : sl < m := by rw [← hsl]; exact Nat.mod_lt _ hm0
    have HSL := Lib.hid hsl
    rw [hsl] at HNX ⊢
    obtain ⟨v, hv⟩ : ∃ v, valAt P sl = v := ⟨_, rfl⟩
    have hvk : v ≤ k := by rw [← hv]; exact HPV.out.vals sl (by rw [HML.out]; exact hslm)
    have hkL := HPV.out.few
    have h0 : wr.cell? ⟨p, 0, none⟩ = some (.slice a L.length c) := by rw [hwr]; exact c0
    have h1 : wr.cell? ⟨p, 1, none⟩ = some (.slice (some ⟨q, 0, none⟩) m m) := by rw [hwr]; exact c1
    have h2 : wr.cell? ⟨q, sl, none⟩ = some (.int .i64 v) := by rw [hwr, ← hv]; exact HV.out sl hslm
    have i1 : (sl : Int) < (m : Int) := by omega
    have i2 : (0 : Int) ≤ (sl : Int) := by omega
    have i3 : (sl : Int).toNat = sl := Int.toNat_natCast sl
    clear hsl hwr
    by_cases hv0 : v = 0
    · have hdd : e = d := by
        rcases Nat.lt_or_ge e d with hlt | hge
        · exact absurd (Or.inl (by rw [HSL.out, hv, hv0])) (HN.out e hlt)
        · omega
      have HD : Hid (sl = (st + d) % m) := Lib.hid (by rw [← hdd, HSL.out])
      subst hv0
      subst hdd
      clear hv
      go_wp2
      go_quiet (fail)
      go_wp2
      go_ret2
      exact ⟨by rw [← HD.out]; rfl, _, by rw [HWR.out, drewN_twice]⟩
    · rcases HTX.out with ⟨_, hLn⟩ | ⟨g, cap, hsh, _, _, _, hcl⟩
      · rw [hLn] at hkL
        simp at hkL
        omega
      injection hsh with hs1 hs2 hs3
      subst hs1
      obtain ⟨t, ht⟩ : ∃ t, textAt L (v - 1) = t := ⟨_, rfl⟩
      obtain ⟨u, hu⟩ : ∃ u, v - 1 = u := ⟨_, rfl⟩
      have h3 : wr.cell? ⟨g, u, none⟩ = some (.string t) := by rw [HWR.out, ← ht, hu]; exact hcl u (by omega)
      have i4 : IntKind.i64.wrap ((v : Int) - 1) = (u : Int) := by rw [show (v : Int) - 1 = (u : Int) by omega]; exact IntWalk.i64_in _ (by omega)
      have i5 : (u : Int) < (L.length : Int) := by clear i4; omega
      have i6 : (0 : Int) ≤ (u : Int) := by clear i4; omega
      have i7 : (u : Int).toNat = u := Int.toNat_natCast u
      have i8 : ((v : Int) == 0) = false := beq_eq_false_iff_ne.2 (by clear i4; omega)
      have i9 : (v == 0) = false := beq_eq_false_iff_ne.2 hv0
      by_cases hts : t = s
      · subst hts
        have hdd : e = d := by
          rcases Nat.lt_or_ge e d with hlt | hge
          · exact absurd (Or.inr (by rw [HSL.out, hv, ht])) (HN.out e hlt)
          · clear i4; omega
        have HD : Hid (sl = (st + d) % m) := Lib.hid (by rw [← hdd, HSL.out])
        subst hdd
        clear hv ht hu hcl
        go_wp2
        go_quiet (fail)
        go_wp2
        go_ret2
        exact ⟨by rw [← HD.out]; rfl, _, by rw [HWR.out, drewN_twice]⟩
      · have hlt : e < d := by
          rcases Nat.lt_or_ge e d with hlt | hge
          · exact hlt
          · exfalso
            have hee : e = d := by clear i4; omega
            have := HE.out
            rw [← hee, HSL.out] at this
            unfold Ends at this
            rw [hv, ht] at this
            rcases this with h | h
            · exact hv0 h
            · exact hts h
        have j1 : (t.toList == s.toList) = false := list_ne hts
        obtain ⟨s2, hs2⟩ : ∃ s2, (sl + 1) % m = s2 := ⟨_, rfl⟩
        have HS2 : Hid ((st + (e + 1)) % m = s2) := Lib.hid (by rw [← HNX.out, hs2])
        have j2 : ((sl : Int) + 1) % (m : Int) = (s2 : Int) := by rw [← hs2, Int.natCast_emod]; rfl
        have j3 : Int.tmod ((sl : Int) + 1) (m : Int) = (s2 : Int) := by rw [Int.tmod_eq_emod_of_nonneg (by clear i4; omega)]; exact j2
        clear hv ht hu hcl hs2
        go_wp2
        go_quiet (fail)
        go_wp2
        go_roundw
        case rel => exact ⟨e + 1, _, hlt, by rw [HS2.out], by go_num, by rw [HWR.out, drewN_twice]⟩
        case measure => clear i4; simp [intOf]; omega
end Go.Proofs.Ytkleaedfpgaohaa
