/-
  THE CONTRACT OF brackenlaw6.Row: it returns symbols of its own, below sigma, no more than it may; of what was there before the call nothing turns.
-/
import Derived.Test.YtnjlckgmoodkiaaOwnSyms
import Derived.Test.YtnjlckgmoodkiaaBitNum
import Derived.IntWalk
namespace Go.Proofs.Ytnjlckgmoodkiaa
open Go.RowKit

/-- symbols of its own, below sigma, no more than most -/
def WavPost (sigma most : Nat) (w : World) (e : Ending) (w' : World) : Prop := ∃ v xs, e = .returned v ∧ (xs : List Int).length ≤ most ∧ (∀ x ∈ xs, 0 ≤ x ∧ x < (sigma : Int)) ∧ OwnI w' w.heap.size v xs ∧ Below w.heap.size w w'
theorem below_next {sigma : Int} {xs : List Int} {x : Int} (h : ∀ y ∈ xs, 0 ≤ y ∧ y < sigma) (hx : 0 ≤ x ∧ x < sigma) : ∀ y ∈ xs ++ [x], 0 ≤ y ∧ y < sigma := by
  intro y hy
  rcases List.mem_append.1 hy with h1 | h1
  · exact h y h1
  · simp at h1; subst h1; exact hx

set_option maxHeartbeats 4000000 in
set_option maxRecDepth 100000 in
theorem wavRowSome_any (b off cap : Nat) (zs : List Int) (sigma most : Nat) (w : World) (hs1 : 1 ≤ sigma) (hs2 : sigma ≤ 1000000) (hm : most ≤ 4294967296) (hz : zs.length ≤ 9223372036854775807) (hb : b < w.heap.size)
    (hc : ∀ i, i < zs.length → w.cell? ⟨b, off + i, none⟩ = some (.int .i64 (zs.getD i 0))) :
    Calls Try.prog 8 #[.slice (some ⟨b, off, none⟩) zs.length cap, .int .i64 sigma, .int .i64 most] w (WavPost sigma most w) := by
  obtain ⟨i0, hi, hz0, hz1, hz2⟩ := info_parts info_int
  have HC := Lib.hid hc
  clear hc
  go_enter Try.func8, Try.ntmps8
  go_wp2
  go_loopw [7, 8] (fun v i wr => ∃ (k : Nat) (xs : List Int) (a : Option Addr) (c : Nat), k ≤ zs.length ∧ i = .int .i64 k ∧ v = .slice a xs.length c ∧ xs.length ≤ most ∧ Hid (∀ x ∈ xs, 0 ≤ x ∧ x < (sigma : Int)) ∧ OwnI wr w.heap.size v xs ∧ Below w.heap.size w wr) (fun _ i _ => zs.length - (intOf i).toNat)
  case atStart => exact ⟨0, [], none, 0, Nat.zero_le _, rfl, rfl, Nat.zero_le _, Lib.hid (fun _ h => by cases h), World.ownsRow_nil _ _ _ _, Below.refl _ _⟩
  case round =>
    obtain ⟨k, xs, a, c, hk, rfl, rfl, hlen, HIN, hown, hbel⟩ := hrel
    by_cases hlt : k < zs.length
    · by_cases hmo : xs.length < most
      · obtain ⟨z, hzz⟩ : ∃ z, zs.getD k 0 = z := ⟨_, rfl⟩
        have HW : Hid (w.cell? ⟨b, off + k, none⟩ = some (.int .i64 z)) := Lib.hid (by rw [← hzz]; exact HC.out k hlt)
        have hcell : wr.cell? ⟨b, off + k, none⟩ = some (.int .i64 z) := by rw [hbel.cell (p := ⟨b, off + k, none⟩) hb]; exact HW.out
        obtain ⟨u, hu⟩ : ∃ u : Nat, IntKind.u64.wrap z = (u : Int) := ⟨(IntKind.u64.wrap z).toNat, by simp [IntKind.wrap, IntKind.bits, IntKind.signed]; omega⟩
        have hur : u ≤ 18446744073709551615 := by
          have : IntKind.u64.wrap z ≤ 18446744073709551615 := by simp [IntKind.wrap, IntKind.bits, IntKind.signed]; omega
          omega
        obtain ⟨n0, hn0, hn4⟩ : ∃ n0 : Nat, Int.tmod (u : Int) 4 = (n0 : Int) ∧ n0 ≤ 4 := ⟨u % 4, by rw [Int.tmod_eq_emod_of_nonneg (by omega)]; omega, by omega⟩
        have hn0w : IntKind.u64.wrap (n0 : Int) = (n0 : Int) := by simp [IntKind.wrap, IntKind.bits, IntKind.signed]; omega
        clear hzz
        obtain ⟨q, hq⟩ : ∃ q : Nat, (u : Int) / 4 = (q : Int) := ⟨u / 4, by omega⟩
        obtain ⟨x, hx, hxs⟩ : ∃ x : Nat, Int.tmod (q : Int) (sigma : Int) = (x : Int) ∧ x < sigma := ⟨q % sigma, by rw [Int.tmod_eq_emod_of_nonneg (by omega)]; omega, Nat.mod_lt _ (by omega)⟩
        have hqb : q ≤ 18446744073709551615 := by omega
        have HQ := Lib.hid hq
        have HU := Lib.hid hu
        have HX := Lib.hid hx
        have HUR := Lib.hid hur
        clear hq hx hur hqb
        go_wp2
        go_loopw [7, 9] (fun v n wi => ∃ (m : Nat) (ys : List Int) (a : Option Addr) (c : Nat), n = .int .u64 m ∧ m ≤ 4 ∧ v = .slice a ys.length c ∧ ys.length ≤ most ∧ Hid (∀ x ∈ ys, 0 ≤ x ∧ x < (sigma : Int)) ∧ OwnI wi w.heap.size v ys ∧ Below w.heap.size w wi) (fun _ n _ => 4 - (intOf n).toNat)
        case atStart => exact ⟨n0, xs, a, c, rfl, hn4, rfl, hlen, HIN, hown, hbel⟩
        case round =>
          clear hlen hown hbel hcell hn0 hn0w hn4 HIN hmo hu
          obtain ⟨m, ys, a2, c2, rfl, hm4, rfl, hlen, HIN, hown2, hbel2⟩ := hrel
          have hcell2 : wr.cell? ⟨b, off + k, none⟩ = some (.int .i64 z) := by rw [hbel2.cell (p := ⟨b, off + k, none⟩) hb]; exact HW.out
          have hown0 : wr.ownsRow w.heap.size 3 1 (.slice a2 ys.length c2) ys.length (ys.map ival) := hown2
          have hblk := ownI_block hown2
          have hsz := hbel2.size
          by_cases hmm : m < 4
          · by_cases hmo : ys.length < most
            · have hu := HU.out
              have hq := HQ.out
              have hx := HX.out
              have hs64 : IntKind.u64.wrap (sigma : Int) = (sigma : Int) := by simp [IntKind.wrap, IntKind.bits, IntKind.signed]; omega
              have hx64 : IntKind.i64.wrap (x : Int) = (x : Int) := IntWalk.i64_in _ (by clear hx hq hu hs64; omega)
              have hq64 : IntKind.u64.wrap (q : Int) = (q : Int) := by
                have hur := HUR.out
                clear hx hu hs64 hx64
                simp [IntKind.wrap, IntKind.bits, IntKind.signed]; omega
              have hs0 : ((sigma : Int) == 0) = false := beq_eq_false_iff_ne.2 (by clear hx hq hu hs64 hx64 hq64; omega)
              have hs0' : (sigma == 0) = false := beq_eq_false_iff_ne.2 (by clear hx hq hu hs64 hx64 hq64; omega)
              go_wp2_with (at_builtin; refine wpList_append_own _ rfl _ _ 22 rfl w.heap.size 3 i0 (.int .i64 0) 1 8 Try.underlying22 hi hz0 hz1 hz2 rfl (by decide) _ _ _ rfl (hown0.alloc _) ⟨wr.heap.size, 0, none⟩ 1 1 [.int .i64 x] rfl rfl (cell_one_new _ _ _) (by intro u hu; simp at hu; subst hu; rfl) (by unfold maxLen; clear hx hq hu hs64 hx64 hq64; omega) (by clear hx hq hu hs64 hx64 hq64; omega) (by simp; clear hx hq hu hs64 hx64 hq64; omega) ?_; intro v' w2 hown3 hgrow3 _; have hown4 : OwnI w2 w.heap.size v' (ys ++ [(x : Int)]) := ownI_next _ hown3; obtain ⟨a4, c4, rfl⟩ := ownI_slice1 hown4)
              clear hx hq hu hs64 hx64 hq64
              go_roundw
              case rel => exact ⟨m + 1, ys ++ [(x : Int)], a4, c4, by go_num, by omega, by rw [List.length_append]; rfl, by rw [List.length_append]; simp; omega, Lib.hid (below_next HIN.out ⟨by omega, by omega⟩), hown4, (hbel2.alloc hbel2.size _).grown hgrow3 (by simp; omega) hblk⟩
              case measure => first | (simp [intOf]; done) | (simp [intOf]; omega)
            · have g1 : decide (ys.length < most) = false := decide_eq_false hmo
              have g2 : decide (m < 4) = true := decide_eq_true hmm
              go_wp2
              go_roundw
              case rel => exact ⟨k + 1, ys, a2, c2, by omega, by go_num, rfl, hlen, HIN, hown2, hbel2⟩
              case measure => first | (simp [intOf]; done) | (simp [intOf]; omega)
          · have g2 : decide (m < 4) = false := decide_eq_false hmm
            have g3 : decide ((m : Int) < 4) = false := decide_eq_false (by omega)
            go_wp2
            go_roundw
            case rel => exact ⟨k + 1, ys, a2, c2, by omega, by go_num, rfl, hlen, HIN, hown2, hbel2⟩
            case measure => first | (simp [intOf]; done) | (simp [intOf]; omega)
      · have g1 : decide (xs.length < most) = false := decide_eq_false hmo
        go_wp2
        go_ret
        exact ⟨_, xs, rfl, hlen, HIN.out, hown, hbel⟩
    · have g1 : decide (k < zs.length) = false := decide_eq_false hlt
      go_wp2
      go_ret
      exact ⟨_, xs, rfl, hlen, HIN.out, hown, hbel⟩

set_option maxHeartbeats 1000000 in
set_option maxRecDepth 100000 in
theorem wavRowNone_any (a : Option Addr) (cap sigma most : Nat) (w : World) :
    Calls Try.prog 8 #[.slice a 0 cap, .int .i64 sigma, .int .i64 most] w (WavPost sigma most w) := by
  go_enter Try.func8, Try.ntmps8
  go_wp2
  go_loopw [7, 8] (fun v i wr => v = .slice none 0 0 ∧ i = .int .i64 0 ∧ wr = w) (fun _ _ _ => 0)
  case atStart => exact ⟨rfl, rfl, rfl⟩
  case round =>
    obtain ⟨rfl, rfl, rfl⟩ := hrel
    go_wp2
    go_ret
    exact ⟨_, [], rfl, Nat.zero_le _, (fun _ h => by cases h), World.ownsRow_nil _ _ _ _, Below.refl _ _⟩
end Go.Proofs.Ytnjlckgmoodkiaa
