/-
  PLAIN MATHEMATICS FOR math/bits.OnesCount64: 64 bits counted in parallel, byte by byte.
-/
import Derived.Test.YtibhhndiefhofaaBitCnt
import Derived.KernelRfl
namespace Go.Proofs.Ytibhhndiefhofaa
/-! ### 64 bits counted in parallel, byte by byte -/
def joinB : List Nat → Nat
  | [] => 0
  | a :: t => a + 256 * joinB t
theorem and_byte (a b c d : Nat) (ha : a < 256) (hc : c < 256) : (a + 256 * b) &&& (c + 256 * d) = (a &&& c) + 256 * (b &&& d) := by
  have hac : a &&& c < 2 ^ 8 := Nat.and_lt_two_pow _ hc
  apply Nat.eq_of_testBit_eq
  intro i
  rw [Nat.add_comm a, Nat.add_comm c, Nat.add_comm (a &&& c), show (256 : Nat) = 2 ^ 8 from rfl, Nat.testBit_and, Nat.testBit_two_pow_mul_add _ ha, Nat.testBit_two_pow_mul_add _ hc, Nat.testBit_two_pow_mul_add _ hac]
  split <;> simp
def st1 (a : Nat) : Nat := (a / 2 &&& 85) + (a &&& 85)
def st2 (a : Nat) : Nat := (a / 4 &&& 51) + (a &&& 51)
def st3 (a : Nat) : Nat := (a / 16 + a) &&& 15
theorem st1_leak : ∀ a, a < 256 → ∀ t, t < 2 → ((a / 2 + 128 * t) &&& 85) = (a / 2 &&& 85) := by decide +kernel
theorem st2_leak : ∀ a, a < 256 → ∀ t, t < 4 → ((a / 4 + 64 * t) &&& 51) = (a / 4 &&& 51) := by decide +kernel
theorem st3_leak : ∀ a, a < 69 → ∀ t, t < 5 → ((a / 16 + 16 * t + a) &&& 15) = ((a / 16 + a) &&& 15) := by decide +kernel
theorem st1_lt : ∀ a, a < 256 → st1 a < 256 := by decide +kernel
theorem st2_lt : ∀ a, a < 256 → st2 (st1 a) < 69 ∧ st2 (st1 a) % 16 < 5 := by decide +kernel
theorem st_all : ∀ a, a < 256 → st3 (st2 (st1 a)) = cnt a 8 := by decide +kernel
def AllLt (l : List Nat) (n : Nat) : Prop := ∀ a, a ∈ l → a < n
theorem step1 : ∀ l : List Nat, AllLt l 256 → (joinB l / 2 &&& joinB (l.map fun _ => 85)) + (joinB l &&& joinB (l.map fun _ => 85)) = joinB (l.map st1)
  | [], _ => rfl
  | a :: t, h => by
    have ha : a < 256 := h a (List.mem_cons_self ..)
    have ih := step1 t (fun b hb => h b (List.mem_cons_of_mem _ hb))
    simp only [List.map_cons, joinB]
    generalize joinB t = y at *
    generalize joinB (t.map fun _ => 85) = m at *
    have e : (a + 256 * y) / 2 = (a / 2 + 128 * (y % 2)) + 256 * (y / 2) := by omega
    rw [e, and_byte _ _ _ _ (by omega) (by decide), and_byte _ _ _ _ ha (by decide), st1_leak a ha (y % 2) (by omega), ← ih]
    unfold st1
    omega
theorem step2 : ∀ l : List Nat, AllLt l 256 → (joinB l / 4 &&& joinB (l.map fun _ => 51)) + (joinB l &&& joinB (l.map fun _ => 51)) = joinB (l.map st2)
  | [], _ => rfl
  | a :: t, h => by
    have ha : a < 256 := h a (List.mem_cons_self ..)
    have ih := step2 t (fun b hb => h b (List.mem_cons_of_mem _ hb))
    simp only [List.map_cons, joinB]
    generalize joinB t = y at *
    generalize joinB (t.map fun _ => 51) = m at *
    have e : (a + 256 * y) / 4 = (a / 4 + 64 * (y % 4)) + 256 * (y / 4) := by omega
    rw [e, and_byte _ _ _ _ (by omega) (by decide), and_byte _ _ _ _ ha (by decide), st2_leak a ha (y % 4) (by omega), ← ih]
    unfold st2
    omega
def Nib (l : List Nat) : Prop := ∀ a, a ∈ l → a < 69 ∧ a % 16 < 5
theorem nib_head : ∀ l : List Nat, Nib l → joinB l % 16 < 5
  | [], _ => by decide
  | a :: t, h => by
    have := h a (List.mem_cons_self ..)
    simp only [joinB]
    omega
theorem step3 : ∀ l : List Nat, Nib l → ((joinB l / 16 + joinB l) &&& joinB (l.map fun _ => 15)) = joinB (l.map st3)
  | [], _ => rfl
  | a :: t, h => by
    have ha := h a (List.mem_cons_self ..)
    have ht : Nib t := fun b hb => h b (List.mem_cons_of_mem _ hb)
    have ih := step3 t ht
    have hn := nib_head t ht
    simp only [List.map_cons, joinB]
    generalize joinB t = y at *
    generalize joinB (t.map fun _ => 15) = m at *
    have e : (a + 256 * y) / 16 + (a + 256 * y) = (a / 16 + 16 * (y % 16) + a) + 256 * (y / 16 + y) := by omega
    rw [e, and_byte _ _ _ _ (by omega) (by decide), st3_leak a ha.1 (y % 16) hn, ih]
    rfl
theorem cnt_join : ∀ l : List Nat, AllLt l 256 → cnt (joinB l) (8 * l.length) = (l.map (cnt · 8)).sum
  | [], _ => rfl
  | a :: t, h => by
    have ha : a < 256 := h a (List.mem_cons_self ..)
    have ih := cnt_join t (fun b hb => h b (List.mem_cons_of_mem _ hb))
    simp only [List.map_cons, List.sum_cons, List.length_cons, joinB]
    rw [← ih, show 8 * (t.length + 1) = 8 + 8 * t.length by omega, ← cnt_shr]
    have e1 : (a + 256 * joinB t) / 2 ^ 8 = joinB t := by omega
    have e2 : (a + 256 * joinB t) % 2 ^ 8 = a := by omega
    rw [e1, ← cnt_mod _ 8 8 (Nat.le_refl _), e2]
def bytes8 (u : Nat) : List Nat := [u % 256, u / 256 % 256, u / 65536 % 256, u / 16777216 % 256, u / 4294967296 % 256, u / 1099511627776 % 256, u / 281474976710656 % 256, u / 72057594037927936]
theorem mask1 (u : Nat) : joinB ((bytes8 u).map fun _ => 85) = 6148914691236517205 := by simp [bytes8, joinB]
theorem mask2 (u : Nat) : joinB (((bytes8 u).map st1).map fun _ => 51) = 3689348814741910323 := by simp [bytes8, joinB]
theorem mask3 (u : Nat) : joinB ((((bytes8 u).map st1).map st2).map fun _ => 15) = 1085102592571150095 := by simp [bytes8, joinB]
theorem mask4 (u : Nat) : joinB ((((bytes8 u).map st1).map st2).map fun _ => 68) = 4919131752989213764 := by simp [bytes8, joinB]
theorem joinB_lt : ∀ l : List Nat, AllLt l 256 → joinB l < 256 ^ l.length
  | [], _ => by decide
  | a :: t, h => by
    have ha : a < 256 := h a (List.mem_cons_self ..)
    have ih := joinB_lt t (fun b hb => h b (List.mem_cons_of_mem _ hb))
    rw [List.length_cons, Nat.pow_succ]
    simp only [joinB]
    omega
theorem joinB_le (m : Nat) : ∀ l : List Nat, AllLt l (m + 1) → joinB l ≤ joinB (l.map fun _ => m)
  | [], _ => Nat.le_refl _
  | a :: t, h => by
    have ha : a < m + 1 := h a (List.mem_cons_self ..)
    have ih := joinB_le m t (fun b hb => h b (List.mem_cons_of_mem _ hb))
    simp only [List.map_cons, joinB]
    omega
theorem bytes8_join (u : Nat) : joinB (bytes8 u) = u := by
  simp only [bytes8, joinB]
  omega
theorem bytes8_lt (u : Nat) (h : u < 18446744073709551616) : AllLt (bytes8 u) 256 := by
  intro a ha
  simp only [bytes8, List.mem_cons, List.not_mem_nil, or_false] at ha
  rcases ha with rfl | rfl | rfl | rfl | rfl | rfl | rfl | rfl <;> omega
/-- the first three steps: each byte's own ones -/
def par1 (u : Nat) : Nat := (u / 2 &&& 6148914691236517205) + (u &&& 6148914691236517205)
def par2 (u : Nat) : Nat := (u / 4 &&& 3689348814741910323) + (u &&& 3689348814741910323)
def par3 (u : Nat) : Nat := (u / 16 + u) &&& 1085102592571150095
theorem par_bytes (u : Nat) (h : u < 18446744073709551616) : par1 u = joinB ((bytes8 u).map st1) ∧ par2 (par1 u) = joinB (((bytes8 u).map st1).map st2) ∧ par3 (par2 (par1 u)) = joinB ((bytes8 u).map (cnt · 8)) := by
  have hl := bytes8_lt u h
  have e1 : par1 u = joinB ((bytes8 u).map st1) := by
    have := step1 (bytes8 u) hl
    rw [bytes8_join, mask1] at this
    exact this
  have h1 : AllLt ((bytes8 u).map st1) 256 := by
    intro a ha
    obtain ⟨b, hb, rfl⟩ := List.mem_map.1 ha
    exact st1_lt b (hl b hb)
  have e2 : par2 (par1 u) = joinB (((bytes8 u).map st1).map st2) := by
    rw [e1]
    have := step2 ((bytes8 u).map st1) h1
    rw [mask2] at this
    exact this
  have h2 : Nib (((bytes8 u).map st1).map st2) := by
    intro a ha
    obtain ⟨c, hc, rfl⟩ := List.mem_map.1 ha
    obtain ⟨b, hb, rfl⟩ := List.mem_map.1 hc
    exact st2_lt b (hl b hb)
  refine ⟨e1, e2, ?_⟩
  rw [e2]
  have e3 : par3 (joinB (((bytes8 u).map st1).map st2)) = joinB ((((bytes8 u).map st1).map st2).map st3) := by
    have := step3 (((bytes8 u).map st1).map st2) h2
    rw [mask3] at this
    exact this
  rw [e3, List.map_map, List.map_map]
  congr 1
  exact List.map_congr_left fun b hb => st_all b (hl b hb)
theorem cnt_bytes (u : Nat) (h : u < 18446744073709551616) : cnt u 64 = ((bytes8 u).map (cnt · 8)).sum := by
  have := cnt_join (bytes8 u) (bytes8_lt u h)
  rw [bytes8_join] at this
  exact this
theorem div_low (m a h : Nat) (ha : a < m) : (a + m * h) / m = h := by
  rw [Nat.add_mul_div_left _ _ (by omega), Nat.div_eq_of_lt ha, Nat.zero_add]
theorem mod_low (m a h : Nat) (ha : a < m) : (a + m * h) % m = a := by
  rw [Nat.add_mul_mod_self_left, Nat.mod_eq_of_lt ha]
theorem par_last (c0 c1 c2 c3 c4 c5 c6 c7 : Nat) (h0 : c0 ≤ 8) (h1 : c1 ≤ 8) (h2 : c2 ≤ 8) (h3 : c3 ≤ 8) (h4 : c4 ≤ 8) (h5 : c5 ≤ 8) (h6 : c6 ≤ 8) (h7 : c7 ≤ 8) (x y z : Nat)
    (hx : x = c0 + 256 * (c1 + 256 * (c2 + 256 * (c3 + 256 * (c4 + 256 * (c5 + 256 * (c6 + 256 * (c7 + 256 * 0))))))))
    (hy : y = x + x / 256) (hz : z = y + y / 65536) : (z + z / 4294967296) % 128 = c0 + (c1 + (c2 + (c3 + (c4 + (c5 + (c6 + (c7 + 0)))))))
      ∧ x < 1000000000000000000 ∧ y < 1000000000000000000 ∧ z < 1000000000000000000 := by
  simp only [Nat.mul_zero, Nat.add_zero, Nat.mul_add, ← Nat.mul_assoc, Nat.reduceMul] at hx
  obtain ⟨r, hr⟩ : ∃ r, r = c1 + 256 * c2 + 65536 * c3 + 16777216 * c4 + 4294967296 * c5 + 1099511627776 * c6 + 281474976710656 * c7 := ⟨_, rfl⟩
  have e1 : x / 256 = r := by
    rw [show x = c0 + 256 * r by omega, div_low 256 c0 _ (by omega)]
  rw [e1] at hy
  clear e1
  obtain ⟨s, hs⟩ : ∃ s, s = (c2 + c3) + 256 * (c3 + c4) + 65536 * (c4 + c5) + 16777216 * (c5 + c6) + 4294967296 * (c6 + c7) + 1099511627776 * c7 := ⟨_, rfl⟩
  have e2 : y / 65536 = s := by
    rw [show y = ((c0 + c1) + 256 * (c1 + c2)) + 65536 * s by omega, div_low 65536 _ _ (by omega)]
  rw [e2] at hz
  clear e2
  obtain ⟨t, ht⟩ : ∃ t, t = (c4 + c5 + c6 + c7) + 256 * (c5 + c6 + c7) + 65536 * (c6 + c7) + 16777216 * c7 := ⟨_, rfl⟩
  have e3 : z / 4294967296 = t := by
    rw [show z = ((c0 + c1 + c2 + c3) + 256 * (c1 + c2 + c3 + c4) + 65536 * (c2 + c3 + c4 + c5) + 16777216 * (c3 + c4 + c5 + c6)) + 4294967296 * t by omega, div_low 4294967296 _ _ (by omega)]
  refine ⟨?_, by clear e3; omega, by clear e3; omega, by clear e3; omega⟩
  rw [e3]
  clear e3
  rw [show z + t = (c0 + (c1 + (c2 + (c3 + (c4 + (c5 + (c6 + (c7 + 0)))))))) + 128 * (2 * (c1 + c2 + c3 + c4) + 512 * (c2 + c3 + c4 + c5) + 131072 * (c3 + c4 + c5 + c6) + 33554432 * t + 2 * (c5 + c6 + c7) + 512 * (c6 + c7) + 131072 * c7) by omega, mod_low 128 _ _ (by omega)]
def par4 (x : Nat) : Nat := x + x / 256
def par5 (x : Nat) : Nat := x + x / 65536
def par6 (x : Nat) : Nat := x + x / 4294967296
/-- THE ONES, COUNTED IN PARALLEL. -/
theorem par_all (u : Nat) (h : u < 18446744073709551616) : par6 (par5 (par4 (par3 (par2 (par1 u))))) % 128 = cnt u 64 := by
  rw [cnt_bytes u h, (par_bytes u h).2.2]
  simp only [bytes8, List.map_cons, List.map_nil, joinB, List.sum_cons, List.sum_nil]
  exact (par_last _ _ _ _ _ _ _ _ (cnt_le _ 8) (cnt_le _ 8) (cnt_le _ 8) (cnt_le _ 8) (cnt_le _ 8) (cnt_le _ 8) (cnt_le _ 8) (cnt_le _ 8) _ _ _ rfl rfl rfl).1
theorem par_small (u : Nat) (h : u < 18446744073709551616) : par1 u < 18446744073709551616 ∧ par2 (par1 u) ≤ 4919131752989213764 ∧ par3 (par2 (par1 u)) < 1000000000000000000 ∧ par4 (par3 (par2 (par1 u))) < 1000000000000000000 ∧ par5 (par4 (par3 (par2 (par1 u)))) < 1000000000000000000 := by
  have hb := par_bytes u h
  have hl := bytes8_lt u h
  have h1 : AllLt ((bytes8 u).map st1) 256 := by
    intro a ha
    obtain ⟨b, hb, rfl⟩ := List.mem_map.1 ha
    exact st1_lt b (hl b hb)
  have h2 : AllLt (((bytes8 u).map st1).map st2) (68 + 1) := by
    intro a ha
    obtain ⟨c, hc, rfl⟩ := List.mem_map.1 ha
    obtain ⟨b, hb, rfl⟩ := List.mem_map.1 hc
    exact (st2_lt b (hl b hb)).1
  have b1 : par1 u < 18446744073709551616 := by
    rw [hb.1]
    have k := joinB_lt _ h1
    rw [show ((bytes8 u).map st1).length = 8 from rfl] at k
    exact Nat.lt_of_lt_of_le k (by decide)
  have b2 : par2 (par1 u) ≤ 4919131752989213764 := by
    rw [hb.2.1]
    have := joinB_le 68 _ h2
    rw [mask4] at this
    exact this
  refine ⟨b1, b2, ?_⟩
  rw [hb.2.2]
  simp only [bytes8, List.map_cons, List.map_nil, joinB]
  exact (par_last _ _ _ _ _ _ _ _ (cnt_le _ 8) (cnt_le _ 8) (cnt_le _ 8) (cnt_le _ 8) (cnt_le _ 8) (cnt_le _ 8) (cnt_le _ 8) (cnt_le _ 8) _ _ _ rfl rfl rfl).2

end Go.Proofs.Ytibhhndiefhofaa
