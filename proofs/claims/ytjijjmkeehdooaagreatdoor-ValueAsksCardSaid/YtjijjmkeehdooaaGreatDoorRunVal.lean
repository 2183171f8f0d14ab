/-
  THE LANDED PACKAGE value: the contracts of read and Read; and all that is asked of it (val_said).
-/
import Derived.Test.YtjijjmkeehdooaaGreatDoorRunVRead
import Derived.Test.YtjijjmkeehdooaaGreatDoorRunVNorm
import Derived.Test.YtjijjmkeehdooaaGreatDoorValSaid
import Derived.Deep.LoopGhost
namespace Go.Proofs.YtjijjmkeehdooaaGreatDoor
open Go.RowKit
section
variable {Is : (Nat → Prop) → World → Value → RefD → Prop} {c : VC} {F : Nat → Prop} {f : Nat → Value} {l t : List (List UInt8 × List UInt8)} {o x s : List UInt8} {r : RefD} {w w' : World} {D : Nat} {R : VRes}
/-- what read gives -/
def ReadG (Is : (Nat → Prop) → World → Value → RefD → Prop) (c : VC) (R : VRes) (e : Ending) (w' : World) : Prop :=
  e = .returned (.tuple #[.string (bytes R.1), .int .i64 R.2.1]) ∧ ∃ F', Is F' w' c.vr R.2.2 ∧ (∀ k, F' k → c.F0 k ∨ c.w0.heap.size ≤ k) ∧ Turns c.F0 c.w0 w'
theorem VM.none_len (h : VM Is c F f [] o r w) : ∃ a cp, f 2 = .slice a 0 cp := by
  rcases h.tx.2 with ⟨e, _⟩ | ⟨g, cap, cur, e, _⟩
  · exact ⟨_, _, e⟩
  · exact ⟨_, _, e⟩
set_option maxHeartbeats 4000000 in
set_option maxRecDepth 100000 in
theorem read_v (S : RefsSaid Is) (h : VM Is c F f [] [] r w) {raw : List UInt8} (hG : GoodV D c.most R [([], raw)] [] r) (hD : D ≤ 1000000) (hm : FitsR c.most) :
    Calls Tryz.prog 24 #[.pointer (some ⟨c.b, 0, none⟩), .string (bytes raw)] w (ReadG Is c R) := by
  have HP := Lib.hid (h.push0 S (x := []) (s := raw) (g := w.heap.size) (cap := 1) (w2 := w.alloc (.cells #[.string ⟨#[]⟩, .string (bytes raw)] 87)) (World.ownsRow_lit w #[.string ⟨#[]⟩, .string (bytes raw)] 1 h.size (by decide) rfl) (World.grownBy_alloc w _ _) (Or.inr (Nat.le_refl _)))
  have fz := HP.out.1.frozen 2
  have c2 := HP.out.1.cell (i := 2) (by decide)
  have HG := Lib.hid hG
  clear h hG
  go_enter Tryz.func24, Tryz.ntmps24
  go_wp2
  obtain ⟨w2, hw2⟩ : ∃ w2, (w.alloc (.cells #[.string ⟨#[]⟩, .string (bytes raw)] 87)).setCell ⟨c.b, 2, none⟩ (.slice (some ⟨w.heap.size, 0, none⟩) 1 1) = w2 := ⟨_, rfl⟩
  have HV : Hid (VM Is c F (fun i => if i = 2 then .slice (some ⟨w.heap.size, 0, none⟩) 1 1 else f i) [([], raw)] [] r w2) := Lib.hid (by rw [← hw2]; exact HP.out.2)
  rw [hw2]
  clear hw2 HP fz c2
  go_loopg [] (measV R [([], raw)] r) (fun kx wr => ∃ F' f' l' o' r', VM Is c F' f' l' o' r' wr ∧ GoodV D c.most R l' o' r' ∧ measV R l' r' = kx)
  case atStart => exact ⟨F, _, _, _, r, HV.out, HG.out, rfl⟩
  case round =>
    obtain ⟨F', f', l', o', r', hv, hg, hmk⟩ := hrel
    cases l' with
    | nil =>
      obtain ⟨a, cp, hf2⟩ := hv.none_len
      have c2 := hv.c2
      rw [hf2] at c2
      have hR := hg.res
      have HR : Hid (R = (o', 0, r')) := Lib.hid hR.symm
      have HS := Lib.hid (bstr_v hv.fb)
      have HV2 := Lib.hid hv
      clear hv hg hmk hR hf2
      go_wp2_with fail
      refine HS.out.mono ?_
      rintro e w5 ⟨rfl, ht⟩
      have HF : Hid (ReadG Is c R (.returned (.tuple #[.string (bytes o'), .int .i64 0])) w5) := Lib.hid (by
        have hv := HV2.out
        rw [HR.out]
        refine ⟨rfl, F', S.keep F' wr w5 _ _ hv.is ht.size fun k hk => ht.block k (S.inn F' wr _ _ hv.is k hk) (hv.apart k hk).2.2, hv.inn, hv.since.next ht fun i hi => Or.inr (hv.fb.own.lt i hi).1⟩)
      clear ht
      go_wp2
      go_ret2
      exact HF.out
    | cons p t =>
      obtain ⟨x, s⟩ := p
      obtain ⟨q, cap, hf2, hcap, _⟩ := hv.inner
      have c2 := hv.c2
      rw [hf2] at c2
      have HS := Lib.hid (step_v S hv hg hD hm)
      have HMK := Lib.hid hmk
      have hdl := hg.deep
      rw [List.length_cons] at hdl
      clear hv hg hmk hf2
      generalize t.length = m at *
      go_wp2_with fail
      refine HS.out.mono ?_
      rintro e w5 (⟨F5, f5, l5, o5, r5, rfl, hv5, hg5, hm5⟩ | ⟨F5, f5, l5, o5, r5, cd, hcd, rfl, hv5, hR⟩)
      · have HV5 := Lib.hid hv5
        have HG5 := Lib.hid hg5
        have HM5 := Lib.hid hm5
        clear hv5 hg5 hm5
        go_wp2
        go_roundg (measV R l5 r5)
        case measure =>
          have := HM5.out
          have h2 := HMK.out
          omega
        case rel => exact ⟨F5, f5, l5, o5, r5, HV5.out, HG5.out, rfl⟩
      · have HF : Hid (ReadG Is c R (.returned (.tuple #[.string ⟨#[]⟩, .int .i64 cd])) w5) := Lib.hid (by
          rw [hR]
          exact ⟨rfl, F5, hv5.is, hv5.inn, hv5.since⟩)
        have hb1 : (cd == 0) = false := beq_eq_false_iff_ne.2 hcd
        clear hv5 hR
        go_wp2
        go_ret2
        exact HF.out
set_option maxHeartbeats 4000000 in
set_option maxRecDepth 100000 in
theorem Read_v (S : RefsSaid Is) (n : Nat) (F : Nat → Prop) (v : Value) (r : RefD) (raw : List UInt8) (kind most : Int) (D : Nat) (w : World) (hE : KE n w) (hn : n ≤ w.heap.size) (hF : ∀ k, F k → n ≤ k) (hS : ShortV D r raw most) (_hk : FitsR kind) (hm : FitsR most) (hi : Is F w v r) :
    Calls Tryz.prog 10 #[v, .string (bytes raw), .int .i64 kind, .int .i64 most] w (GaveR Is F v (readV D r raw kind most).2.2 (.tuple #[.string (bytes (readV D r raw kind most).1), .int .i64 (readV D r raw kind most).2.1]) w) := by
  obtain ⟨hD, hroom, hraw, htx, hcap⟩ := hS
  have hkept := rawV_kept D r raw most false
  have hlen : (rawV D r raw most false).1.length ≤ 2000000 := by
    have := hkept.short
    have e : ([] : List UInt8).length = 0 := rfl
    omega
  have hG := GoodV.start (s := raw) (most := most) hroom hraw htx hcap
  obtain ⟨a, rfl⟩ := S.isPtr F w v r hi
  have hVM : VM Is ⟨n, w.heap.size, w, F, .pointer (some a), most⟩ F (fun i => if i = 0 then .pointer (some a) else if i = 1 then .int .i64 most else if i = 2 then .slice none 0 0 else if i = 3 then .pointer none else .slice none 0 0) [] [] r (w.alloc (.cells #[.pointer (some a), .int .i64 most, .slice none 0 0, .pointer none, .slice none 0 0] 61)) := by
    have hb := (Below.refl w.heap.size w).alloc (Nat.le_refl _) (.cells #[.pointer (some a), .int .i64 most, .slice none 0 0, .pointer none, .slice none 0 0] 61)
    refine ⟨hE.stay (hb.mono hn), ⟨⟨_, heap_alloc_new w _, rfl, fun i hi => ?_⟩, Or.inl rfl, World.ownsRow_nil _ _ _ _, fun _ => rfl⟩, rfl, rfl, World.ownsRow_nil _ _ _ _, S.keep F w _ _ _ hi hb.size fun k hk => hb.block k (S.inn F w _ _ hi k hk), fun k hk => Or.inl hk, fun k hk => ⟨fun e => ?_, fun e => (by cases e), fun e => (by cases e)⟩, (Turns.refl F w).other hb, Nat.le_refl _, hn, hF⟩
    · rcases (show i = 0 ∨ i = 1 ∨ i = 2 ∨ i = 3 ∨ i = 4 by omega) with rfl | rfl | rfl | rfl | rfl <;> rfl
    · have := S.inn F w _ _ hi k hk
      have e2 : k = w.heap.size := e
      omega
  have HR := Lib.hid (read_v S hVM hG hD hm)
  have HQ : Hid (readV D r raw kind most = if (rawV D r raw most false).2.1 ≠ 0 then ([], (rawV D r raw most false).2.1, (rawV D r raw most false).2.2) else (if kind = 2 then normL (rawV D r raw most false).1 else (rawV D r raw most false).1, 0, (rawV D r raw most false).2.2)) := Lib.hid rfl
  have HBAD := Lib.hid hkept.bad
  clear hVM hG hkept hroom htx hcap hi hE hF
  have HV : Hid (∀ rc ro rr V, rawV D r raw most false = (ro, rc, rr) → (V = if rc ≠ 0 then ([], rc, rr) else (if kind = 2 then normL ro else ro, 0, rr)) → readV D r raw kind most = V) := Lib.hid (by
    intro rc ro rr V h1 h2
    rw [HQ.out, h1, h2])
  obtain ⟨⟨ro, rc, rr⟩, hR⟩ : ∃ x, rawV D r raw most false = x := ⟨_, rfl⟩
  have HV2 := Lib.hid (fun V => HV.out rc ro rr V hR)
  rw [hR] at HR HBAD hlen
  have HFIN : Hid (∀ w2 F' V a w', readV D r raw kind most = V → Is F' w2 (.pointer (some a)) rr → (∀ k, F' k → F k ∨ w.heap.size ≤ k) → Turns F w w2 → Below w2.heap.size w2 w' → V.2.2 = rr → GaveR Is F (.pointer (some a)) (readV D r raw kind most).2.2 (.tuple #[.string (bytes (readV D r raw kind most).1), .int .i64 (readV D r raw kind most).2.1]) w (.returned (.tuple #[.string (bytes V.1), .int .i64 V.2.1])) w') := Lib.hid (by
    intro w2 F' V a w' hV hi hin ht hb hr
    rw [hV, hr]
    have hi' := S.keep F' w2 w' _ _ hi hb.size fun k hk => hb.block k (S.inn F' w2 _ _ hi k hk)
    refine ⟨rfl, F', hi', fun k hk => ?_, ht.other hb⟩
    rcases hin k hk with h | h
    · exact Or.inl h
    · exact Or.inr ⟨h, S.inn F' w' _ _ hi' k hk⟩)
  clear HQ HV hR
  by_cases hc : rc = 0
  · subst hc
    by_cases hk : kind = 2
    · subst hk
      have hV := HV2.out (normL ro, 0, rr) (by rw [if_neg (show ¬ ((0 : Int) ≠ 0) by decide), if_pos rfl])
      have HF2 := Lib.hid (fun w2 F' w' h1 h2 h3 h4 => HFIN.out w2 F' (normL ro, 0, rr) a w' hV h1 h2 h3 h4 rfl)
      have HN := Lib.hid (fun w2 => norm_any ro w2 (by exact hlen))
      clear HFIN HV2 hV HBAD
      go_enter Tryz.func10, Tryz.ntmps10
      go_wp2_with fail
      refine HR.out.mono ?_
      rintro e w2 ⟨rfl, F', hi2, hin2, ht2⟩
      have HF3 := Lib.hid (fun w' hb => HF2.out w2 F' w' hi2 hin2 ht2 hb)
      clear hi2 hin2 ht2
      go_wp2_with fail
      refine (HN.out _).mono ?_
      rintro e w3 ⟨rfl, hb3⟩
      have HF4 := Lib.hid (HF3.out w3 hb3)
      clear hb3
      go_wp2
      go_ret2
      exact HF4.out
    · have hV := HV2.out (ro, 0, rr) (by rw [if_neg (show ¬ ((0 : Int) ≠ 0) by decide), if_neg hk])
      have HF2 := Lib.hid (fun w2 F' w' h1 h2 h3 h4 => HFIN.out w2 F' (ro, 0, rr) a w' hV h1 h2 h3 h4 rfl)
      have k1 : (kind == 2) = false := beq_eq_false_iff_ne.2 hk
      clear HFIN HV2 hV HBAD hk
      go_enter Tryz.func10, Tryz.ntmps10
      go_wp2_with fail
      refine HR.out.mono ?_
      rintro e w2 ⟨rfl, F', hi2, hin2, ht2⟩
      have HF4 := Lib.hid (HF2.out w2 F' w2 hi2 hin2 ht2 (Below.refl _ _))
      clear hi2 hin2 ht2
      go_wp2
      go_ret2
      exact HF4.out
  · have hro := HBAD.out hc
    have hro' : ro = [] := hro
    subst hro'
    have hV := HV2.out ([], rc, rr) (by rw [if_pos hc])
    have HF2 := Lib.hid (fun w2 F' w' h1 h2 h3 h4 => HFIN.out w2 F' ([], rc, rr) a w' hV h1 h2 h3 h4 rfl)
    have k1 : (rc == 0) = false := beq_eq_false_iff_ne.2 hc
    clear HFIN HV2 hV HBAD hc hro
    go_enter Tryz.func10, Tryz.ntmps10
    go_wp2_with fail
    refine HR.out.mono ?_
    rintro e w2 ⟨rfl, F', hi2, hin2, ht2⟩
    have HF4 := Lib.hid (HF2.out w2 F' w2 hi2 hin2 ht2 (Below.refl _ _))
    clear hi2 hin2 ht2
    go_wp2
    go_ret2
    exact HF4.out
/-- THE LANDED PACKAGE value IS WHAT THE LAWS OF LAYER 13 ASK -/
theorem val_said (S : RefsSaid Is) : ValSaid KE Is where
  stay := fun _ _ _ h hb => h.stay hb
  read := fun n F v r raw kind most D w hE hn hF hS hk hm hi => Read_v S n F v r raw kind most D w hE hn hF hS hk hm hi
  norm := fun _ s w _ _ hs => norm_any s w (by omega)
  text := fun _ s w _ _ hs => text13_any s w (by omega)
  attr := fun _ s w _ _ hs => attr13_any s w (by omega)
end
end Go.Proofs.YtjijjmkeehdooaaGreatDoor
