/-
  THE LANDED PACKAGE scope: its map; New, Depth, bound, URI.
-/
import Derived.Test.YthhnpnjnlbjdjaaRunSMem
namespace Go.Proofs.Ythhnpnjnlbjdjaa
open Go.RowKit

theorem zero_ptr (w : World) : (zeroValue 65).run Try.prog w = .ok (.pointer none) w := by kernel_rfl
theorem str_ne {p q : Nm} (h : q ≠ p) : Lit.string q ≠ Lit.string p := fun e => h (by injection e)
theorem MapH.look {w : World} {mb : Nat} {hd : Nm → Option Nat} (h : MapH w mb hd) (p : Nm) (hp : p.length ≤ 8388608) :
    (Instr.lookup 52 (.map (some mb)) (.string (bytes p)) true).run Try.prog w = .ok (.tuple #[ptrV (hd p), .bool (hd p).isSome]) w := by
  obtain ⟨D, hown, hD⟩ := h
  obtain ⟨v, ps, hrun, hv⟩ := hown.look_ok keyed_s Try.underlying52 (zero_ptr w) (zd := ptrD none) (zp := []) rfl (key_of p hp)
  obtain ⟨o, rfl, ho⟩ := ptrE_inv hv
  rw [(hD p).1] at ho
  rw [hrun, (hD p).2, ← ptrD_inj ho]
theorem MapH.look1 {w : World} {mb : Nat} {hd : Nm → Option Nat} (h : MapH w mb hd) (p : Nm) (hp : p.length ≤ 8388608) :
    (Instr.lookup 52 (.map (some mb)) (.string (bytes p)) false).run Try.prog w = .ok (ptrV (hd p)) w := by
  obtain ⟨D, hown, hD⟩ := h
  obtain ⟨v, ps, hrun, hv⟩ := hown.lookup keyed_s Try.underlying52 (zero_ptr w) (zd := ptrD none) (zp := []) rfl (key_of p hp)
  obtain ⟨o, rfl, ho⟩ := ptrE_inv hv
  rw [(hD p).1] at ho
  rw [hrun, ← ptrD_inj ho]
theorem MapH.put {w : World} {mb b0 : Nat} {T : List (List Bb)} (h : MapH w mb (hdB b0 T)) (hl : (allN (era T)).length ≤ 1099511627777) (p : Nm) (hp : p.length ≤ 8388608) (b : Nat) :
    ∃ w', (Instr.mapUpdate 52 (.map (some mb)) (.string (bytes p)) (ptrV (some b))).run Try.prog w = .ok () w' ∧ MapH w' mb (fun q => if q = p then some b else hdB b0 T q) ∧ w.mapTurned w' mb := by
  obtain ⟨D, hown, hD⟩ := h
  have hsz := size_names hown fun p => (hD p).2
  obtain ⟨w', hrun, hown', hturn⟩ := hown.store keyed_s Try.underlying52 (by rw [hsz]; unfold maxLen; omega) (key_of p hp) (ptrE_mk (some b))
  refine ⟨w', hrun, ⟨_, own_tight hown', fun q => ?_⟩, hturn⟩
  dsimp only
  by_cases e : q = p
  · subst e
    rw [if_pos rfl, Maps.atKey_put_same hown.isMap (show WideAt.IsKeyLit (.string _) from trivial), Maps.has_put_same hown.isMap (show WideAt.IsKeyLit (.string _) from trivial)]
    exact ⟨rfl, rfl⟩
  · rw [if_neg e, Maps.atKey_put_other (str_ne e), Maps.has_put_other (str_ne e)]
    exact hD q
theorem MapH.del {w : World} {mb : Nat} {hd : Nm → Option Nat} (h : MapH w mb hd) (p : Nm) (hp : p.length ≤ 8388608) (ty : TypeId) :
    ∃ w', (Builtin.delete_ #[52, 9] ty #[.map (some mb), .string (bytes p)]).run Try.prog w = .ok (.tuple #[]) w' ∧ MapH w' mb (fun q => if q = p then none else hd q) ∧ w.mapTurned w' mb := by
  obtain ⟨D, hown, hD⟩ := h
  obtain ⟨w', hrun, hown', hturn⟩ := hown.drop keyed_s Try.underlying52 (key_of p hp) ty
  refine ⟨w', hrun, ⟨_, own_tight hown', fun q => ?_⟩, hturn⟩
  dsimp only
  by_cases e : q = p
  · subst e
    rw [if_pos rfl, Maps.atKey_del_same, Maps.has_del_same]
    exact ⟨rfl, rfl⟩
  · rw [if_neg e, Maps.atKey_del_other (str_ne e), Maps.has_del_other (str_ne e)]
    exact hD q
theorem MapH.congr {w : World} {mb : Nat} {hd hd' : Nm → Option Nat} (h : MapH w mb hd) (e : ∀ q, hd q = hd' q) : MapH w mb hd' := by
  obtain ⟨D, hown, hD⟩ := h
  exact ⟨D, hown, fun p => by rw [← e p]; exact hD p⟩
theorem mapH_made (w : World) (b : Nat) :
    ∃ w', (Instr.mapUpdate 52 (.map (some w.heap.size)) (.string ⟨#[120, 109, 108]⟩) (.pointer (some ⟨b, 0, none⟩))).run Try.prog (((w.alloc (.map #[] 0))).alloc (.cells #[.iface 72 (.agg #[.string ⟨#[120, 109, 108]⟩, .string ⟨#[104, 116, 116, 112, 58, 47, 47, 119, 119, 119, 46, 119, 51, 46, 111, 114, 103, 47, 88, 77, 76, 47, 49, 57, 57, 56, 47, 110, 97, 109, 101, 115, 112, 97, 99, 101]⟩]), .int .i64 0, .pointer none] 68)) = .ok () w' ∧
      MapH w' w.heap.size (fun q => if q = xmlN then some b else none) ∧ (((w.alloc (.map #[] 0))).alloc (.cells #[.iface 72 (.agg #[.string ⟨#[120, 109, 108]⟩, .string ⟨#[104, 116, 116, 112, 58, 47, 47, 119, 119, 119, 46, 119, 51, 46, 111, 114, 103, 47, 88, 77, 76, 47, 49, 57, 57, 56, 47, 110, 97, 109, 101, 115, 112, 97, 99, 101]⟩]), .int .i64 0, .pointer none] 68)).mapTurned w' w.heap.size := by
  have hown := (World.ownsMap_made (H := Unit) w Try.prog 9 ptrE).alloc (.cells #[.iface 72 (.agg #[.string ⟨#[120, 109, 108]⟩, .string ⟨#[104, 116, 116, 112, 58, 47, 47, 119, 119, 119, 46, 119, 51, 46, 111, 114, 103, 47, 88, 77, 76, 47, 49, 57, 57, 56, 47, 110, 97, 109, 101, 115, 112, 97, 99, 101]⟩]), .int .i64 0, .pointer none] 68)
  obtain ⟨w', hrun, hown', hturn⟩ := hown.store keyed_s Try.underlying52 (by unfold maxLen; omega) (key_of xmlN (by decide)) (ptrE_mk (some b))
  refine ⟨w', hrun, ⟨_, own_tight hown', fun q => ?_⟩, hturn⟩
  dsimp only
  by_cases e : q = xmlN
  · subst e
    rw [if_pos rfl, Maps.atKey_put_same hown.isMap (show WideAt.IsKeyLit (.string _) from trivial), Maps.has_put_same hown.isMap (show WideAt.IsKeyLit (.string _) from trivial)]
    exact ⟨rfl, rfl⟩
  · rw [if_neg e, Maps.atKey_put_other (str_ne e), Maps.has_put_other (str_ne e)]
    exact ⟨rfl, rfl⟩
/-- a row's block is none of a slice of another type -/
theorem row_own_ne {w : World} {b base : Nat} {t t' : TypeId} {n m : Nat} {f : Nat → Value} {v : Value} {xs : List Value} {sz : Nat} (h : w.rowIs b t n f) (ho : w.ownsRow base t' sz v m xs) (ht : t ≠ t') : ∀ g, v.ownBlock = some g → g ≠ b := by
  rintro g hg rfl
  rcases ho.2 with ⟨rfl, _⟩ | ⟨g', cap, cur, rfl, _, hg', _⟩
  · simp [Value.ownBlock] at hg
  · simp [Value.ownBlock] at hg
    subst hg
    obtain ⟨cc, hcc, _⟩ := h
    have hcc' : w.heap[g']? = some (.cells cc t (0, 0)) := hcc
    rw [hg'] at hcc'
    injection hcc' with e2
    injection e2 with _ e3 _
    exact ht e3.symm
theorem hdB_empty (b0 : Nat) (q : Nm) : ∀ {T : List (List Bb)}, (∀ lv ∈ T, lv = []) → hdB b0 T q = if q = xmlN then some b0 else none
  | [], _ => by
    unfold hdB headB
    split <;> rfl
  | lv :: r, h => by
    obtain rfl := h lv (by simp)
    exact hdB_empty b0 q (T := r) fun l hl => h l (List.mem_cons_of_mem _ hl)
theorem bsAt_empty {F : Nat → Prop} {w : World} {b0 : Nat} (h : BindAt F w (b0, (xmlN, xmlU)) 0 none) : ∀ {T : List (List Bb)}, (∀ lv ∈ T, lv = []) → BsAt F w b0 T
  | [], _ => h
  | lv :: r, hT => by
    obtain rfl := hT lv (by simp)
    exact ⟨fun x hx => by simp at hx, bsAt_empty h (T := r) fun l hl => hT l (List.mem_cons_of_mem _ hl)⟩
theorem InAt.sub {F F' : Nat → Prop} {w : World} {T : List (List Bb)} {VN : List Value} (h : InAt F w T VN) (hf : ∀ k, F k → F' k) : InAt F' w T VN := h.keep (fun _ _ _ _ => rfl) hf
set_option maxHeartbeats 1000000 in
set_option maxRecDepth 100000 in
theorem rnew_s (w : World) : Calls Try.prog 8 #[] w fun e w' => ∃ v F, e = .returned v ∧ IsSc F w' v [] ∧ (∀ k, F k → w.heap.size ≤ k ∧ k < w'.heap.size) ∧ Below w.heap.size w w' := by
  have hb := (Below.refl w.heap.size w).alloc (Nat.le_refl _) (.cells #[.slice none 0 0, .map none] 54)
  have hbox := World.rowIs_alloc w #[.slice none 0 0, .map none] 54 (fun i => if i = 0 then .slice none 0 0 else .map none) (by
    intro i hi
    rcases (show i = 0 ∨ i = 1 by have : i < 2 := hi; omega) with rfl | rfl <;> rfl)
  have hsz : (w.alloc (.cells #[.slice none 0 0, .map none] 54)).heap.size = w.heap.size + 1 := by show (w.heap.push _).size = _; rw [Array.size_push]
  go_enter Try.func8, Try.ntmps8
  go_wp2
  go_ret
  refine ⟨_, fun k => k = w.heap.size, rfl, ⟨w.heap.size, [], [], .slice none 0 0, rfl, rfl, Or.inl ⟨⟨fun k hk => by rw [hk, hsz]; omega, rfl, hbox, World.ownsRow_nil _ _ _ _, fun g hg => by simp [Value.ownBlock] at hg, trivial⟩, by simp⟩⟩, fun k hk => by rw [hk, hsz]; omega, hb⟩
set_option maxHeartbeats 1000000 in
set_option maxRecDepth 100000 in
theorem rbound_nil {F : Nat → Prop} {w : World} {sb : Nat} {T : List (List Bb)} {VN : List Value} {vl : Value} (h : ScAt F w sb T VN vl (.map none)) (hT : ∀ lv ∈ T, lv = []) :
    Calls Try.prog 26 #[.pointer (some ⟨sb, 0, none⟩)] w fun e w' => ∃ mb b0 F', e = .returned (.map (some mb)) ∧ Full F' w' sb T VN vl mb b0 ∧ (∀ k, F' k → F k ∨ (w.heap.size ≤ k ∧ k < w'.heap.size)) ∧ (∀ k, F k → F' k) ∧ Turns F w w' := by
  obtain ⟨w3, hrun, hmap, hturn⟩ := mapH_made w (w.heap.size + 1)
  have c1 := h.box.cell (i := 1) (by decide)
  have hmm := @run_makeMap Try.prog
  have qT : ∀ (w : World) (r : Option Nat), (binOp .eql 52 (.map r) (.map none)).run Try.prog w = .ok (.bool r.isNone) w := fun w r => run_eql_map_nil w _ _ _ r Try.underlying52
  have hbx := World.rowIs_alloc (w.alloc (.map #[] 0)) #[.iface 72 (.agg #[.string ⟨#[120, 109, 108]⟩, .string ⟨#[104, 116, 116, 112, 58, 47, 47, 119, 119, 119, 46, 119, 51, 46, 111, 114, 103, 47, 88, 77, 76, 47, 49, 57, 57, 56, 47, 110, 97, 109, 101, 115, 112, 97, 99, 101]⟩]), .int .i64 0, .pointer none] 68 (rowB (xmlN, xmlU) 0 none) (by
    intro i hi
    rcases (show i = 0 ∨ i = 1 ∨ i = 2 by have : i < 3 := hi; omega) with rfl | rfl | rfl <;> rfl)
  have hsz : (w.alloc (.map #[] 0)).heap.size = w.heap.size + 1 := by show (w.heap.push _).size = _; rw [Array.size_push]
  have hb2 := ((Below.refl w.heap.size w).alloc (Nat.le_refl _) (.map #[] 0)).alloc (by rw [hsz]; omega) (.cells #[.iface 72 (.agg #[.string ⟨#[120, 109, 108]⟩, .string ⟨#[104, 116, 116, 112, 58, 47, 47, 119, 119, 119, 46, 119, 51, 46, 111, 114, 103, 47, 88, 77, 76, 47, 49, 57, 57, 56, 47, 110, 97, 109, 101, 115, 112, 97, 99, 101]⟩]), .int .i64 0, .pointer none] 68)
  have hs2 : ((w.alloc (.map #[] 0)).alloc (.cells #[.iface 72 (.agg #[.string ⟨#[120, 109, 108]⟩, .string ⟨#[104, 116, 116, 112, 58, 47, 47, 119, 119, 119, 46, 119, 51, 46, 111, 114, 103, 47, 88, 77, 76, 47, 49, 57, 57, 56, 47, 110, 97, 109, 101, 115, 112, 97, 99, 101]⟩]), .int .i64 0, .pointer none] 68)).heap.size = w.heap.size + 2 := by show ((w.heap.push _).push _).size = _; rw [Array.size_push, Array.size_push]
  have hg := hturn.grown
  have hsl : sb < w.heap.size := h.box.lt
  have hrow3 : w3.rowIs (w.heap.size + 1) 68 3 (rowB (xmlN, xmlU) 0 none) := by
    rw [hsz] at hbx
    exact hbx.of_block (hg.block _ (by rw [hs2]; omega) (fun e => by injection e with e; omega))
  have hold : ∀ k, k < w.heap.size → w3.heap[k]? = w.heap[k]? := fun k hk => (hg.block k (by rw [hs2]; omega) (fun e => by injection e with e; omega)).trans (hb2.block k hk)
  have h3 := h.keep (w' := w3) (by have := hg.size; rw [hs2] at this; omega) fun k hk => hold k (h.inF k hk)
  have hs3 : w.heap.size + 2 ≤ w3.heap.size := by have := hg.size; rw [hs2] at this; exact this
  have f1 := h3.box.frozen 1
  have d1 : w3.cell? ⟨sb, 1, none⟩ = some (.map none) := h3.box.cell (i := 1) (by decide)
  have e1 : (w3.setCell ⟨sb, 1, none⟩ (.map (some w.heap.size))).cell? ⟨sb, 1, none⟩ = some (.map (some w.heap.size)) := (h3.box.set 1 (.map (some w.heap.size))).cell (i := 1) (by decide)
  have HT : Hid (Turns F w (w3.setCell ⟨sb, 1, none⟩ (.map (some w.heap.size)))) := Lib.hid (((Turns.of_below hb2).grown hg (fun k hk => by injection hk with hk; exact Or.inr (by omega))).setCell (p := ⟨sb, 1, none⟩) (Or.inl h.fsb) _)
  have HF : Hid (Full (fun k => F k ∨ k = w.heap.size ∨ k = w.heap.size + 1) (w3.setCell ⟨sb, 1, none⟩ (.map (some w.heap.size))) sb T VN vl w.heap.size (w.heap.size + 1)) := Lib.hid (by
    have hoth : ∀ k, k ≠ sb → (w3.setCell ⟨sb, 1, none⟩ (.map (some w.heap.size))).heap[k]? = w3.heap[k]? := fun k hk => Below.heap_setCell _ _ _ _ hk
    refine ⟨⟨?_, Or.inl h.fsb, (h3.box.set 1 _).congr fun i hi => ?_, ownsRow_block h3.lev fun g hg => hoth g ?_, fun g hg => Or.inl (h3.flev g hg), ?_⟩, Or.inr (Or.inl rfl), ?_, ?_⟩
    · rintro k (hk | rfl | rfl)
      · rw [Deep.nblk_setCell]; exact h3.inF k hk
      · rw [Deep.nblk_setCell]; omega
      · rw [Deep.nblk_setCell]; omega
    · rcases (show i = 0 ∨ i = 1 by omega) with rfl | rfl <;> rfl
    · exact row_own_ne h3.box h3.lev (by decide) g hg
    · exact (h3.inn.keep (fun v hv g hg => hoth g (by
        obtain ⟨_, lv, hlv⟩ := h3.inn.mem v hv g hg
        exact row_own_ne h3.box hlv (by decide) g hg)) fun _ h => h).sub fun k hk => Or.inl hk
    · refine (hmap.keep (hoth _ (by omega))).congr fun q => (hdB_empty _ q hT).symm
    · exact bsAt_empty ⟨Or.inr (Or.inr rfl), hrow3.of_block (hoth _ (by omega))⟩ hT)
  have hsize : (w3.setCell ⟨sb, 1, none⟩ (.map (some w.heap.size))).heap.size = w3.heap.size := Deep.nblk_setCell _ _ _
  clear hbx hb2 hs2 hg hrow3 hold h3 hmap hturn hsz
  go_enter Try.func26, Try.ntmps26
  go_wp2
  go_ret
  refine ⟨_, rfl, _, fun k => F k ∨ k = w.heap.size ∨ k = w.heap.size + 1, HF.out, ?_, fun k hk => Or.inl hk, HT.out⟩
  rw [hsize]
  rintro k (hk | rfl | rfl)
  · exact Or.inl hk
  · exact Or.inr (by omega)
  · exact Or.inr (by omega)
set_option maxHeartbeats 1000000 in
set_option maxRecDepth 100000 in
theorem rbound_full {F : Nat → Prop} {w : World} {sb : Nat} {T : List (List Bb)} {VN : List Value} {vl : Value} {mb b0 : Nat} (h : Full F w sb T VN vl mb b0) :
    Calls Try.prog 26 #[.pointer (some ⟨sb, 0, none⟩)] w fun e w' => e = .returned (.map (some mb)) ∧ w = w' := by
  have c1 : w.cell? ⟨sb, 1, none⟩ = some (.map (some mb)) := h.sc.box.cell (i := 1) (by decide)
  have qT : ∀ (w : World) (r : Option Nat), (binOp .eql 52 (.map r) (.map none)).run Try.prog w = .ok (.bool r.isNone) w := fun w r => run_eql_map_nil w _ _ _ r Try.underlying52
  clear h
  go_enter Try.func26, Try.ntmps26
  go_wp2
  go_ret
  exact ⟨rfl, rfl⟩
/-- A SCOPE, its map made or not. -/
def Some14 (F : Nat → Prop) (w : World) (sb : Nat) (T : List (List Bb)) (VN : List Value) (vl : Value) : Prop := (ScAt F w sb T VN vl (.map none) ∧ ∀ lv ∈ T, lv = []) ∨ ∃ mb b0, Full F w sb T VN vl mb b0
theorem rbound_any {F : Nat → Prop} {w : World} {sb : Nat} {T : List (List Bb)} {VN : List Value} {vl : Value} (h : Some14 F w sb T VN vl) :
    Calls Try.prog 26 #[.pointer (some ⟨sb, 0, none⟩)] w fun e w' => ∃ mb b0 F', e = .returned (.map (some mb)) ∧ Full F' w' sb T VN vl mb b0 ∧ (∀ k, F' k → F k ∨ (w.heap.size ≤ k ∧ k < w'.heap.size)) ∧ (∀ k, F k → F' k) ∧ Turns F w w' := by
  rcases h with ⟨h, hT⟩ | ⟨mb, b0, h⟩
  · exact rbound_nil h hT
  · refine (rbound_full h).mono ?_
    rintro e w' ⟨rfl, rfl⟩
    exact ⟨mb, b0, F, rfl, h, fun k hk => Or.inl hk, fun k hk => hk, Turns.refl _ _⟩
end Go.Proofs.Ythhnpnjnlbjdjaa
