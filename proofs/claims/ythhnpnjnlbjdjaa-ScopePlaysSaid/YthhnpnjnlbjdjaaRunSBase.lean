/-
  THE LANDED PACKAGE scope: its bonds.
-/
import Derived.Test.YthhnpnjnlbjdjaaScDefs
import Derived.Test.YthhnpnjnlbjdjaaTurns
import Derived.Test.YthhnpnjnlbjdjaaShelf
import Derived.WalkKit
import Derived.WalkSpells
import Derived.WalkLawsBesides
import Derived.LoopTactic
import Derived.Handy
import Derived.Lib.Hide
import Derived.Below
import Derived.BigCall
namespace Go.Proofs.Ythhnpnjnlbjdjaa
open Go.RowKit

theorem met_name_p (a b : ByteArray) (w : World) : (method 221 72 (.agg #[.string a, .string b]) "bracken/scope.name").run Try.prog w = .ok (73, .agg #[.string a, .string b]) w := by kernel_rfl
theorem met_to_p (a b : ByteArray) (w : World) : (method 221 72 (.agg #[.string a, .string b]) "bracken/scope.to").run Try.prog w = .ok (74, .agg #[.string a, .string b]) w := by kernel_rfl
theorem met_may_p (a b : ByteArray) (w : World) : (method 221 72 (.agg #[.string a, .string b]) "bracken/scope.may").run Try.prog w = .ok (72, .agg #[.string a, .string b]) w := by kernel_rfl
theorem met_decl_p (a b : ByteArray) (w : World) : (method 221 72 (.agg #[.string a, .string b]) "bracken/scope.declaration").run Try.prog w = .ok (71, .agg #[.string a, .string b]) w := by kernel_rfl
theorem met_name_u (b : ByteArray) (w : World) : (method 221 78 (.agg #[.string b]) "bracken/scope.name").run Try.prog w = .ok (77, .agg #[.string b]) w := by kernel_rfl
theorem met_to_u (b : ByteArray) (w : World) : (method 221 78 (.agg #[.string b]) "bracken/scope.to").run Try.prog w = .ok (78, .agg #[.string b]) w := by kernel_rfl
theorem met_may_u (b : ByteArray) (w : World) : (method 221 78 (.agg #[.string b]) "bracken/scope.may").run Try.prog w = .ok (76, .agg #[.string b]) w := by kernel_rfl
theorem met_decl_u (b : ByteArray) (w : World) : (method 221 78 (.agg #[.string b]) "bracken/scope.declaration").run Try.prog w = .ok (75, .agg #[.string b]) w := by kernel_rfl
theorem ent_name_p (v : Value) (w : World) : (callFunc 73 #[v]).run Try.prog w = .ok (.enter 73 #[v]) w := by kernel_rfl
theorem ent_name_u (v : Value) (w : World) : (callFunc 77 #[v]).run Try.prog w = .ok (.enter 77 #[v]) w := by kernel_rfl
theorem ent_to_p (v : Value) (w : World) : (callFunc 74 #[v]).run Try.prog w = .ok (.enter 74 #[v]) w := by kernel_rfl
theorem ent_to_u (v : Value) (w : World) : (callFunc 78 #[v]).run Try.prog w = .ok (.enter 78 #[v]) w := by kernel_rfl
theorem ent_may_p (v : Value) (w : World) : (callFunc 72 #[v]).run Try.prog w = .ok (.enter 72 #[v]) w := by kernel_rfl
theorem ent_may_u (v : Value) (w : World) : (callFunc 76 #[v]).run Try.prog w = .ok (.enter 76 #[v]) w := by kernel_rfl
theorem ent_decl_p (v : Value) (w : World) : (callFunc 71 #[v]).run Try.prog w = .ok (.enter 71 #[v]) w := by kernel_rfl
theorem ent_decl_u (v : Value) (w : World) : (callFunc 75 #[v]).run Try.prog w = .ok (.enter 75 #[v]) w := by kernel_rfl
theorem sbeq (a l : Nm) : ((bytes a).toList == l) = decide (a = l) := by
  rw [bytesL_toList]
  by_cases h : a = l
  · subst h; simp
  · simp [h]
theorem sbeq_t {a l : Nm} (h : a = l) : ((bytes a).toList == l) = true := by rw [sbeq]; exact decide_eq_true h
theorem sbeq_f {a l : Nm} (h : a ≠ l) : ((bytes a).toList == l) = false := by rw [sbeq]; exact decide_eq_false h
theorem semp (a : Nm) : (bytes a).toList.isEmpty = decide (a = []) := by
  rw [bytesL_toList]
  cases a <;> simp
theorem semp_t {a : Nm} (h : a = []) : (bytes a).toList.isEmpty = true := by rw [semp]; exact decide_eq_true h
theorem semp_f {a : Nm} (h : a ≠ []) : (bytes a).toList.isEmpty = false := by rw [semp]; exact decide_eq_false h
set_option maxHeartbeats 1000000 in
set_option maxRecDepth 100000 in
theorem rname_p (a b : ByteArray) (w : World) : Calls Try.prog 73 #[.agg #[.string a, .string b]] w fun e w' => e = .returned (.string a) ∧ Below w.heap.size w w' := by
  have hb := (Below.refl w.heap.size w).alloc (Nat.le_refl _) (.cells #[.string a, .string b] 72)
  go_enter Try.func73, Try.ntmps73
  go_wp2
  go_ret
  exact ⟨rfl, hb⟩
set_option maxHeartbeats 1000000 in
set_option maxRecDepth 100000 in
theorem rto_p (a b : ByteArray) (w : World) : Calls Try.prog 74 #[.agg #[.string a, .string b]] w fun e w' => e = .returned (.string b) ∧ Below w.heap.size w w' := by
  have hb := (Below.refl w.heap.size w).alloc (Nat.le_refl _) (.cells #[.string a, .string b] 72)
  go_enter Try.func74, Try.ntmps74
  go_wp2
  go_ret
  exact ⟨rfl, hb⟩
set_option maxHeartbeats 1000000 in
set_option maxRecDepth 100000 in
theorem rname_u (b : ByteArray) (w : World) : Calls Try.prog 77 #[.agg #[.string b]] w fun e w' => e = .returned (.string (bytes [])) ∧ Below w.heap.size w w' := by
  have hb := (Below.refl w.heap.size w).alloc (Nat.le_refl _) (.cells #[.string b] 78)
  go_enter Try.func77, Try.ntmps77
  go_wp2
  go_ret
  exact ⟨rfl, by first | exact hb | exact Below.refl _ _⟩
set_option maxHeartbeats 1000000 in
set_option maxRecDepth 100000 in
theorem rto_u (b : ByteArray) (w : World) : Calls Try.prog 78 #[.agg #[.string b]] w fun e w' => e = .returned (.string b) ∧ Below w.heap.size w w' := by
  have hb := (Below.refl w.heap.size w).alloc (Nat.le_refl _) (.cells #[.string b] 78)
  go_enter Try.func78, Try.ntmps78
  go_wp2
  go_ret
  exact ⟨rfl, hb⟩
set_option maxHeartbeats 1000000 in
set_option maxRecDepth 100000 in
theorem rdecl_p (a b : ByteArray) (w : World) : Calls Try.prog 71 #[.agg #[.string a, .string b]] w fun e w' => e = .returned (.agg #[.string (bytes xmlnsN), .string a, .string (bytes xmlnsU), .string b]) ∧ Below w.heap.size w w' := by
  have hb := (Below.refl w.heap.size w).alloc (Nat.le_refl _) (.cells #[.string a, .string b] 72)
  have hb2 := hb.alloc hb.size (.cells #[.string (bytes xmlnsN), .string a, .string (bytes xmlnsU), .string b] 35)
  go_enter Try.func71, Try.ntmps71
  go_wp2
  go_returns
  exact ⟨rfl, hb2⟩
set_option maxHeartbeats 1000000 in
set_option maxRecDepth 100000 in
theorem rdecl_u (b : ByteArray) (w : World) : Calls Try.prog 75 #[.agg #[.string b]] w fun e w' => e = .returned (.agg #[.string (bytes []), .string (bytes xmlnsN), .string (bytes xmlnsU), .string b]) ∧ Below w.heap.size w w' := by
  have hb := (Below.refl w.heap.size w).alloc (Nat.le_refl _) (.cells #[.string b] 78)
  have hb2 := hb.alloc hb.size (.cells #[.string (bytes []), .string (bytes xmlnsN), .string (bytes xmlnsU), .string b] 35)
  go_enter Try.func75, Try.ntmps75
  go_wp2
  go_returns
  exact ⟨rfl, hb2⟩
theorem may_p {p u : Nm} (hp : p ≠ []) : mayB (p, u) = ((!decide (p = xmlnsN)) && (!decide (u = xmlnsU)) && (!decide (u = [])) && (decide (p = xmlN) == decide (u = xmlU))) := by
  unfold mayB
  rw [if_neg hp]
  simp only [ne_eq, decide_not]
set_option maxHeartbeats 1000000 in
set_option maxRecDepth 100000 in
theorem rmay_p (p u : Nm) (w : World) (hp : p ≠ []) : Calls Try.prog 72 #[.agg #[.string (bytes p), .string (bytes u)]] w fun e w' => e = .returned (.bool (mayB (p, u))) ∧ Below w.heap.size w w' := by
  have hb := (Below.refl w.heap.size w).alloc (Nat.le_refl _) (.cells #[.string (bytes p), .string (bytes u)] 72)
  have key := may_p (u := u) hp
  clear hp
  by_cases h1 : p = xmlnsN
  · have c1 : ((bytes p).toList == [120, 109, 108, 110, 115]) = true := sbeq_t h1
    have HR := Lib.hid (show mayB (p, u) = false by rw [key]; simp [h1])
    clear h1 key
    go_enter Try.func72, Try.ntmps72
    go_wp2
    go_ret
    exact ⟨by rw [HR.out]; rfl, hb⟩
  have c1 : ((bytes p).toList == [120, 109, 108, 110, 115]) = false := sbeq_f h1
  by_cases h2 : u = xmlnsU
  · have c2 : ((bytes u).toList == [104, 116, 116, 112, 58, 47, 47, 119, 119, 119, 46, 119, 51, 46, 111, 114, 103, 47, 50, 48, 48, 48, 47, 120, 109, 108, 110, 115, 47]) = true := sbeq_t h2
    have HR := Lib.hid (show mayB (p, u) = false by rw [key]; simp [h2])
    clear h1 h2 key
    go_enter Try.func72, Try.ntmps72
    go_wp2
    go_ret
    exact ⟨by rw [HR.out]; rfl, hb⟩
  have c2 : ((bytes u).toList == [104, 116, 116, 112, 58, 47, 47, 119, 119, 119, 46, 119, 51, 46, 111, 114, 103, 47, 50, 48, 48, 48, 47, 120, 109, 108, 110, 115, 47]) = false := sbeq_f h2
  by_cases h3 : u = []
  · have c3 := semp_t h3
    have HR := Lib.hid (show mayB (p, u) = false by rw [key]; simp [h3])
    clear h1 h2 h3 key
    go_enter Try.func72, Try.ntmps72
    go_wp2
    go_ret
    exact ⟨by rw [HR.out]; rfl, hb⟩
  have c3 := semp_f h3
  have c4 : ((bytes p).toList == [120, 109, 108]) = decide (p = xmlN) := sbeq p xmlN
  have c5 : ((bytes u).toList == [104, 116, 116, 112, 58, 47, 47, 119, 119, 119, 46, 119, 51, 46, 111, 114, 103, 47, 88, 77, 76, 47, 49, 57, 57, 56, 47, 110, 97, 109, 101, 115, 112, 97, 99, 101]) = decide (u = xmlU) := sbeq u xmlU
  have HR := Lib.hid (show mayB (p, u) = (decide (p = xmlN) == decide (u = xmlU)) by rw [key]; simp [h1, h2, h3])
  clear h1 h2 h3 key
  go_enter Try.func72, Try.ntmps72
  go_wp2
  go_ret
  exact ⟨by rw [HR.out]; rfl, hb⟩
theorem may_u {u : Nm} : mayB ([], u) = ((!decide (u = xmlU)) && (!decide (u = xmlnsU))) := by
  unfold mayB
  rw [if_pos rfl]
  simp only [ne_eq, decide_not]
set_option maxHeartbeats 1000000 in
set_option maxRecDepth 100000 in
theorem rmay_u (u : Nm) (w : World) : Calls Try.prog 76 #[.agg #[.string (bytes u)]] w fun e w' => e = .returned (.bool (mayB ([], u))) ∧ Below w.heap.size w w' := by
  have hb := (Below.refl w.heap.size w).alloc (Nat.le_refl _) (.cells #[.string (bytes u)] 78)
  have c2 : ((bytes u).toList == [104, 116, 116, 112, 58, 47, 47, 119, 119, 119, 46, 119, 51, 46, 111, 114, 103, 47, 50, 48, 48, 48, 47, 120, 109, 108, 110, 115, 47]) = decide (u = xmlnsU) := sbeq u xmlnsU
  by_cases h1 : u = xmlU
  · have c5 : ((bytes u).toList == [104, 116, 116, 112, 58, 47, 47, 119, 119, 119, 46, 119, 51, 46, 111, 114, 103, 47, 88, 77, 76, 47, 49, 57, 57, 56, 47, 110, 97, 109, 101, 115, 112, 97, 99, 101]) = true := sbeq_t h1
    have HR := Lib.hid (show mayB ([], u) = false by rw [may_u]; simp [h1])
    clear h1
    go_enter Try.func76, Try.ntmps76
    go_wp2
    go_ret
    exact ⟨by rw [HR.out]; rfl, hb⟩
  have c5 : ((bytes u).toList == [104, 116, 116, 112, 58, 47, 47, 119, 119, 119, 46, 119, 51, 46, 111, 114, 103, 47, 88, 77, 76, 47, 49, 57, 57, 56, 47, 110, 97, 109, 101, 115, 112, 97, 99, 101]) = false := sbeq_f h1
  have HR := Lib.hid (show mayB ([], u) = (!decide (u = xmlnsU)) by rw [may_u]; simp [h1])
  clear h1
  go_enter Try.func76, Try.ntmps76
  go_wp2
  go_ret
  exact ⟨by rw [HR.out]; rfl, hb⟩
/-- A BOND AS A VALUE. -/
def bondT (b : Bd) : TypeId := if b.1 = [] then 78 else 72
def bondA (b : Bd) : Value := if b.1 = [] then .agg #[.string (bytes b.2)] else .agg #[.string (bytes b.1), .string (bytes b.2)]
abbrev bondV (b : Bd) : Value := .iface (bondT b) (bondA b)
theorem bondT_p {b : Bd} (h : b.1 ≠ []) : bondT b = 72 := if_neg h
theorem bondA_p {b : Bd} (h : b.1 ≠ []) : bondA b = .agg #[.string (bytes b.1), .string (bytes b.2)] := if_neg h
theorem bondT_u {b : Bd} (h : b.1 = []) : bondT b = 78 := if_pos h
theorem bondA_u {b : Bd} (h : b.1 = []) : bondA b = .agg #[.string (bytes b.2)] := if_pos h
/-- WHAT IS ASKED OF A BOND: its methods. -/
structure MetB (t : TypeId) (a : Value) (b : Bd) (f1 f2 f3 f4 : FuncId) : Prop where
  mname : ∀ w, (method 221 t a "bracken/scope.name").run Try.prog w = .ok (f1, a) w
  mto : ∀ w, (method 221 t a "bracken/scope.to").run Try.prog w = .ok (f2, a) w
  mmay : ∀ w, (method 221 t a "bracken/scope.may").run Try.prog w = .ok (f3, a) w
  mdecl : ∀ w, (method 221 t a "bracken/scope.declaration").run Try.prog w = .ok (f4, a) w
  ename : ∀ w, (callFunc f1 #[a]).run Try.prog w = .ok (.enter f1 #[a]) w
  eto : ∀ w, (callFunc f2 #[a]).run Try.prog w = .ok (.enter f2 #[a]) w
  emay : ∀ w, (callFunc f3 #[a]).run Try.prog w = .ok (.enter f3 #[a]) w
  edecl : ∀ w, (callFunc f4 #[a]).run Try.prog w = .ok (.enter f4 #[a]) w
  name : ∀ w, Calls Try.prog f1 #[a] w fun e w' => e = .returned (.string (bytes b.1)) ∧ Below w.heap.size w w'
  to : ∀ w, Calls Try.prog f2 #[a] w fun e w' => e = .returned (.string (bytes b.2)) ∧ Below w.heap.size w w'
  may : ∀ w, Calls Try.prog f3 #[a] w fun e w' => e = .returned (.bool (mayB b)) ∧ Below w.heap.size w w'
  decl : ∀ w, Calls Try.prog f4 #[a] w fun e w' => e = .returned (.agg #[.string (bytes (declA b).pre), .string (bytes (declA b).loc), .string (bytes (declA b).uri), .string (bytes (declA b).val)]) ∧ Below w.heap.size w w'
theorem bond_mets (b : Bd) : ∃ f1 f2 f3 f4, MetB (bondT b) (bondA b) b f1 f2 f3 f4 := by
  by_cases h : b.1 = []
  · rw [bondT_u h, bondA_u h]
    obtain ⟨p, u⟩ := b
    subst h
    exact ⟨_, _, _, _, met_name_u _, met_to_u _, met_may_u _, met_decl_u _, ent_name_u _, ent_to_u _, ent_may_u _, ent_decl_u _, rname_u _, rto_u _, rmay_u u, rdecl_u _⟩
  · rw [bondT_p h, bondA_p h]
    obtain ⟨p, u⟩ := b
    have e : declA (p, u) = ⟨xmlnsN, p, xmlnsU, u⟩ := if_neg h
    refine ⟨_, _, _, _, met_name_p _ _, met_to_p _ _, met_may_p _ _, met_decl_p _ _, ent_name_p _, ent_to_p _, ent_may_p _, ent_decl_p _, rname_p _ _, rto_p _ _, fun w => rmay_p p u w h, ?_⟩
    rw [e]
    exact rdecl_p _ _
end Go.Proofs.Ythhnpnjnlbjdjaa
