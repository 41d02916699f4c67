/- Texts of the proof, put together: ALen, As. -/
import Derived.Test.YthbglakncijahaaGreatDoorAw44
import Derived.Test.YthbglakncijahaaGreatDoorProg
import Derived.WalkKit
import Derived.LaidEql
import Derived.Stop.Asserts
import Derived.RowKitTokens
namespace Go.Proofs.YthbglakncijahaaGreatDoor
open Go.RowKit
set_option linter.unusedVariables false
set_option maxRecDepth 100000

def bdE (t : Ex) : Nat := 2 * lngE t + 64 * wtE t
def bdL (ks : List Ex) : Nat := 2 * lngL ks + 64 * wtL ks
theorem bdE_eq (t : Ex) : bdE t = (if t.kind = 2 then 2 * t.text.size else 0) + 64 + bdL t.kids := by
  unfold bdE bdL
  rw [lngE_eq, wtE_eq]
  split <;> omega
theorem bdL_append (a b : List Ex) : bdL (a ++ b) = bdL a + bdL b := by unfold bdL; rw [lngL_append, wtL_append]; omega
theorem bdL_one (t : Ex) : bdL [t] = bdE t := by unfold bdL bdE; rw [lngL_one, wtL_one]
theorem bdE_pos (t : Ex) : 64 ≤ bdE t := by rw [bdE_eq]; omega
theorem nth_lenS {ks : List Ex} (h : ∀ k ∈ ks, ∀ lv, (wrU k lv).length ≤ bdE k) (i lv : Nat) : (nthU (ks.map wrU) i lv).length ≤ (if i < ks.length then bdE (ks.getD i nilE) else 0) := by
  unfold nthU
  by_cases hi : i < ks.length
  · rw [if_pos hi]
    have e : (ks.map wrU).getD i (fun _ => []) = wrU (ks.getD i nilE) := by simp [List.getD, hi]
    rw [e]
    exact h _ (getD_mem hi) lv
  · rw [if_neg hi]
    have e : (ks.map wrU).getD i (fun _ => []) = fun _ => [] := by simp [List.getD, hi]
    rw [e]
    simp
theorem row_lenS : ∀ (ks : List Ex), (∀ k ∈ ks, ∀ lv, (wrU k lv).length ≤ bdE k - 4) → (rowU (ks.map wrU)).length ≤ bdL ks
  | [], _ => by simp [rowU]
  | [a], h => by
    have := h a (by simp) 0
    have e : bdL [a] = bdE a := bdL_one a
    rw [e]
    show (wrU a 0).length ≤ _
    omega
  | a :: b :: l, h => by
    have h1 := h a (by simp) 0
    have h2 := row_lenS (b :: l) (fun k hk => h k (List.mem_cons_of_mem _ hk))
    have e : bdL (a :: b :: l) = bdE a + bdL (b :: l) := by rw [show a :: b :: l = [a] ++ (b :: l) from rfl, bdL_append, bdL_one]
    have hp := bdE_pos a
    rw [rowU_map, e]
    simp only [List.length_append, List.length_singleton]
    omega
/-- 64 bytes for each expression, and two for each byte of a text, are enough -/
theorem bar_lenS {t : Ex} (hw : wellE t = true) (hN : NmA t) (ih : ∀ k ∈ t.kids, ∀ lv, (wrU k lv).length ≤ bdE k - 4) : (barE t).length + 6 ≤ bdE t := by
  have hwt := bdE_eq t
  obtain ⟨his, hsh⟩ := wellE_is hw
  have hnum := hN.num
  have ih2 : ∀ k ∈ t.kids, ∀ lv, (wrU k lv).length ≤ bdE k := fun k hk lv => by have := ih k hk lv; omega
  have hrow := row_lenS t.kids ih
  have hn := fun i lv => nth_lenS ih2 i lv
  obtain ⟨i, kind, num, text, kids⟩ := t
  simp only at his hsh ih hnum hwt hrow hn
  have hit : ∀ z : Int, -9223372036854775808 ≤ z → z ≤ 9223372036854775807 → (Lib.itoa z).length ≤ 21 := fun z h0 h1 => Lib.itoa_length_le z h0 h1
  have h21 := hit num hnum.1 hnum.2
  unfold barE
  simp only
  unfold shapeB at hsh
  unfold bareU
  by_cases k1 : kind = 1
  · rw [if_pos k1]; omega
  rw [if_neg k1] at hsh ⊢
  by_cases k3 : kind = 3
  · subst k3; rw [if_neg (by omega), if_pos rfl]; simp; omega
  rw [if_neg k3] at hsh
  by_cases hz : (num != 0) = true
  · rw [if_pos hz] at hsh; cases hsh
  rw [if_neg hz] at hsh
  by_cases k2 : kind = 2
  · rw [if_pos k2] at hsh hwt ⊢
    simp only [Bool.and_eq_true, decide_eq_true_eq, beq_iff_eq] at hsh
    have h1 := esc_len text.data.toList
    have h2 : text.data.toList.length = text.size := by rw [Array.length_toList]; rfl
    simp only [List.length_cons, List.length_append, List.length_nil]
    omega
  rw [if_neg k2] at hsh ⊢
  rw [if_neg k3]
  by_cases k4 : kind = 4
  · subst k4
    rw [if_pos rfl] at hsh
    simp only [Bool.and_eq_true] at hsh
    have := name_len hsh.1
    rw [if_neg (by omega), if_neg (by omega), if_neg (by omega), if_neg (by omega), if_neg (by omega), if_neg (by omega)]
    omega
  rw [if_neg k4] at hsh
  by_cases k5 : kind = 5
  · rw [if_pos k5] at hsh ⊢
    simp only [Bool.and_eq_true, beq_iff_eq] at hsh
    obtain ⟨a, b, rfl⟩ := two_kids (show kids.length = 2 by omega)
    have h1 := name_len hsh.1
    have q0 := hn 0 0
    have q1 := hn 1 0
    have e : bdL [a, b] = bdE a + bdE b := by rw [show [a, b] = [a] ++ [b] from rfl, bdL_append, bdL_one, bdL_one]
    simp only [List.length_append, List.length_cons, List.length_nil, Nat.zero_add, Nat.reduceAdd, Nat.reduceLT, if_true, List.getD_cons_zero, List.getD_cons_succ] at q0 q1 ⊢
    omega
  rw [if_neg k5] at hsh ⊢
  by_cases k7 : kind = 7
  · subst k7
    rw [if_pos rfl] at hsh
    rw [if_neg (by omega), if_pos rfl]
    simp only [Bool.and_eq_true, decide_eq_true_eq, beq_iff_eq] at hsh
    obtain ⟨a, b, rfl⟩ := two_kids (show kids.length = 2 by omega)
    have h1 := op_len hsh.1
    have q0 := hn 0 (if tightU 7 text = 1 then 2 else tightU 7 text)
    have q1 := hn 1 (tightU 7 text + 1)
    have e : bdL [a, b] = bdE a + bdE b := by rw [show [a, b] = [a] ++ [b] from rfl, bdL_append, bdL_one, bdL_one]
    simp only [List.length_append, List.length_cons, List.length_nil, Nat.zero_add, Nat.reduceAdd, Nat.reduceLT, if_true, List.getD_cons_zero, List.getD_cons_succ] at q0 q1 ⊢
    omega
  rw [if_neg k7] at hsh
  by_cases k10 : kind = 10
  · subst k10
    rw [if_pos rfl] at hsh
    rw [if_neg (by omega), if_neg (by omega), if_neg (by omega), if_neg (by omega), if_pos rfl]
    simp only [Bool.and_eq_true, decide_eq_true_eq, beq_iff_eq] at hsh
    have h1 := fun_len hsh.1
    simp only [List.length_append, List.length_cons, List.length_nil]
    omega
  rw [if_neg k10] at hsh
  by_cases he : (text.toList == []) = false
  · rw [if_pos he] at hsh; cases hsh
  rw [if_neg he] at hsh
  by_cases k6 : kind = 6
  · rw [if_pos k6] at hsh ⊢
    rw [beq_iff_eq] at hsh
    obtain ⟨a, b, c, rfl⟩ := three_kids (show kids.length = 3 by omega)
    have q0 := hn 0 0
    have q1 := hn 1 0
    have q2 := hn 2 0
    have e : bdL [a, b, c] = bdE a + bdE b + bdE c := by rw [show [a, b, c] = [a] ++ ([b] ++ [c]) from rfl, bdL_append, bdL_append, bdL_one, bdL_one, bdL_one]; omega
    simp only [List.length_append, List.length_cons, List.length_nil, Nat.zero_add, Nat.reduceAdd, Nat.reduceLT, if_true, List.getD_cons_zero, List.getD_cons_succ] at q0 q1 q2 ⊢
    omega
  rw [if_neg k6] at hsh ⊢
  rw [if_neg k7]
  by_cases k8 : kind = 8
  · rw [if_pos k8] at hsh ⊢
    rw [beq_iff_eq] at hsh
    obtain ⟨a, rfl⟩ := one_kid (show kids.length = 1 by omega)
    have q0 := hn 0 4
    have e : bdL [a] = bdE a := bdL_one a
    simp only [List.length_cons, List.length_nil, Nat.zero_add, Nat.reduceLT, if_true, List.getD_cons_zero] at q0 ⊢
    omega
  rw [if_neg k8] at hsh ⊢
  rw [beq_iff_eq] at hsh
  rw [if_pos hsh]
  simp only [List.length_append, List.length_cons, List.length_nil]
  omega
theorem wr_lenS : ∀ t : Ex, wellE t = true → NmA t → ∀ lv, (wrU t lv).length ≤ bdE t - 4 := by
  intro t
  induction t using Ex.ind with
  | _ t ih =>
    intro hw hN lv
    have := bar_lenS hw hN fun k hk lv => ih k hk (wellE_kid hw hk) (hN.kid hk) lv
    rw [wrU_eq]
    split
    · simp; omega
    · omega


/-- so a text is not too long, if the texts in it have few bytes -/
theorem written_fits {t : Ex} (hk : okX t = true) (hN : NmA t) (hl : lngE t ≤ 16000) : (wrU t 0).length ≤ 65536 := by
  unfold okX at hk
  rw [Bool.and_eq_true, decide_eq_true_eq] at hk
  have := wr_lenS t hk.1 hN 0
  unfold bdE at this
  omega

end Go.Proofs.YthbglakncijahaaGreatDoor

namespace Go.Proofs.YthbglakncijahaaGreatDoor
open Go.RowKit Go.Extern.Stop Go.Stop Go.Extern
set_option linter.unusedVariables false
set_option maxRecDepth 100000

theorem Tryz.valueOfP (t : Addr) (w : World) : (ReflectliteValue.unpack (.iface 112 (.pointer (some t)))).run Tryz.prog w
    = .ok (.agg #[.pointer (some ⟨16, 112, none⟩), .pointer (some ⟨w.heap.size, 0, none⟩), .int .u64 150]) (w.alloc (.cells #[.pointer (some t)] 112)) := by kernel_rfl
theorem Tryz.typeP (a : Addr) (w : World) : (ReflectliteValue.methodAny (ReflectliteValue.valueError "reflectlite.Value.Type" 0) (fun t _ _ _ => ReflectliteType.toType t) #[.agg #[.pointer (some ⟨16, 112, none⟩), .pointer (some a), .int .u64 150]]).run Tryz.prog w
    = .ok (.iface 234 (.agg #[.pointer (some ⟨16, 112, none⟩)])) w := by kernel_rfl
theorem Tryz.methodKind (h : Value) (w : World) : (Go.method 431 234 (.agg #[h]) "Kind").run Tryz.prog w = .ok (224, h) w := by kernel_rfl
theorem Tryz.kindP (w : World) : ((ReflectliteType.abiMethod fun t => (fun a : Nat => Value.int IntKind.u8 (a : Int)) <$> Rtype.kind t) #[.pointer (some ⟨16, 112, none⟩)]).run Tryz.prog w = .ok (.int .u8 22) w := by kernel_rfl
theorem Tryz.kindF (w : World) : ((ReflectliteType.abiMethod fun t => (fun a : Nat => Value.int IntKind.u8 (a : Int)) <$> Rtype.kind t) #[.pointer (some ⟨16, 81, none⟩)]).run Tryz.prog w = .ok (.int .u8 22) w := by kernel_rfl

theorem rlm (z : Sem Value) (f : TypeId → Addr → Nat → Nat → Sem Value) (v : Value) :
    ReflectliteValue.method z f #[v] = (do match ← ReflectliteValue.parts v with | none => z | some (t, a, fl) => f t a fl (fl % 32)) := rfl
theorem Tryz.partsP (a : Addr) (w : World) : (ReflectliteValue.parts (.agg #[.pointer (some ⟨16, 112, none⟩), .pointer (some a), .int .u64 150])).run Tryz.prog w = .ok (some (112, a, 150)) w := by kernel_rfl
theorem Tryz.isNilP (a p : Addr) (W : World) (ha : W.cell? a = some (.pointer (some p))) :
    (ReflectliteValue.method (ReflectliteValue.valueError "reflectlite.Value.IsNil" 0) ReflectliteValue.isNil #[.agg #[.pointer (some ⟨16, 112, none⟩), .pointer (some a), .int .u64 150]]).run Tryz.prog W = .ok (.bool false) W := by
  rw [rlm]
  simp only [Sem.run_bind, Tryz.partsP, Result.andThen]
  simp [ReflectliteValue.isNil, loadVar, isAgg, underlying, Tryz.underlying112, ha, Result.andThen]

theorem Tryz.methodElem (h : Value) (w : World) : (Go.method 431 234 (.agg #[h]) "Elem").run Tryz.prog w = .ok (252, .agg #[h]) w := by kernel_rfl
theorem Tryz.methodImplements (h : Value) (w : World) : (Go.method 431 234 (.agg #[h]) "Implements").run Tryz.prog w = .ok (253, .agg #[h]) w := by kernel_rfl
theorem Tryz.methodAssignableTo (h : Value) (w : World) : (Go.method 431 234 (.agg #[h]) "AssignableTo").run Tryz.prog w = .ok (250, .agg #[h]) w := by kernel_rfl
theorem Tryz.elemP (w : World) : (ReflectliteType.method ReflectliteType.elem #[.agg #[.pointer (some ⟨16, 112, none⟩)]]).run Tryz.prog w = .ok (.iface 234 (.agg #[.pointer (some ⟨16, 81, none⟩)])) w := by kernel_rfl
theorem Tryz.implementsF (w : World) : (ReflectliteType.relation "Implements" ReflectliteType.implements_ #[.agg #[.pointer (some ⟨16, 81, none⟩)], .iface 234 (.agg #[.pointer (some ⟨16, 28, none⟩)])]).run Tryz.prog w = .ok (.bool true) w := by kernel_rfl
theorem Tryz.typeOfF (v : Value) (w : World) : (ReflectliteType.typeOf #[.iface 81 v]).run Tryz.prog w = .ok (.iface 234 (.agg #[.pointer (some ⟨16, 81, none⟩)])) w := by kernel_rfl
theorem Tryz.typeOfE (v : Value) (w : World) : (ReflectliteType.typeOf #[.iface 294 v]).run Tryz.prog w = .ok (.iface 234 (.agg #[.pointer (some ⟨16, 294, none⟩)])) w := by kernel_rfl
theorem Tryz.assignableF (w : World) : (ReflectliteType.relation "AssignableTo" ReflectliteType.assignableTo #[.agg #[.pointer (some ⟨16, 81, none⟩)], .iface 234 (.agg #[.pointer (some ⟨16, 81, none⟩)])]).run Tryz.prog w = .ok (.bool true) w := by kernel_rfl
theorem Tryz.assignableE (w : World) : (ReflectliteType.relation "AssignableTo" ReflectliteType.assignableTo #[.agg #[.pointer (some ⟨16, 294, none⟩)], .iface 234 (.agg #[.pointer (some ⟨16, 81, none⟩)])]).run Tryz.prog w = .ok (.bool false) w := by kernel_rfl
theorem Tryz.valueOfF (e : Addr) (w : World) : (ReflectliteValue.unpack (.iface 81 (.pointer (some e)))).run Tryz.prog w
    = .ok (.agg #[.pointer (some ⟨16, 81, none⟩), .pointer (some ⟨w.heap.size, 0, none⟩), .int .u64 150]) (w.alloc (.cells #[.pointer (some e)] 81)) := by kernel_rfl
theorem Tryz.elemOfP (w : World) : (Rtype.elem? 112).run Tryz.prog w = .ok (some 81) w := by kernel_rfl
theorem Tryz.mkF (p : Addr) (w : World) : (ReflectliteValue.mk 81 p ReflectliteValue.flagAddr).run Tryz.prog w = .ok (.agg #[.pointer (some ⟨16, 81, none⟩), .pointer (some p), .int .u64 406]) w := by kernel_rfl
theorem Tryz.elemVP (a p : Addr) (W : World) (ha : W.cell? a = some (.pointer (some p))) :
    (ReflectliteValue.method (ReflectliteValue.valueError "reflectlite.Value.Elem" 0) ReflectliteValue.elem #[.agg #[.pointer (some ⟨16, 112, none⟩), .pointer (some a), .int .u64 150]]).run Tryz.prog W
      = .ok (.agg #[.pointer (some ⟨16, 81, none⟩), .pointer (some p), .int .u64 406]) W := by
  rw [rlm]
  simp only [Sem.run_bind, Tryz.partsP, Result.andThen]
  simp [ReflectliteValue.elem, loadVar, isAgg, underlying, Tryz.underlying112, ha, Result.andThen, Tryz.elemOfP, Tryz.mkF]
theorem Tryz.partsFa (a : Addr) (w : World) : (ReflectliteValue.parts (.agg #[.pointer (some ⟨16, 81, none⟩), .pointer (some a), .int .u64 406])).run Tryz.prog w = .ok (some (81, a, 406)) w := by kernel_rfl
theorem Tryz.partsF (a : Addr) (w : World) : (ReflectliteValue.parts (.agg #[.pointer (some ⟨16, 81, none⟩), .pointer (some a), .int .u64 150])).run Tryz.prog w = .ok (some (81, a, 150)) w := by kernel_rfl
theorem Tryz.directF (w : World) : (Rtype.directlyAssignable 81 81).run Tryz.prog w = .ok true w := by kernel_rfl
theorem set_two {motive : Array Value → Sort _} (v x : Value) (h1 : (v x : Value) → motive #[v, x]) (h2 : (x : Array Value) → motive x) : ReflectliteValue.set.match_3 motive #[v, x] h1 h2 = h1 v x := rfl
theorem Tryz.setF (ta b e : Addr) (old : Value) (W : World) (hb : W.cell? b = some (.pointer (some e))) (ht : W.cell? ta = some old) (hf : W.frozen? ta = false) :
    (ReflectliteValue.set #[.agg #[.pointer (some ⟨16, 81, none⟩), .pointer (some ta), .int .u64 406], .agg #[.pointer (some ⟨16, 81, none⟩), .pointer (some b), .int .u64 150]]).run Tryz.prog W
      = .ok (.tuple #[]) (W.setCell ta (.pointer (some e))) := by
  delta ReflectliteValue.set
  rw [set_two]
  simp only [Sem.run_bind, Tryz.partsFa, Tryz.partsF, Result.andThen]
  simp [ReflectliteValue.flagAddr, loadVar, isAgg, underlying, Tryz.underlying81, hb, Result.andThen, Tryz.directF, storeVar, Value.cells, storeCells, Addr.add]
  rw [run_store Tryz.prog W ta _ _ (by rfl)]
  simp [ht, hf]
theorem Tryz.noAsE (v : Value) (xT : TypeId) (w : World) : (Instr.typeAssert (.iface 294 v) xT 238 true).run Tryz.prog w = .ok (.tuple #[.nilIface, .bool false]) w := run_typeAssert_lacksB Tryz.underlying238 (by kernel_rfl) (by kernel_rfl) v xT w
theorem Tryz.noUnwrapA (v : Value) (xT : TypeId) (w : World) : (Instr.typeAssert (.iface 294 v) xT 241 true).run Tryz.prog w = .ok (.tuple #[.nilIface, .bool false]) w := run_typeAssert_lacksB Tryz.underlying241 (by kernel_rfl) (by kernel_rfl) v xT w
theorem Tryz.noUnwrapsA (v : Value) (xT : TypeId) (w : World) : (Instr.typeAssert (.iface 294 v) xT 243 true).run Tryz.prog w = .ok (.tuple #[.nilIface, .bool false]) w := run_typeAssert_lacksB Tryz.underlying243 (by kernel_rfl) (by kernel_rfl) v xT w

end Go.Proofs.YthbglakncijahaaGreatDoor
