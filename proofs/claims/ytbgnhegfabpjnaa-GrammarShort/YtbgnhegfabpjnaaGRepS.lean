/- The program: a sentence again and again. -/
import Derived.Test.YtbgnhegfabpjnaaGRep
import Derived.Test.YtbgnhegfabpjnaaGWkT
namespace Go.Proofs.Ytbgnhegfabpjnaa
open Go.RowKit
set_option linter.unusedVariables false
set_option maxRecDepth 100000

/-- copy where an element takes two cells -/
theorem copy_two (P : Program) (w : World) (dT sT ty elem : TypeId) (g o dLen dCap : Nat) (a : Addr) (sLen sCap : Nat) (cur : List Value) (t : TypeId) (cs : List Value) (m : Nat)
    (hu : P.underlying dT = some (.slice elem)) (hs : (P.info? elem).map (·.size) = some 2) (hg : w.heap[g]? = some (.cells cur.toArray t (0, 0))) (hm : m = Nat.min sLen dLen) (hn : cs.length = m * 2)
    (hsrc : ∀ j v, cs[j]? = some v → w.cell? (a.add j) = some v) (hfit : o + cs.length ≤ cur.length) (h1 : ∀ v ∈ cs, v.oneCell' = true) :
    (Builtin.copy_ #[dT, sT] ty #[.slice (some ⟨g, o, none⟩) dLen dCap, .slice (some a) sLen sCap]).run P w = .ok (goInt m) (w.setRow g (splice cur o cs).toArray) := by
  have hl := run_loadCells_list (P := P) w a cs hsrc
  have hst := run_storeCells_at P g o t cs 0 cur.toArray w hg (by simpa using hfit) h1
  cases hq : P.info? elem with
  | none => simp [hq] at hs
  | some i =>
    have hi : i.size = 2 := by simpa [hq] using hs
    simp [Builtin.copy_, run_underlying hu, Builtin.lenOf, Builtin.firstCells, sizeOf, typeInfo, hq, hi, ← hm, hl, hst, splice, ← hn]

open Go.RowKit in
theorem wpList_copy_two {P : Program} {w : World} {ops : Array Oper} {rest : List Oper} {o : Oper} {a : Act} {Q : Exit → Act → World → Prop} (hgd : o.guard = none) (d s : Operand) (dT sT : TypeId)
    (ho : o.op = .call { callee := .builtin .copy, args := #[d, s], argTypes := #[dT, sT] }) (elem : TypeId) (hu : P.underlying dT = some (.slice elem)) (hs : (P.info? elem).map (·.size) = some 2)
    (g off dLen dCap : Nat) (ad : Addr) (sLen sCap : Nat) (hd : a.eval d = .slice (some ⟨g, off, none⟩) dLen dCap) (hsv : a.eval s = .slice (some ad) sLen sCap) (cur : List Value) (t : TypeId) (cs : List Value) (m : Nat)
    (hg : w.heap[g]? = some (.cells cur.toArray t (0, 0))) (hm : m = Nat.min sLen dLen) (hn : cs.length = m * 2)
    (hsrc : ∀ j v, cs[j]? = some v → w.cell? (ad.add j) = some v) (hfit : off + cs.length ≤ cur.length) (h1 : ∀ v ∈ cs, v.oneCell' = true) (B : Nat) (w0 : World) (hb : Below B w0 w) (hB : B ≤ g)
    (h : ∀ w', Hid (w'.heap[g]? = some (.cells (splice cur off cs).toArray t (0, 0))) → Below B w0 w' → wpList P ops Q rest (a.put o.dst (goInt m)) w') : wpList P ops Q (o :: rest) a w := by
  refine wpList_plain hgd fun K hK => ?_
  have hrun := copy_two P w dT sT o.type elem g off dLen dCap ad sLen sCap cur t cs m hu hs hg hm hn hsrc hfit h1
  unfold Oper.wp
  simp [execOp, ho, resolve, invoke, builtin, hd, hsv, hrun, Result.andThen]
  exact hK _ _ (h _ (show _ = _ by simpa using setRow_heap w g _ _ t _ hg) (below_setRow hb hB _))
open Go.RowKit in
theorem step_copy_two {P : Program} {ops : Array Oper} {o : Oper} {a : Act} {w : World} {K : Act → World → Prop} {Q : Exit → Act → World → Prop} {E : Prop} (hgd : o.guard = none) (d s : Operand) (dT sT : TypeId)
    (ho : o.op = .call { callee := .builtin .copy, args := #[d, s], argTypes := #[dT, sT] }) (elem : TypeId) (hu : P.underlying dT = some (.slice elem)) (hs : (P.info? elem).map (·.size) = some 2)
    (g off dLen dCap : Nat) (ad : Addr) (sLen sCap : Nat) (hd : a.eval d = .slice (some ⟨g, off, none⟩) dLen dCap) (hsv : a.eval s = .slice (some ad) sLen sCap) (cur : List Value) (t : TypeId) (cs : List Value) (m : Nat)
    (hg : w.heap[g]? = some (.cells cur.toArray t (0, 0))) (hm : m = Nat.min sLen dLen) (hn : cs.length = m * 2)
    (hsrc : ∀ j v, cs[j]? = some v → w.cell? (ad.add j) = some v) (hfit : off + cs.length ≤ cur.length) (h1 : ∀ v ∈ cs, v.oneCell' = true) (B : Nat) (w0 : World) (hb : Below B w0 w) (hB : B ≤ g)
    (h : ∀ w', Hid (w'.heap[g]? = some (.cells (splice cur off cs).toArray t (0, 0))) → Below B w0 w' → K (a.put o.dst (goInt m)) w') :
    if Region.wanted o (yielded ops a.tmps) = true then Oper.wp P o a w K Q else E := by
  have hw : Region.wanted o (yielded ops a.tmps) = true := by simp [Region.wanted, hgd]
  rw [if_pos hw]
  have hrun := copy_two P w dT sT o.type elem g off dLen dCap ad sLen sCap cur t cs m hu hs hg hm hn hsrc hfit h1
  unfold Oper.wp
  simp [execOp, ho, resolve, invoke, builtin, hd, hsv, hrun, Result.andThen]
  exact h _ (show _ = _ by simpa using setRow_heap w g _ _ t _ hg) (below_setRow hb hB _)
/-- the first n of N elements of two cells are these -/
def rep2 (x y z u : Value) (n N : Nat) : List Value := (List.replicate n [x, y]).flatten ++ (List.replicate (N - n) [z, u]).flatten
theorem flat_len (n : Nat) (x y : Value) : ((List.replicate n [x, y]).flatten).length = n * 2 := by
  induction n with
  | zero => rfl
  | succ n ih => rw [List.replicate_succ, List.flatten_cons, List.length_append, ih]; simp; omega
theorem rep2_len (x y z u : Value) (n N : Nat) (h : n ≤ N) : (rep2 x y z u n N).length = N * 2 := by
  unfold rep2; rw [List.length_append, flat_len, flat_len]; omega
theorem flat_add (m k : Nat) (x y : Value) : (List.replicate (m + k) [x, y]).flatten = (List.replicate m [x, y]).flatten ++ (List.replicate k [x, y]).flatten := by
  rw [← List.replicate_append_replicate, List.flatten_append]
theorem rep2_splice (x y z u : Value) (n m N : Nat) (h : n + m ≤ N) : splice (rep2 x y z u n N) (n * 2) ((List.replicate m [x, y]).flatten) = rep2 x y z u (n + m) N := by
  unfold splice rep2
  have e1 : (List.replicate (N - n) [z, u]).flatten = (List.replicate m [z, u]).flatten ++ (List.replicate (N - (n + m)) [z, u]).flatten := by
    rw [← flat_add, show m + (N - (n + m)) = N - n by omega]
  rw [List.take_append_of_le_length (by rw [flat_len]; exact Nat.le_refl _), List.take_of_length_le (by rw [flat_len]; exact Nat.le_refl _), e1, flat_len, flat_add n m, List.append_assoc]
  congr 2
  rw [← List.append_assoc, List.drop_append, List.drop_eq_nil_of_le (by rw [List.length_append, flat_len, flat_len]; exact Nat.le_refl _), List.nil_append, List.length_append, flat_len, flat_len, Nat.sub_self, List.drop_zero]
theorem flat_get (x y : Value) : ∀ (n j : Nat), j < n * 2 → ((List.replicate n [x, y]).flatten)[j]? = some (if j % 2 = 0 then x else y)
  | 0, j, h => by omega
  | n + 1, j, h => by
    rw [List.replicate_succ, List.flatten_cons]
    match j with
    | 0 => simp
    | 1 => simp
    | j + 2 =>
      have ih := flat_get x y n j (by omega)
      rw [List.getElem?_append_right (by simp)]
      simp only [List.length_cons, List.length_nil, Nat.zero_add, Nat.add_sub_cancel]
      rw [ih, show (j + 2) % 2 = j % 2 by omega]
theorem rep2_get (x y z u : Value) (n N j : Nat) (h : j < n * 2) : (rep2 x y z u n N)[j]? = some (if j % 2 = 0 then x else y) := by
  unfold rep2
  rw [List.getElem?_append_left (by rw [flat_len]; exact h)]
  exact flat_get x y n j h
theorem flat_mem (x y v : Value) (n : Nat) (h : v ∈ (List.replicate n [x, y]).flatten) : v = x ∨ v = y := by
  obtain ⟨l, hl, hv⟩ := List.mem_flatten.1 h
  rw [List.eq_of_mem_replicate hl] at hv
  simpa using hv

end Go.Proofs.Ytbgnhegfabpjnaa
