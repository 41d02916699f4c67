/- The program: the productions of each name. -/
import Derived.Test.YtbgnhegfabpjnaaGWin
import Derived.Deep.AppendLies
import Derived.Deep.RegionLaw
import Derived.Deep.RegionHeld3
namespace Go.Proofs.Ytbgnhegfabpjnaa
open Go.RowKit
set_option linter.unusedVariables false
set_option maxRecDepth 100000

/-- the productions of each name in memory -/
def OwnD (w : World) (D N : Nat) (own : Nat → List PdR) : Prop := D < w.heap.size ∧ ∀ n, n < N → ∃ v, w.cell? ⟨D, n, none⟩ = some v ∧ PdsM w v (own n)
theorem OwnD.below {w w' : World} {D N : Nat} {own : Nat → List PdR} (h : OwnD w D N own) (hb : Below w.heap.size w w') : OwnD w' D N own := by
  refine ⟨Nat.lt_of_lt_of_le h.1 hb.size, fun n hn => ?_⟩
  obtain ⟨v, h5, h6⟩ := h.2 n hn
  exact ⟨v, (hb.cell (p := ⟨D, n, none⟩) h.1).trans h5, h6.below hb⟩
theorem Try.infoProd : (Try.prog.info? 33).map (fun i => (i.zero, i.size, i.bytes)) = some (some (.agg #[.int .i64 0, .slice none 0 0, .int .i64 0]), 3, 40) := by kernel_rfl
theorem Try.infoProds : (Try.prog.info? 22).map (fun i => (i.zero, i.size, i.bytes)) = some (some (.slice none 0 0), 1, 24) := by kernel_rfl
theorem nilsS (m : Nat) : madeCells (Value.slice none 0 0).cells m = (Array.replicate m (Value.slice none 0 0)) := by
  apply Array.ext
  · simp [madeCells, Value.cells]
  · intro i h1 h2
    simp [madeCells, Value.cells, Nat.mod_one]
theorem makeProds (m : Nat) (hm : m ≤ 1000000) (W : World) : (Instr.makeSlice 41 (.int .i64 m) (.int .i64 m)).run Try.prog W = .ok (.slice (some ⟨W.heap.size, 0, none⟩) m m) (W.alloc (.cells (Array.replicate m (Value.slice none 0 0)) 22)) := by
  obtain ⟨i0, hi, hz0, hz1, hz2⟩ := infoParts Try.infoProds
  have := run_make W 41 22 i0 (.slice none 0 0) Try.underlying41 hi hz0 .i64 .i64 m m (by omega) (by omega) (by rw [hz2]; omega) (by omega)
  rw [this, hz1, nilsS]
  simp
/-- the cells of productions -/
def zcs (z : List (PdR × Value)) : List Value := z.flatMap fun q => [.int .i64 q.1.left, q.2, .int .i64 q.1.level]
theorem zcs_snoc (z : List (PdR × Value)) (q : PdR × Value) : zcs (z ++ [q]) = zcs z ++ [.int .i64 q.1.left, q.2, .int .i64 q.1.level] := by simp [zcs]
theorem zcs_get : ∀ (z : List (PdR × Value)) (j : Nat) (q : PdR × Value), z[j]? = some q → (zcs z)[j * 3]? = some (.int .i64 q.1.left) ∧ (zcs z)[j * 3 + 1]? = some q.2 ∧ (zcs z)[j * 3 + 2]? = some (.int .i64 q.1.level)
  | [], j, q, h => by simp at h
  | p :: z, 0, q, h => by
    obtain rfl : p = q := by simpa using h
    simp [zcs]
  | p :: z, j + 1, q, h => by
    have ih := zcs_get z j q (by simpa using h)
    have e : zcs (p :: z) = .int .i64 p.1.left :: p.2 :: .int .i64 p.1.level :: zcs z := by simp [zcs]
    rw [e]
    rw [show (j + 1) * 3 = j * 3 + 1 + 1 + 1 by omega, show j * 3 + 1 + 1 + 1 + 1 = (j * 3 + 1) + 1 + 1 + 1 by omega, show j * 3 + 1 + 1 + 1 + 2 = (j * 3 + 2) + 1 + 1 + 1 by omega]
    simpa only [List.getElem?_cons_succ] using ih
theorem zcs_len (z : List (PdR × Value)) : (zcs z).length = z.length * 3 := by
  induction z with
  | nil => rfl
  | cons p z ih => simp [zcs] at ih ⊢; omega
structure OpI (w0 w : World) (D N : Nat) (ps : List PdR) (k : Nat) (vs : List Value) (zs : Nat → List (PdR × Value)) : Prop where
  row : RowV w D 22 vs
  len : vs.length = N
  own : ∀ n, n < N → w.ownsRow (D + 1) 33 3 (vs.getD n .nilFunc) (zs n).length (zcs (zs n))
  apart : ∀ n m, n < N → m < N → n ≠ m → ∀ b, (vs.getD n .nilFunc).ownBlock = some b → (vs.getD m .nilFunc).ownBlock ≠ some b
  fst : ∀ n, n < N → (zs n).map Prod.fst = ownL (ps.take k) n
  rts : ∀ n, n < N → ∀ q ∈ zs n, IntsR w0 q.2 q.1.right
theorem ownL_take (ps : List PdR) (k : Nat) (hk : k < ps.length) (n : Nat) : ownL (ps.take (k + 1)) n = if (ps.getD k noPd).left = (n : Int) then ownL (ps.take k) n ++ [ps.getD k noPd] else ownL (ps.take k) n := by
  have e : ps.getD k noPd = ps[k] := by simp [List.getD, hk]
  rw [List.take_succ_eq_append_getElem hk, e]
  unfold ownL
  rw [List.filter_append]
  by_cases h : ps[k].left = (n : Int)
  · simp [h]
  · simp [h]
theorem OpI.zlen {w0 w : World} {D N : Nat} {ps : List PdR} {k : Nat} {vs : List Value} {zs : Nat → List (PdR × Value)} (h : OpI w0 w D N ps k vs zs) {n : Nat} (hn : n < N) : (zs n).length ≤ ps.length := by
  have := congrArg List.length (h.fst n hn)
  rw [List.length_map] at this
  rw [this]
  exact Nat.le_trans (List.length_filter_le _ _) (by rw [List.length_take]; exact Nat.min_le_right _ _)
theorem OpI.done {w0 w : World} {D N : Nat} {ps : List PdR} {k : Nat} {vs : List Value} {zs : Nat → List (PdR × Value)} (h : OpI w0 w D N ps ps.length vs zs) (hb : Below w0.heap.size w0 w) : OwnD w D N (ownL ps) := by
  refine ⟨h.row.lt, fun n hn => ⟨vs.getD n .nilFunc, ?_, ?_⟩⟩
  · rw [h.row.cell]
    have := h.len
    simp [List.getD, show n < vs.length by omega]
  · have hz := h.fst n hn
    rw [List.take_length] at hz
    have hl : (zs n).length = (ownL ps n).length := by rw [← hz, List.length_map]
    have ho := h.own n hn
    rcases ho.2 with ⟨e, h0⟩ | ⟨g, cap, cur, e, hB, hg, hcap, _⟩
    · exact ⟨none, 0, by rw [e, ← hl, h0], .inl (List.eq_nil_of_length_eq_zero (by omega))⟩
    · rw [e] at ho
      refine ⟨_, cap, by rw [e, hl], .inr ⟨g, 0, rfl, (Array.getElem?_eq_some_iff.1 hg).1, fun j hj => ?_⟩⟩
      have hjz : j < (zs n).length := by omega
      obtain ⟨q, hq⟩ : ∃ q, (zs n)[j]? = some q := ⟨(zs n)[j], by simp [hjz]⟩
      obtain ⟨c0, c1, c2⟩ := zcs_get _ _ _ hq
      have hp : (ownL ps n).getD j noPd = q.1 := by
        rw [← hz]
        simp [List.getD, hq]
      refine ⟨q.2, ?_⟩
      rw [hp, Nat.zero_add]
      exact ⟨(ho.cellAt _ (by omega)).trans c0, (ho.cellAt _ (by omega)).trans c1, (ho.cellAt _ (by omega)).trans c2, (h.rts n hn q (List.mem_of_getElem? hq)).below hb⟩
theorem OpI.below {w0 w w' : World} {D N : Nat} {ps : List PdR} {k : Nat} {vs : List Value} {zs : Nat → List (PdR × Value)} (h : OpI w0 w D N ps k vs zs) (hb : Below w.heap.size w w') : OpI w0 w' D N ps k vs zs :=
  ⟨(hb.block D h.row.lt).trans h.row, h.len, fun n hn => (h.own n hn).kept (row := none) ⟨hb.os, hb.tape, hb.output, hb.size, fun k hk _ => hb.block k hk⟩ (by cases hq : (vs.getD n Value.nilFunc).ownBlock <;> simp), h.apart, h.fst, h.rts⟩
theorem getD_set_ne {α : Type} (l : List α) (i j : Nat) (x d : α) (h : i ≠ j) : (l.set i x).getD j d = l.getD j d := by simp [List.getD, List.getElem?_set_ne h]
theorem getD_set_eq {α : Type} (l : List α) (i : Nat) (x d : α) (h : i < l.length) : (l.set i x).getD i d = x := by simp [List.getD, h]
/-- one production more -/
theorem OpI.step {w0 w3 w5 : World} {D N k lf g cap : Nat} {ps : List PdR} {vs : List Value} {zs : Nat → List (PdR × Value)} {rv : Value} {o : Obj} (h : OpI w0 w3 D N ps k vs zs) (hk : k < ps.length) (hlf : lf < N) (hl : (ps.getD k noPd).left = (lf : Int)) (hr : IntsR w0 rv (ps.getD k noPd).right)
    (hown : w5.ownsRow (D + 1) 33 3 (.slice (some ⟨g, 0, none⟩) ((zs lf).length + 1) cap) ((zs lf).length + 1) (zcs (zs lf) ++ [.int .i64 (ps.getD k noPd).left, rv, .int .i64 (ps.getD k noPd).level])) (hg : (w3.alloc o).grownBy w5 (vs.getD lf .nilFunc).ownBlock) (hat : (vs.getD lf .nilFunc).ownBlock = some g ∨ g = w3.heap.size + 1) :
    OpI w0 (w5.setCell ⟨D, lf, none⟩ (.slice (some ⟨g, 0, none⟩) ((zs lf).length + 1) cap)) D N ps (k + 1) (vs.set lf (.slice (some ⟨g, 0, none⟩) ((zs lf).length + 1) cap)) (fun n => if n = lf then zs lf ++ [(ps.getD k noPd, rv)] else zs n) := by
  have hDl := h.row.lt
  have hol : ∀ n, n < N → ∀ b, (vs.getD n .nilFunc).ownBlock = some b → D + 1 ≤ b ∧ b < w3.heap.size := fun n hn b hb => (h.own n hn).lt b hb
  have hs : w3.heap.size + 1 ≤ w5.heap.size := by have := hg.size; simpa using this
  have hbl : ∀ b, b < w3.heap.size → (vs.getD lf .nilFunc).ownBlock ≠ some b → w5.heap[b]? = w3.heap[b]? := fun b hb hne => (hg.block b (by simp; omega) (fun e => hne e.symm)).trans (Below.heap_alloc w3 o b hb)
  have hset : ∀ b, b ≠ D → (w5.setCell ⟨D, lf, none⟩ (.slice (some ⟨g, 0, none⟩) ((zs lf).length + 1) cap)).heap[b]? = w5.heap[b]? := fun b hb => Below.heap_setCell _ _ _ _ (by simpa using hb)
  have hDne : (vs.getD lf .nilFunc).ownBlock ≠ some D := fun e => by have := hol lf hlf D e; omega
  have hrow5 : RowV w5 D 22 vs := (hbl D hDl hDne).trans h.row
  have hgD : g ≠ D := by
    rcases hat with e | e
    · have := hol lf hlf g e; omega
    · omega
  refine ⟨hrow5.set lf _, by simp [h.len], fun n hn => ?_, fun n m hn hm hnm b hb => ?_, fun n hn => ?_, fun n hn q hq => ?_⟩
  · by_cases e : n = lf
    · subst e
      rw [getD_set_eq _ _ _ _ (by rw [h.len]; exact hn)]
      simp only [if_true, List.length_append, List.length_cons, List.length_nil, zcs_snoc]
      refine ⟨hown.1, ?_⟩
      rcases hown.2 with ⟨e, _⟩ | ⟨g', cap', cur, e, k1, k2, k3⟩
      · simp at e
      · simp only [Value.slice.injEq, Option.some.injEq, Addr.mk.injEq, and_true, true_and] at e
        obtain ⟨rfl, rfl⟩ := e
        exact .inr ⟨g, cap, cur, rfl, k1, (hset g hgD).trans k2, k3⟩
    · rw [getD_set_ne _ _ _ _ _ (Ne.symm e)]
      simp only [if_neg e]
      have ho := h.own n hn
      refine ⟨ho.1, ?_⟩
      rcases ho.2 with h0 | ⟨g', cap', cur, e', k1, k2, k3⟩
      · exact .inl h0
      · refine .inr ⟨g', cap', cur, e', k1, ?_, k3⟩
        have hb1 : (vs.getD n .nilFunc).ownBlock = some g' := by rw [e']; rfl
        rw [hset g' (by omega), hbl g' (Array.getElem?_eq_some_iff.1 k2).1 (fun e2 => h.apart n lf hn hlf e g' hb1 e2)]
        exact k2
  · have key : ∀ n', n' < N → n' ≠ lf → ∀ b, (vs.getD n' .nilFunc).ownBlock = some b → g ≠ b := fun n' hn' hne b hb e => by
      rcases hat with h1 | h1
      · exact h.apart n' lf hn' hlf hne b hb (by rw [h1, e])
      · have := hol n' hn' b hb; omega
    by_cases e1 : n = lf
    · subst e1
      rw [getD_set_eq _ _ _ _ (by rw [h.len]; exact hn)] at hb
      rw [getD_set_ne _ _ _ _ _ hnm]
      have hb' : g = b := by simpa [Value.ownBlock] using hb
      intro e2
      exact key m hm (Ne.symm hnm) b e2 hb'
    · rw [getD_set_ne _ _ _ _ _ (Ne.symm e1)] at hb
      by_cases e2 : m = lf
      · subst e2
        rw [getD_set_eq _ _ _ _ (by rw [h.len]; exact hm)]
        intro e3
        exact key n hn e1 b hb (by simpa [Value.ownBlock] using e3)
      · rw [getD_set_ne _ _ _ _ _ (Ne.symm e2)]
        exact h.apart n m hn hm hnm b hb
  · rw [ownL_take ps k hk n, hl]
    by_cases e : n = lf
    · subst e; simp [h.fst n hn]
    · show List.map Prod.fst (if n = lf then _ else zs n) = _
      rw [if_neg e, if_neg (by omega)]; exact h.fst n hn
  · by_cases e : n = lf
    · subst e
      simp only [if_true] at hq
      rcases List.mem_append.1 hq with hq | hq
      · exact h.rts n hn q hq
      · obtain rfl : q = (ps.getD k noPd, rv) := by simpa using hq
        exact hr
    · simp only [if_neg e] at hq
      exact h.rts n hn q hq

end Go.Proofs.Ytbgnhegfabpjnaa
