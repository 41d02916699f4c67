/- Texts of the proof, put together: VPat. -/
import Derived.Test.YtbjohedenfindaaGreatDoorPw29
import Derived.Test.YtbjohedenfindaaGreatDoorPw18
import Derived.Deep.RegionHeld3
import Derived.Deep.RegionLaw
import Derived.Deep.AppendLies
namespace Go.Proofs.YtbjohedenfindaaGreatDoor
open Go.RowKit
set_option linter.unusedVariables false
set_option maxRecDepth 100000

structure PartP where
  kind : Int
  mn : Int
  mx : Int
  set : List Rg
  kids : List Int
def noPart : PartP := ⟨0, 0, 0, [], []⟩
def kidO (acc : List Re) (k : Int) : Option Re := if k < 0 ∨ (acc.length : Int) ≤ k then none else acc[k.toNat]?
def mkRe (acc : List Re) (p : PartP) : Re := ⟨p.kind, p.set, p.mn, p.mx, p.kids.map (kidO acc)⟩
def allRe (ps : List PartP) : List Re := ps.foldl (fun acc p => acc ++ [mkRe acc p]) []
theorem allRe_take (ps : List PartP) (i : Nat) (h : i < ps.length) : allRe (ps.take (i + 1)) = allRe (ps.take i) ++ [mkRe (allRe (ps.take i)) (ps.getD i noPart)] := by
  unfold allRe
  rw [List.take_succ_eq_append_getElem h, List.foldl_append]
  simp [h]
theorem foldl_len (ps : List PartP) : ∀ acc : List Re, (ps.foldl (fun acc p => acc ++ [mkRe acc p]) acc).length = acc.length + ps.length := by
  induction ps with
  | nil => intro acc; simp
  | cons p ps ih => intro acc; rw [List.foldl_cons, ih]; simp; omega
theorem allRe_len (ps : List PartP) : (allRe ps).length = ps.length := by unfold allRe; rw [foldl_len]; simp

/-- numbers in memory -/
def IntsR (w : World) (v : Value) (l : List Int) : Prop := ∃ a c, v = .slice a l.length c ∧ (l = [] ∨ ∃ g off, a = some ⟨g, off, none⟩ ∧ g < w.heap.size ∧ ∀ j, j < l.length → w.cell? ⟨g, off + j, none⟩ = some (.int .i64 (l.getD j 0)))
/-- a part in memory -/
structure PartR (w : World) (b off : Nat) (p : PartP) (sv kv : Value) : Prop where
  c0 : w.cell? ⟨b, off, none⟩ = some (.int .i64 p.kind)
  c1 : w.cell? ⟨b, off + 1, none⟩ = some (.int .i64 p.mn)
  c2 : w.cell? ⟨b, off + 2, none⟩ = some (.int .i64 p.mx)
  c3 : w.cell? ⟨b, off + 3, none⟩ = some sv
  c4 : w.cell? ⟨b, off + 4, none⟩ = some kv
  set : Rngs w sv p.set
  kids : IntsR w kv p.kids
def PartsR (w : World) (v : Value) (ps : List PartP) : Prop := ∃ a c, v = .slice a ps.length c ∧ (ps = [] ∨ ∃ b off, a = some ⟨b, off, none⟩ ∧ b < w.heap.size ∧ ∀ j, j < ps.length → ∃ sv kv, PartR w b (off + j * 5) (ps.getD j noPart) sv kv)
theorem IntsR.below {w w' : World} {v : Value} {l : List Int} (h : IntsR w v l) (hb : Below w.heap.size w w') : IntsR w' v l := by
  obtain ⟨a, c, h1, h2⟩ := h
  refine ⟨a, c, h1, h2.imp id fun ⟨g, off, e, hg, hc⟩ => ⟨g, off, e, Nat.lt_of_lt_of_le hg hb.size, fun j hj => (hb.cell (p := ⟨g, off + j, none⟩) hg).trans (hc j hj)⟩⟩
theorem PartR.below {w w' : World} {b off : Nat} {p : PartP} {sv kv : Value} (h : PartR w b off p sv kv) (hlt : b < w.heap.size) (hb : Below w.heap.size w w') : PartR w' b off p sv kv :=
  ⟨(hb.cell (p := ⟨b, off, none⟩) hlt).trans h.c0, (hb.cell (p := ⟨b, off + 1, none⟩) hlt).trans h.c1, (hb.cell (p := ⟨b, off + 2, none⟩) hlt).trans h.c2, (hb.cell (p := ⟨b, off + 3, none⟩) hlt).trans h.c3, (hb.cell (p := ⟨b, off + 4, none⟩) hlt).trans h.c4, h.set.below hb, h.kids.below hb⟩
/-- append of nothing onto nothing, where a region draws its order -/
theorem step_append_nil {P : Program} {w : World} {ops : Array Oper} {o : Oper} {a : Act} {K : Act → World → Prop} {Q : Exit → Act → World → Prop} {E : Prop} (hgd : o.guard = none) (s x : Operand) (t e : TypeId) (i : TypeInfo) (ht : P.underlying t = some (.slice e)) (hi : P.info? e = some i)
    (ho : o.op = .call { callee := .builtin .append, args := #[s, x], argTypes := #[t, t] }) (ad : Option Addr) (c : Nat) (hs : a.eval s = .slice none 0 0) (hx : a.eval x = .slice ad 0 c) (h : K (a.put o.dst (.slice none 0 0)) w) :
    if Region.wanted o (yielded ops a.tmps) = true then Oper.wp P o a w K Q else E := by
  have hw : Region.wanted o (yielded ops a.tmps) = true := by simp [Region.wanted, hgd]
  rw [if_pos hw]
  have hrun : (Builtin.append_ #[t, t] o.type #[.slice none 0 0, .slice ad 0 c]).run P w = .ok (.slice none 0 0) w := by
    cases ad
    · simp [Builtin.append_, run_underlying ht, sizeOf, typeInfo, hi, Builtin.lenOf, Builtin.firstCells]
    · simp [Builtin.append_, run_underlying ht, sizeOf, typeInfo, hi, Builtin.lenOf, Builtin.firstCells, loadCells, loadCellsFrom]
  unfold Oper.wp execOp
  simp only [ho, resolve, invoke, builtin, Sem.run_bind, Sem.run_pure, Result.andThen_ok, List.map_toArray, List.map_cons, List.map_nil, hs, hx, hrun]
  exact h

/-- the cells of a list of ranges -/
def rgCells (l : List Rg) : List Value := l.flatMap fun r => [.int .i64 r.1, .int .i64 r.2]
theorem rgCells_len (l : List Rg) : (rgCells l).length = l.length * 2 := by
  induction l with
  | nil => rfl
  | cons r l ih => simp [rgCells] at *; omega
theorem rgCells_get : ∀ (l : List Rg) (j : Nat), j < l.length → (rgCells l)[j * 2]? = some (.int .i64 (l.getD j (0, 0)).1) ∧ (rgCells l)[j * 2 + 1]? = some (.int .i64 (l.getD j (0, 0)).2)
  | [], j, h => by simp at h
  | r :: l, 0, _ => by simp [rgCells]
  | r :: l, j + 1, h => by
    have ih := rgCells_get l j (by simpa using h)
    have e : rgCells (r :: l) = [.int .i64 r.1, .int .i64 r.2] ++ rgCells l := rfl
    rw [e]
    refine ⟨?_, ?_⟩
    · rw [List.getElem?_append_right (by simp; omega)]
      simp only [List.length_cons, List.length_nil]
      rw [show (j + 1) * 2 - (0 + 1 + 1) = j * 2 by omega, ih.1]
      simp
    · rw [List.getElem?_append_right (by simp; omega)]
      simp only [List.length_cons, List.length_nil]
      rw [show (j + 1) * 2 + 1 - (0 + 1 + 1) = j * 2 + 1 by omega, ih.2]
      simp
theorem rgCells_one (l : List Rg) : ∀ u ∈ rgCells l, u.oneCell' = true := by
  intro u hu
  unfold rgCells at hu
  rw [List.mem_flatMap] at hu
  obtain ⟨r, _, hr⟩ := hu
  simp at hr
  rcases hr with rfl | rfl <;> rfl
theorem rgCells_news {w : World} {b off : Nat} {l : List Rg} (hc : ∀ j, j < l.length → w.cell? ⟨b, off + j * 2, none⟩ = some (.int .i64 (l.getD j (0, 0)).1) ∧ w.cell? ⟨b, off + j * 2 + 1, none⟩ = some (.int .i64 (l.getD j (0, 0)).2)) :
    ∀ j u, (rgCells l)[j]? = some u → w.cell? ((⟨b, off, none⟩ : Addr).add j) = some u := by
  intro j u hj
  have hlt : j < l.length * 2 := by
    have := (List.getElem?_eq_some_iff.1 hj).1
    rw [rgCells_len] at this
    exact this
  have hadd : (⟨b, off, none⟩ : Addr).add j = ⟨b, off + j, none⟩ := by unfold Addr.add; split <;> simp_all
  rw [hadd]
  obtain ⟨h1, h2⟩ := rgCells_get l (j / 2) (by omega)
  obtain ⟨q1, q2⟩ := hc (j / 2) (by omega)
  rcases (show j = j / 2 * 2 ∨ j = j / 2 * 2 + 1 by omega) with e | e
  · rw [← e] at h1 q1
    rw [hj] at h1
    rw [q1, ← h1]
  · rw [show off + j / 2 * 2 + 1 = off + (j / 2 * 2 + 1) by omega] at q2
    rw [← e] at h2 q2
    rw [hj] at h2
    rw [q2, ← h2]
/-- a row of ranges that is one's own -/
theorem rowR_own {w : World} {B g cap : Nat} {l : List Rg} {ok : Nat → Prop} (h : w.ownsRow B 101 2 (.slice (some ⟨g, 0, none⟩) l.length cap) l.length (rgCells l)) (hlt : g < w.heap.size) (hok : ok g) : RowR ok w (.slice (some ⟨g, 0, none⟩) l.length cap) l := by
  refine .inr ⟨g, 0, cap, rfl, hlt, hok, fun j hj => ?_⟩
  have hc := h.cells (g := g) rfl
  obtain ⟨h1, h2⟩ := rgCells_get l j hj
  have a1 := hc _ _ h1
  have a2 := hc _ _ h2
  have hadd : ∀ k, (⟨g, 0, none⟩ : Addr).add k = ⟨g, 0 + k, none⟩ := fun k => by unfold Addr.add; split <;> simp_all
  rw [hadd] at a1 a2
  exact ⟨a1, by rw [Nat.add_assoc]; exact a2⟩

/-- append of ranges onto nothing, where a region draws its order -/
theorem step_append_rngs {w : World} {ops : Array Oper} {o : Oper} {a : Act} {K : Act → World → Prop} {Q : Exit → Act → World → Prop} {E : Prop} (hgd : o.guard = none) (s x : Operand)
    (ho : o.op = .call { callee := .builtin .append, args := #[s, x], argTypes := #[33, 33] }) (sa : Option Addr) (n c : Nat) (l : List Rg) (hn : n = l.length) (hl : l.length ≤ 1000) (hs : a.eval s = .slice none 0 0) (hx : a.eval x = .slice sa n c) (hv : Rngs w (.slice sa n c) l)
    (h : ∀ sa' c' w', RowR (fun b => w.heap.size ≤ b ∧ b < w'.heap.size) w' (.slice sa' n c') l → w.grownBy w' none → K (a.put o.dst (.slice sa' n c')) w') :
    if Region.wanted o (yielded ops a.tmps) = true then Oper.wp Tryz.prog o a w K Q else E := by
  obtain ⟨i0, hi0, hz0, hz1, hz2⟩ := info_parts Tryz.infoRange
  subst hn
  by_cases h0 : l.length = 0
  · have hl0 : l = [] := List.eq_nil_of_length_eq_zero h0
    subst hl0
    exact step_append_nil hgd s x 33 101 i0 Tryz.underlying33 hi0 ho sa c hs hx (h none 0 w (.inl ⟨rfl, none, 0, rfl⟩) (grown_self _ _))
  · obtain ⟨sb, soff, rfl, hsb, hsc⟩ : ∃ sb soff, sa = some ⟨sb, soff, none⟩ ∧ sb < w.heap.size ∧ ∀ j, j < l.length → w.cell? ⟨sb, soff + j * 2, none⟩ = some (.int .i64 (l.getD j (0, 0)).1) ∧ w.cell? ⟨sb, soff + j * 2 + 1, none⟩ = some (.int .i64 (l.getD j (0, 0)).2) := by
      rcases hv with ⟨h, _⟩ | ⟨sb, soff, c', e, h1, h2⟩
      · rw [h] at h0; simp at h0
      · cases e; exact ⟨sb, soff, rfl, h1, h2⟩
    refine step_append_lies _ hgd s x 33 ho w.heap.size 101 i0 (.agg #[.int .i64 0, .int .i64 0]) 2 16 Tryz.underlying33 hi0 hz0 hz1 hz2 rfl (by decide) (.slice none 0 0) 0 [] hs ⟨rfl, .inl ⟨rfl, rfl⟩⟩ ⟨sb, soff, none⟩ l.length c (rgCells l) hx (rgCells_len _) (rgCells_news hsc) (rgCells_one _) (by omega) (by unfold maxLen; omega) (by omega) (Nat.le_refl _) _ rfl ?_
    intro g cap w' hown hg hat hlt
    simp only [Nat.zero_add, List.nil_append] at hown ⊢
    refine h _ _ w' (rowR_own hown hlt ⟨?_, hlt⟩) hg
    rcases hat with e | e
    · cases e
    · omega

/-- a node that is being made: what came ahead of it lies below S, the node at Q -/
structure NdI (S Q : Nat) (w0 w : World) (p : PartP) (sv kv : Value) (k : Nat) (us : List Value) : Prop where
  bel : Below S w0 w
  q : S ≤ Q ∧ Q < w.heap.size
  blk : w.heap[Q]? = some (.cells #[.int .i64 p.kind, sv, .int .i64 p.mn, .int .i64 p.mx, kv] 48 (0, 0))
  set : RowR (fun b => S ≤ b ∧ b < Q) w sv p.set
  own : w.ownsRow (Q + 1) 22 1 kv k us
  len : us.length = k
theorem NdI.cell4 {S Q k : Nat} {w0 w : World} {p : PartP} {sv kv : Value} {us : List Value} (h : NdI S Q w0 w p sv kv k us) : w.cell? ⟨Q, 4, none⟩ = some kv := by simp [World.cell?, h.blk]
theorem NdI.slice {S Q k : Nat} {w0 w : World} {p : PartP} {sv kv : Value} {us : List Value} (h : NdI S Q w0 w p sv kv k us) : ∃ a c, kv = .slice a k c := by
  rcases h.own.2 with ⟨rfl, h0⟩ | ⟨g, cap, cur, rfl, _⟩
  · exact ⟨none, 0, by rw [h0]⟩
  · exact ⟨_, _, rfl⟩
theorem NdI.step {S Q k g cap : Nat} {w0 w w5 : World} {p : PartP} {sv kv u : Value} {us : List Value} {o : Obj} (h : NdI S Q w0 w p sv kv k us) (hown : w5.ownsRow (Q + 1) 22 1 (.slice (some ⟨g, 0, none⟩) (k + 1) cap) (k + 1) (us ++ [u])) (hg : (w.alloc o).grownBy w5 kv.ownBlock) (hat : kv.ownBlock = some g ∨ g = w.heap.size + 1) :
    w5.cell? ⟨Q, 4, none⟩ = some kv ∧ w5.frozen? ⟨Q, 4, none⟩ = false ∧ Q < w5.heap.size ∧ NdI S Q w0 (w5.setCell ⟨Q, 4, none⟩ (.slice (some ⟨g, 0, none⟩) (k + 1) cap)) p sv (.slice (some ⟨g, 0, none⟩) (k + 1) cap) (k + 1) (us ++ [u]) := by
  have hol : ∀ b, kv.ownBlock = some b → Q + 1 ≤ b ∧ b < w.heap.size := fun b hb => h.own.lt b hb
  obtain ⟨hq1, hq2⟩ := h.q
  have hs5 : w.heap.size + 1 ≤ w5.heap.size := by have := hg.size; simpa using this
  have hset : ∀ b, b ≠ Q → (w5.setCell ⟨Q, 4, none⟩ (.slice (some ⟨g, 0, none⟩) (k + 1) cap)).heap[b]? = w5.heap[b]? := fun b hb => Below.heap_setCell _ _ _ _ (by simpa using hb)
  have hsz : (w5.setCell ⟨Q, 4, none⟩ (.slice (some ⟨g, 0, none⟩) (k + 1) cap)).heap.size = w5.heap.size := by simp
  have h45 : ∀ b, b < w.heap.size → kv.ownBlock ≠ some b → w5.heap[b]? = w.heap[b]? := fun b hb hne => (hg.block b (by simp; omega) (fun e => hne e.symm)).trans (Below.heap_alloc w o b hb)
  have hne : ∀ b, b < Q + 1 → kv.ownBlock ≠ some b := fun b hb e => by have := hol b e; omega
  have hb5 := (h45 Q hq2 (hne Q (by omega))).trans h.blk
  have hgQ : g ≠ Q := by
    rcases hat with e | e
    · have := hol g e; omega
    · omega
  refine ⟨by simp [World.cell?, hb5], by simp [World.frozen?, hb5], by omega, ⟨?_, ⟨hq1, by rw [hsz]; omega⟩, ?_, ?_, ?_, by simp [h.len]⟩⟩
  · refine ⟨?_, ?_, ?_, by rw [hsz]; have := h.bel.size; omega, fun c hc => ?_⟩
    · exact hg.os.trans h.bel.os
    · simpa using hg.tape.trans h.bel.tape
    · exact hg.output.trans h.bel.output
    · rw [hset c (by omega), h45 c (by omega) (hne c (by omega))]
      exact h.bel.block c hc
  · have := heap_setCell_same w5 Q 4 _ 48 (.slice (some ⟨g, 0, none⟩) (k + 1) cap) hb5
    simpa using this
  · refine h.set.moved (by rw [hsz]; omega) fun b hb hok => ⟨hok, ?_⟩
    rw [hset b (by omega), h45 b hb (hne b (by omega))]
  · refine ⟨hown.1, ?_⟩
    rcases hown.2 with ⟨e, _⟩ | ⟨g', cap', cur, e, k1, k2, k3⟩
    · simp at e
    · simp only [Value.slice.injEq, Option.some.injEq, Addr.mk.injEq, and_true, true_and] at e
      obtain ⟨rfl, rfl⟩ := e
      exact .inr ⟨g, cap, cur, rfl, k1, (hset g hgQ).trans k2, k3⟩
theorem NdI.start {S : Nat} {w0 w : World} {p : PartP} {sv : Value} (hb : Below S w0 w) (hS : S ≤ w.heap.size) (hset : RowR (fun b => S ≤ b ∧ b < w.heap.size) w sv p.set) :
    NdI S w.heap.size w0 (w.alloc (.cells #[.int .i64 p.kind, sv, .int .i64 p.mn, .int .i64 p.mx, .slice none 0 0] 48)) p sv (.slice none 0 0) 0 [] := by
  have hga := below_allocU w (.cells #[.int .i64 p.kind, sv, .int .i64 p.mn, .int .i64 p.mx, .slice none 0 0] 48)
  exact ⟨hb.trans (hga.mono hS), ⟨hS, by simp⟩, heap_alloc_new w _, hset.moved hga.size fun b hb hok => ⟨hok, hga.block b hb⟩, ⟨rfl, .inl ⟨rfl, rfl⟩⟩, rfl⟩

end Go.Proofs.YtbjohedenfindaaGreatDoor
