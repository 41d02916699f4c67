import Derived.Test.YtbiiapdeincpbaaPSort
import Derived.Test.YtbiiapdeincpbaaPTake
namespace Go.Proofs.Ytbiiapdeincpbaa
open Go.RowKit
set_option linter.unusedVariables false
set_option maxRecDepth 100000

/-- the memory of a sweep: the question, the depths, the answer so far, the edges -/
structure St (W0 : World) (B0 F D O td g : Nat) (v1 : Value) (E : List Eg) (W : World) (d0 d1 : Int) (v : Value) (out : List Rg) : Prop where
  cF : W.cell? ⟨F, 0, none⟩ = some (.func (.func g) #[] #[])
  hD : W.heap[D]? = some (.cells #[.int .i64 d0, .int .i64 d1] td (0, 0))
  hO : W.heap[O]? = some (.cells #[v] 28 (0, 0))
  own : OwnR W W0.heap.size v out
  edg : EdgesAt W W0.heap.size v1 E
  bel : Below B0 W0 W

theorem EdgesAt.keep {w w' : World} {B : Nat} {v : Value} {E : List Eg} (h : EdgesAt w B v E) (hk : ∀ (k : Nat) (cur : Array Value), B ≤ k → w.heap[k]? = some (Obj.cells cur 83 (0, 0)) → w'.heap[k]? = w.heap[k]?) : EdgesAt w' B v E := by
  rcases h with h | ⟨g, c, rfl, hB, ⟨cur, hg⟩, hc⟩
  · exact Or.inl h
  · have e := hk g cur hB hg
    exact Or.inr ⟨g, c, rfl, hB, ⟨cur, by rw [e]; exact hg⟩, fun j hj c hc3 => (World.cell?_of_block (a := ⟨g, j * 3 + c, none⟩) e).trans (hc j hj c hc3)⟩

section
variable {W0 : World} {B0 F D O td g : Nat} {v1 : Value} {E : List Eg} {W : World} {d0 d1 : Int} {v : Value} {out : List Rg}

theorem St.size (h : St W0 B0 F D O td g v1 E W d0 d1 v out) : W0.heap.size ≤ W.heap.size := h.bel.size

/-- a world that is grown at no row, or at the answer's -/
theorem St.grown (h : St W0 B0 F D O td g v1 E W d0 d1 v out) {W' : World} {v' : Value} {out' : List Rg} (hg : W.grownBy W' v.ownBlock) (hF : F < W0.heap.size) (hD : D < W0.heap.size) (hO : O < W0.heap.size) (hB : B0 ≤ W0.heap.size) (ho : OwnR W' W0.heap.size v' out') :
    W'.cell? ⟨F, 0, none⟩ = some (.func (.func g) #[] #[]) ∧ W'.heap[D]? = some (.cells #[.int .i64 d0, .int .i64 d1] td (0, 0)) ∧ W'.heap[O]? = some (.cells #[v] 28 (0, 0)) ∧ EdgesAt W' W0.heap.size v1 E ∧ Below B0 W0 W' := by
  have hs := h.size
  have hlt := World.ownsRow.lt h.own
  have hne : ∀ k, k < W0.heap.size → some k ≠ v.ownBlock := fun k hk e => by have := (hlt k e.symm).1; omega
  refine ⟨(World.cell?_of_block (a := ⟨F, 0, none⟩) (hg.block F (by omega) (hne F hF))).trans h.cF, (hg.block D (by omega) (hne D hD)).trans h.hD, (hg.block O (by omega) (hne O hO)).trans h.hO, ?_, h.bel.grown hg (by omega) (fun k hk => by have := (hlt k hk).1; omega)⟩
  refine h.edg.keep (fun k cur hk hc => hg.block k (Array.getElem?_eq_some_iff.1 hc).1 (fun e => ?_))
  obtain ⟨cc, fz, hcc⟩ := Lib.ownsRow_kind h.own k e.symm
  rw [hc] at hcc
  simp at hcc

theorem St.alloc (h : St W0 B0 F D O td g v1 E W d0 d1 v out) (hF : F < W0.heap.size) (hD : D < W0.heap.size) (hO : O < W0.heap.size) (hB : B0 ≤ W0.heap.size) (o : Obj) : St W0 B0 F D O td g v1 E (W.alloc o) d0 d1 v out := by
  have ho : OwnR (W.alloc o) W0.heap.size v out := World.ownsRow.alloc h.own o
  obtain ⟨a, b, c, d, e⟩ := h.grown (World.grownBy_alloc W o _) hF hD hO hB ho
  exact ⟨a, b, c, ho, d, e⟩

theorem St.still (h : St W0 B0 F D O td g v1 E W d0 d1 v out) {W' : World} (hg : W.grownBy W' none) (hF : F < W0.heap.size) (hD : D < W0.heap.size) (hO : O < W0.heap.size) (hB : B0 ≤ W0.heap.size) : St W0 B0 F D O td g v1 E W' d0 d1 v out := by
  have ho : OwnR W' W0.heap.size v out := World.ownsRow.kept h.own hg (by
    cases hv : v.ownBlock with
    | none => exact Or.inl rfl
    | some k => exact Or.inr (by simp))
  have hg2 : W.grownBy W' v.ownBlock := ⟨hg.os, hg.tape, hg.output, hg.size, fun k hk _ => hg.block k hk (by simp)⟩
  obtain ⟨a, b, c, d, e⟩ := h.grown hg2 hF hD hO hB ho
  exact ⟨a, b, c, ho, d, e⟩

theorem heap_set (w : World) (b o : Nat) (cs : Array Value) (t : TypeId) (u : Value) (h : w.heap[b]? = some (.cells cs t (0, 0))) : (w.setCell ⟨b, o, none⟩ u).heap[b]? = some (.cells (cs.setIfInBounds o u) t (0, 0)) := by
  simp [World.setCell, Array.getElem?_modify, h]

theorem St.put (h : St W0 B0 F D O td g v1 E W d0 d1 v out) {W1 : World} {v' : Value} {out' : List Rg} (hg : W.grownBy W1 v.ownBlock) (hF : F < W0.heap.size) (hD : D < W0.heap.size) (hO : O < W0.heap.size) (hB : B0 ≤ W0.heap.size) (hBO : B0 ≤ O) (hFO : F ≠ O) (hDO : D ≠ O) (ho : OwnR W1 W0.heap.size v' out') :
    St W0 B0 F D O td g v1 E (W1.setCell ⟨O, 0, none⟩ v') d0 d1 v' out' := by
  obtain ⟨a, b, c, d, e⟩ := h.grown hg hF hD hO hB ho
  refine ⟨?_, ?_, ?_, ownsRow_setCell_below ho hO _, d.keep (fun k cur hk hc => Below.heap_setCell _ _ _ _ (fun e => by simp at e; omega)), e.setCell (p := ⟨O, 0, none⟩) hBO _⟩
  · rw [World.cell?_of_block (Below.heap_setCell _ _ _ _ hFO)]; exact a
  · rw [Below.heap_setCell _ _ _ _ hDO]; exact b
  · rw [heap_set _ _ _ _ _ _ c]; rfl

theorem St.turn (h : St W0 B0 F D O td g v1 E W d0 d1 v out) (hF : F < W0.heap.size) (hD : D < W0.heap.size) (hO : O < W0.heap.size) (hBD : B0 ≤ D) (hFD : F ≠ D) (hDO : D ≠ O) (s : Nat) (u e0 e1 : Int) (he : (#[Value.int .i64 d0, Value.int .i64 d1] : Array Value).setIfInBounds s (.int .i64 u) = #[.int .i64 e0, .int .i64 e1]) :
    St W0 B0 F D O td g v1 E (W.setCell ⟨D, s, none⟩ (.int .i64 u)) e0 e1 v out := by
  refine ⟨?_, ?_, ?_, ownsRow_setCell_below h.own hD _, h.edg.keep (fun k cur hk hc => Below.heap_setCell _ _ _ _ (fun e => by simp at e; omega)), h.bel.setCell (p := ⟨D, s, none⟩) hBD _⟩
  · rw [World.cell?_of_block (Below.heap_setCell _ _ _ _ hFD)]; exact h.cF
  · rw [heap_set _ _ _ _ _ _ h.hD, he]
  · rw [Below.heap_setCell _ _ _ _ (Ne.symm hDO)]; exact h.hO
end

theorem sumS_snoc (A : List Eg) (e : Eg) (s : Int) : sumS (A ++ [e]) s = sumS A s + if e.2.1 = s then e.2.2 else 0 := by
  unfold sumS; rw [sumBy_append]; simp [sumBy]
theorem sumS_bd (s : Int) : ∀ (A : List Eg), (∀ e ∈ A, e.2.2 = 1 ∨ e.2.2 = -1) → -(A.length : Int) ≤ sumS A s ∧ sumS A s ≤ A.length
  | [], _ => by simp [sumS, sumBy]
  | e :: t, h => by
    have ih := sumS_bd s t (fun x hx => h x (by simp [hx]))
    have he := h e (by simp)
    have e1 : sumS (e :: t) s = (if e.2.1 = s then e.2.2 else 0) + sumS t s := rfl
    rw [e1]
    simp only [List.length_cons]
    split <;> omega

end Go.Proofs.Ytbiiapdeincpbaa
