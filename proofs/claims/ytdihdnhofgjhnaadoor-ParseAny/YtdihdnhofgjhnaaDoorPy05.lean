/- Texts of the proof, put together: GMem. -/
import Derived.Test.YtdihdnhofgjhnaaDoorProg
import Derived.WalkKit
import Derived.WalkSpells
import Derived.WalkLawsBesides
import Derived.Lib.OthersKept
import Derived.BigQuiet
import Derived.Deep.QuietTactic
namespace Go.Proofs.YtdihdnhofgjhnaaDoor
open Go.RowKit
set_option linter.unusedVariables false
set_option maxRecDepth 100000

structure PdR where
  left : Int
  right : List Int
  level : Int
def noPd : PdR := ⟨0, [], 0⟩
structure Gm where
  terms : Int
  names : Int
  start : Int
  prods : List PdR
  levels : List Int
  sides : List Int
/-- numbers in memory -/
def IntsR (w : World) (v : Value) (l : List Int) : Prop := ∃ a c, v = .slice a l.length c ∧ l.length ≤ c ∧ (l = [] ∨ ∃ g off, a = some ⟨g, off, none⟩ ∧ g < w.heap.size ∧ ∀ j, j < l.length → w.cell? ⟨g, off + j, none⟩ = some (.int .i64 (l.getD j 0)))
/-- a production in memory -/
structure PdM (w : World) (b off : Nat) (p : PdR) (v : Value) : Prop where
  c0 : w.cell? ⟨b, off, none⟩ = some (.int .i64 p.left)
  c1 : w.cell? ⟨b, off + 1, none⟩ = some v
  c2 : w.cell? ⟨b, off + 2, none⟩ = some (.int .i64 p.level)
  right : IntsR w v p.right
def PdsM (w : World) (v : Value) (ps : List PdR) : Prop := ∃ a c, v = .slice a ps.length c ∧ (ps = [] ∨ ∃ b off, a = some ⟨b, off, none⟩ ∧ b < w.heap.size ∧ ∀ j, j < ps.length → ∃ v, PdM w b (off + j * 3) (ps.getD j noPd) v)
theorem IntsR.below {w w' : World} {v : Value} {l : List Int} (h : IntsR w v l) (hb : Below w.heap.size w w') : IntsR w' v l := by
  obtain ⟨a, c, h1, h0, h2⟩ := h
  refine ⟨a, c, h1, h0, h2.imp id fun ⟨g, off, e, hg, hc⟩ => ⟨g, off, e, Nat.lt_of_lt_of_le hg hb.size, fun j hj => (hb.cell (p := ⟨g, off + j, none⟩) hg).trans (hc j hj)⟩⟩
theorem PdM.below {w w' : World} {b off : Nat} {p : PdR} {v : Value} (h : PdM w b off p v) (hlt : b < w.heap.size) (hb : Below w.heap.size w w') : PdM w' b off p v :=
  ⟨(hb.cell (p := ⟨b, off, none⟩) hlt).trans h.c0, (hb.cell (p := ⟨b, off + 1, none⟩) hlt).trans h.c1, (hb.cell (p := ⟨b, off + 2, none⟩) hlt).trans h.c2, h.right.below hb⟩
theorem PdsM.below {w w' : World} {v : Value} {ps : List PdR} (h : PdsM w v ps) (hb : Below w.heap.size w w') : PdsM w' v ps := by
  obtain ⟨a, c, h1, h2⟩ := h
  refine ⟨a, c, h1, h2.imp id fun ⟨b, off, e, hg, hc⟩ => ⟨b, off, e, Nat.lt_of_lt_of_le hg hb.size, fun j hj => ?_⟩⟩
  obtain ⟨v, hp⟩ := hc j hj
  exact ⟨v, hp.below hg hb⟩
/-- a number of a row, and where it lies -/
theorem IntsR.at {w : World} {a : Option Addr} {n c : Nat} {l : List Int} (h : IntsR w (.slice a n c) l) {k : Nat} (hk : k < l.length) : ∃ b off, a = some ⟨b, off, none⟩ ∧ b < w.heap.size ∧ w.cell? ⟨b, off + k, none⟩ = some (.int .i64 (l.getD k 0)) := by
  obtain ⟨a', c', e, _, h2⟩ := h
  obtain ⟨rfl, rfl, rfl⟩ : a = a' ∧ n = l.length ∧ c = c' := by simpa using e
  rcases h2 with rfl | ⟨b, off, rfl, hb, hc⟩
  · simp at hk
  · exact ⟨b, off, rfl, hb, hc k hk⟩
theorem IntsR.slice {w : World} {v : Value} {l : List Int} (h : IntsR w v l) : ∃ a c, v = .slice a l.length c := by
  obtain ⟨a, c, e, _, _⟩ := h; exact ⟨a, c, e⟩
theorem IntsR.cap {w : World} {a : Option Addr} {n c : Nat} {l : List Int} (h : IntsR w (.slice a n c) l) : l.length ≤ c := by
  obtain ⟨a', c', e, h0, _⟩ := h
  obtain ⟨rfl, rfl, rfl⟩ : a = a' ∧ n = l.length ∧ c = c' := by simpa using e
  exact h0
/-- a part of a row -/
theorem IntsR.take {w : World} {a : Option Addr} {n c : Nat} {l : List Int} (h : IntsR w (.slice a n c) l) {k : Nat} (hk : k ≤ l.length) : IntsR w (.slice a k c) (l.take k) := by
  obtain ⟨a', c', e, h0, h2⟩ := h
  obtain ⟨rfl, rfl, rfl⟩ : a = a' ∧ n = l.length ∧ c = c' := by simpa using e
  have hl : (l.take k).length = k := by rw [List.length_take]; omega
  refine ⟨a, c, by rw [hl], by omega, ?_⟩
  rcases h2 with rfl | ⟨b, off, rfl, hb, hc⟩
  · exact .inl (by simp)
  · refine .inr ⟨b, off, rfl, hb, fun j hj => ?_⟩
    rw [hl] at hj
    rw [hc j (by omega)]
    simp [List.getD, List.getElem?_take_of_lt hj]
theorem IntsR.drop {w : World} {b off n c : Nat} {l : List Int} (h : IntsR w (.slice (some ⟨b, off, none⟩) n c) l) {k : Nat} (hk : k ≤ l.length) : IntsR w (.slice (some ⟨b, off + k, none⟩) (l.length - k) (c - k)) (l.drop k) := by
  obtain ⟨a', c', e, h0, h2⟩ := h
  obtain ⟨rfl, rfl, rfl⟩ : some ⟨b, off, none⟩ = a' ∧ n = l.length ∧ c = c' := by simpa using e
  have hl : (l.drop k).length = l.length - k := List.length_drop ..
  refine ⟨_, c - k, by rw [hl], by omega, ?_⟩
  rcases h2 with rfl | ⟨b', off', e', hb, hc⟩
  · exact .inl (by simp)
  · obtain ⟨rfl, rfl⟩ : b = b' ∧ off = off' := by simpa using e'
    refine .inr ⟨b, off + k, rfl, hb, fun j hj => ?_⟩
    rw [hl] at hj
    rw [Nat.add_assoc, hc (k + j) (by omega)]
    simp [List.getD, List.getElem?_drop]
/-- a production of a row, and where it lies -/
theorem PdsM.at {w : World} {a : Option Addr} {n c : Nat} {ps : List PdR} (h : PdsM w (.slice a n c) ps) {k : Nat} (hk : k < ps.length) : ∃ b off v, a = some ⟨b, off, none⟩ ∧ b < w.heap.size ∧ PdM w b (off + k * 3) (ps.getD k noPd) v := by
  obtain ⟨a', c', e, h2⟩ := h
  obtain ⟨rfl, rfl, rfl⟩ : a = a' ∧ n = ps.length ∧ c = c' := by simpa using e
  rcases h2 with rfl | ⟨b, off, rfl, hb, hc⟩
  · simp at hk
  · obtain ⟨v, hp⟩ := hc k hk
    exact ⟨b, off, v, rfl, hb, hp⟩
theorem PdsM.slice {w : World} {v : Value} {l : List PdR} (h : PdsM w v l) : ∃ a c, v = .slice a l.length c := by
  obtain ⟨a, c, e, _⟩ := h; exact ⟨a, c, e⟩

/-- a grammar's values -/
def gvs (g : Gm) (pv lv sv : Value) : Array Value := #[.int .i64 g.terms, .int .i64 g.names, .int .i64 g.start, pv, lv, sv]
def gv (g : Gm) (pv lv sv : Value) : Value := .agg (gvs g pv lv sv)
structure GrM (w : World) (g : Gm) (pv lv sv : Value) : Prop where
  prods : PdsM w pv g.prods
  levels : IntsR w lv g.levels
  sides : IntsR w sv g.sides
theorem GrM.below {w w' : World} {g : Gm} {pv lv sv : Value} (h : GrM w g pv lv sv) (hb : Below w.heap.size w w') : GrM w' g pv lv sv := ⟨h.prods.below hb, h.levels.below hb, h.sides.below hb⟩
/-- a boxed grammar -/
def boxG (w : World) (g : Gm) (pv lv sv : Value) : World := w.alloc (.cells (gvs g pv lv sv) 25)
structure BoxG (w : World) (B : Nat) (g : Gm) (pv lv sv : Value) : Prop where
  lt : B < w.heap.size
  c0 : w.cell? ⟨B, 0, none⟩ = some (.int .i64 g.terms)
  c1 : w.cell? ⟨B, 1, none⟩ = some (.int .i64 g.names)
  c2 : w.cell? ⟨B, 2, none⟩ = some (.int .i64 g.start)
  c3 : w.cell? ⟨B, 3, none⟩ = some pv
  c4 : w.cell? ⟨B, 4, none⟩ = some lv
  c5 : w.cell? ⟨B, 5, none⟩ = some sv
theorem boxG_below (w : World) (g : Gm) (pv lv sv : Value) : Below w.heap.size w (boxG w g pv lv sv) := (Below.refl _ w).alloc (Nat.le_refl _) _
theorem boxG_size (w : World) (g : Gm) (pv lv sv : Value) : (boxG w g pv lv sv).heap.size = w.heap.size + 1 := Array.size_push ..
theorem boxG_box (w : World) (g : Gm) (pv lv sv : Value) : BoxG (boxG w g pv lv sv) w.heap.size g pv lv sv := by
  have h : (boxG w g pv lv sv).heap[w.heap.size]? = some (.cells (gvs g pv lv sv) 25) := by
    show (w.heap.push _)[w.heap.size]? = _
    exact Array.getElem?_push_size
  refine ⟨by rw [boxG_size]; omega, ?_, ?_, ?_, ?_, ?_, ?_⟩ <;> · simp only [World.cell?, h]; rfl
theorem BoxG.below {w w' : World} {B : Nat} {g : Gm} {pv lv sv : Value} (h : BoxG w B g pv lv sv) {K : Nat} (hB : B < K) (hb : Below K w w') : BoxG w' B g pv lv sv :=
  ⟨Nat.lt_of_lt_of_le h.lt hb.size, (hb.cell (p := ⟨B, 0, none⟩) hB).trans h.c0, (hb.cell (p := ⟨B, 1, none⟩) hB).trans h.c1, (hb.cell (p := ⟨B, 2, none⟩) hB).trans h.c2, (hb.cell (p := ⟨B, 3, none⟩) hB).trans h.c3, (hb.cell (p := ⟨B, 4, none⟩) hB).trans h.c4, (hb.cell (p := ⟨B, 5, none⟩) hB).trans h.c5⟩
/-- a new block of three cells -/
theorem box3_cells (w : World) (a b c : Value) (ty : TypeId) : (w.alloc (.cells #[a, b, c] ty)).cell? ⟨w.heap.size, 0, none⟩ = some a ∧ (w.alloc (.cells #[a, b, c] ty)).cell? ⟨w.heap.size, 1, none⟩ = some b ∧ (w.alloc (.cells #[a, b, c] ty)).cell? ⟨w.heap.size, 2, none⟩ = some c := by
  have h : (w.alloc (.cells #[a, b, c] ty)).heap[w.heap.size]? = some (.cells #[a, b, c] ty) := by
    show (w.heap.push _)[w.heap.size]? = _
    exact Array.getElem?_push_size
  refine ⟨?_, ?_, ?_⟩ <;> · simp only [World.cell?, h]; rfl
theorem alloc_size (w : World) (o : Obj) : (w.alloc o).heap.size = w.heap.size + 1 := Array.size_push ..
theorem alloc_below (w : World) (o : Obj) : Below w.heap.size w (w.alloc o) := (Below.refl _ w).alloc (Nat.le_refl _) _
theorem below_drewG {B : Nat} {w w' : World} (h : Below B w w') (n : Nat) : Below B w (w'.drewN n) := h.trans ⟨rfl, rfl, rfl, Nat.le_refl _, fun _ _ => rfl⟩
theorem all_dropG {α : Type} (l : List α) (d : α) (f : α → Bool) (k : Nat) (h : k < l.length) : (l.drop k).all f = (f (l.getD k d) && (l.drop (k + 1)).all f) := by
  rw [List.drop_eq_getElem_cons h, List.all_cons]
  simp [List.getD, h]

end Go.Proofs.YtdihdnhofgjhnaaDoor
