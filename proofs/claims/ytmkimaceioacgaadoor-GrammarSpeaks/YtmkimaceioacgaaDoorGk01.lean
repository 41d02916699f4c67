/- Texts of the proof, put together: GMem, GOkR, GOkP. -/
import Derived.Test.YtmkimaceioacgaaDoorProg
import Derived.WalkKit
import Derived.WalkSpells
import Derived.WalkLawsBesides
import Derived.Lib.OthersKept
import Derived.BigQuiet
import Derived.Deep.QuietTactic
namespace Go.Proofs.YtmkimaceioacgaaDoor
open Go.RowKit
set_option linter.unusedVariables false
set_option maxRecDepth 100000

structure PdR where
  left : Int
  right : List Int
  level : Int
def noPd : PdR := ⟨0, [], 0⟩
structure Gm where
  terms : Int
  names : Int
  start : Int
  prods : List PdR
  levels : List Int
  sides : List Int
/-- numbers in memory -/
def IntsR (w : World) (v : Value) (l : List Int) : Prop := ∃ a c, v = .slice a l.length c ∧ l.length ≤ c ∧ (l = [] ∨ ∃ g off, a = some ⟨g, off, none⟩ ∧ g < w.heap.size ∧ ∀ j, j < l.length → w.cell? ⟨g, off + j, none⟩ = some (.int .i64 (l.getD j 0)))
/-- a production in memory -/
structure PdM (w : World) (b off : Nat) (p : PdR) (v : Value) : Prop where
  c0 : w.cell? ⟨b, off, none⟩ = some (.int .i64 p.left)
  c1 : w.cell? ⟨b, off + 1, none⟩ = some v
  c2 : w.cell? ⟨b, off + 2, none⟩ = some (.int .i64 p.level)
  right : IntsR w v p.right
def PdsM (w : World) (v : Value) (ps : List PdR) : Prop := ∃ a c, v = .slice a ps.length c ∧ (ps = [] ∨ ∃ b off, a = some ⟨b, off, none⟩ ∧ b < w.heap.size ∧ ∀ j, j < ps.length → ∃ v, PdM w b (off + j * 3) (ps.getD j noPd) v)
theorem IntsR.below {w w' : World} {v : Value} {l : List Int} (h : IntsR w v l) (hb : Below w.heap.size w w') : IntsR w' v l := by
  obtain ⟨a, c, h1, h0, h2⟩ := h
  refine ⟨a, c, h1, h0, h2.imp id fun ⟨g, off, e, hg, hc⟩ => ⟨g, off, e, Nat.lt_of_lt_of_le hg hb.size, fun j hj => (hb.cell (p := ⟨g, off + j, none⟩) hg).trans (hc j hj)⟩⟩
theorem PdM.below {w w' : World} {b off : Nat} {p : PdR} {v : Value} (h : PdM w b off p v) (hlt : b < w.heap.size) (hb : Below w.heap.size w w') : PdM w' b off p v :=
  ⟨(hb.cell (p := ⟨b, off, none⟩) hlt).trans h.c0, (hb.cell (p := ⟨b, off + 1, none⟩) hlt).trans h.c1, (hb.cell (p := ⟨b, off + 2, none⟩) hlt).trans h.c2, h.right.below hb⟩
theorem PdsM.below {w w' : World} {v : Value} {ps : List PdR} (h : PdsM w v ps) (hb : Below w.heap.size w w') : PdsM w' v ps := by
  obtain ⟨a, c, h1, h2⟩ := h
  refine ⟨a, c, h1, h2.imp id fun ⟨b, off, e, hg, hc⟩ => ⟨b, off, e, Nat.lt_of_lt_of_le hg hb.size, fun j hj => ?_⟩⟩
  obtain ⟨v, hp⟩ := hc j hj
  exact ⟨v, hp.below hg hb⟩
/-- a number of a row, and where it lies -/
theorem IntsR.at {w : World} {a : Option Addr} {n c : Nat} {l : List Int} (h : IntsR w (.slice a n c) l) {k : Nat} (hk : k < l.length) : ∃ b off, a = some ⟨b, off, none⟩ ∧ b < w.heap.size ∧ w.cell? ⟨b, off + k, none⟩ = some (.int .i64 (l.getD k 0)) := by
  obtain ⟨a', c', e, _, h2⟩ := h
  obtain ⟨rfl, rfl, rfl⟩ : a = a' ∧ n = l.length ∧ c = c' := by simpa using e
  rcases h2 with rfl | ⟨b, off, rfl, hb, hc⟩
  · simp at hk
  · exact ⟨b, off, rfl, hb, hc k hk⟩
theorem IntsR.slice {w : World} {v : Value} {l : List Int} (h : IntsR w v l) : ∃ a c, v = .slice a l.length c := by
  obtain ⟨a, c, e, _, _⟩ := h; exact ⟨a, c, e⟩
theorem IntsR.cap {w : World} {a : Option Addr} {n c : Nat} {l : List Int} (h : IntsR w (.slice a n c) l) : l.length ≤ c := by
  obtain ⟨a', c', e, h0, _⟩ := h
  obtain ⟨rfl, rfl, rfl⟩ : a = a' ∧ n = l.length ∧ c = c' := by simpa using e
  exact h0
/-- a part of a row -/
theorem IntsR.take {w : World} {a : Option Addr} {n c : Nat} {l : List Int} (h : IntsR w (.slice a n c) l) {k : Nat} (hk : k ≤ l.length) : IntsR w (.slice a k c) (l.take k) := by
  obtain ⟨a', c', e, h0, h2⟩ := h
  obtain ⟨rfl, rfl, rfl⟩ : a = a' ∧ n = l.length ∧ c = c' := by simpa using e
  have hl : (l.take k).length = k := by rw [List.length_take]; omega
  refine ⟨a, c, by rw [hl], by omega, ?_⟩
  rcases h2 with rfl | ⟨b, off, rfl, hb, hc⟩
  · exact .inl (by simp)
  · refine .inr ⟨b, off, rfl, hb, fun j hj => ?_⟩
    rw [hl] at hj
    rw [hc j (by omega)]
    simp [List.getD, List.getElem?_take_of_lt hj]
theorem IntsR.drop {w : World} {b off n c : Nat} {l : List Int} (h : IntsR w (.slice (some ⟨b, off, none⟩) n c) l) {k : Nat} (hk : k ≤ l.length) : IntsR w (.slice (some ⟨b, off + k, none⟩) (l.length - k) (c - k)) (l.drop k) := by
  obtain ⟨a', c', e, h0, h2⟩ := h
  obtain ⟨rfl, rfl, rfl⟩ : some ⟨b, off, none⟩ = a' ∧ n = l.length ∧ c = c' := by simpa using e
  have hl : (l.drop k).length = l.length - k := List.length_drop ..
  refine ⟨_, c - k, by rw [hl], by omega, ?_⟩
  rcases h2 with rfl | ⟨b', off', e', hb, hc⟩
  · exact .inl (by simp)
  · obtain ⟨rfl, rfl⟩ : b = b' ∧ off = off' := by simpa using e'
    refine .inr ⟨b, off + k, rfl, hb, fun j hj => ?_⟩
    rw [hl] at hj
    rw [Nat.add_assoc, hc (k + j) (by omega)]
    simp [List.getD, List.getElem?_drop]
/-- a production of a row, and where it lies -/
theorem PdsM.at {w : World} {a : Option Addr} {n c : Nat} {ps : List PdR} (h : PdsM w (.slice a n c) ps) {k : Nat} (hk : k < ps.length) : ∃ b off v, a = some ⟨b, off, none⟩ ∧ b < w.heap.size ∧ PdM w b (off + k * 3) (ps.getD k noPd) v := by
  obtain ⟨a', c', e, h2⟩ := h
  obtain ⟨rfl, rfl, rfl⟩ : a = a' ∧ n = ps.length ∧ c = c' := by simpa using e
  rcases h2 with rfl | ⟨b, off, rfl, hb, hc⟩
  · simp at hk
  · obtain ⟨v, hp⟩ := hc k hk
    exact ⟨b, off, v, rfl, hb, hp⟩
theorem PdsM.slice {w : World} {v : Value} {l : List PdR} (h : PdsM w v l) : ∃ a c, v = .slice a l.length c := by
  obtain ⟨a, c, e, _⟩ := h; exact ⟨a, c, e⟩

/-- a grammar's values -/
def gvs (g : Gm) (pv lv sv : Value) : Array Value := #[.int .i64 g.terms, .int .i64 g.names, .int .i64 g.start, pv, lv, sv]
def gv (g : Gm) (pv lv sv : Value) : Value := .agg (gvs g pv lv sv)
structure GrM (w : World) (g : Gm) (pv lv sv : Value) : Prop where
  prods : PdsM w pv g.prods
  levels : IntsR w lv g.levels
  sides : IntsR w sv g.sides
theorem GrM.below {w w' : World} {g : Gm} {pv lv sv : Value} (h : GrM w g pv lv sv) (hb : Below w.heap.size w w') : GrM w' g pv lv sv := ⟨h.prods.below hb, h.levels.below hb, h.sides.below hb⟩
/-- a boxed grammar -/
def boxG (w : World) (g : Gm) (pv lv sv : Value) : World := w.alloc (.cells (gvs g pv lv sv) 25)
structure BoxG (w : World) (B : Nat) (g : Gm) (pv lv sv : Value) : Prop where
  lt : B < w.heap.size
  c0 : w.cell? ⟨B, 0, none⟩ = some (.int .i64 g.terms)
  c1 : w.cell? ⟨B, 1, none⟩ = some (.int .i64 g.names)
  c2 : w.cell? ⟨B, 2, none⟩ = some (.int .i64 g.start)
  c3 : w.cell? ⟨B, 3, none⟩ = some pv
  c4 : w.cell? ⟨B, 4, none⟩ = some lv
  c5 : w.cell? ⟨B, 5, none⟩ = some sv
theorem boxG_below (w : World) (g : Gm) (pv lv sv : Value) : Below w.heap.size w (boxG w g pv lv sv) := (Below.refl _ w).alloc (Nat.le_refl _) _
theorem boxG_size (w : World) (g : Gm) (pv lv sv : Value) : (boxG w g pv lv sv).heap.size = w.heap.size + 1 := Array.size_push ..
theorem boxG_box (w : World) (g : Gm) (pv lv sv : Value) : BoxG (boxG w g pv lv sv) w.heap.size g pv lv sv := by
  have h : (boxG w g pv lv sv).heap[w.heap.size]? = some (.cells (gvs g pv lv sv) 25) := by
    show (w.heap.push _)[w.heap.size]? = _
    exact Array.getElem?_push_size
  refine ⟨by rw [boxG_size]; omega, ?_, ?_, ?_, ?_, ?_, ?_⟩ <;> · simp only [World.cell?, h]; rfl
theorem BoxG.below {w w' : World} {B : Nat} {g : Gm} {pv lv sv : Value} (h : BoxG w B g pv lv sv) {K : Nat} (hB : B < K) (hb : Below K w w') : BoxG w' B g pv lv sv :=
  ⟨Nat.lt_of_lt_of_le h.lt hb.size, (hb.cell (p := ⟨B, 0, none⟩) hB).trans h.c0, (hb.cell (p := ⟨B, 1, none⟩) hB).trans h.c1, (hb.cell (p := ⟨B, 2, none⟩) hB).trans h.c2, (hb.cell (p := ⟨B, 3, none⟩) hB).trans h.c3, (hb.cell (p := ⟨B, 4, none⟩) hB).trans h.c4, (hb.cell (p := ⟨B, 5, none⟩) hB).trans h.c5⟩
/-- a new block of three cells -/
theorem box3_cells (w : World) (a b c : Value) (ty : TypeId) : (w.alloc (.cells #[a, b, c] ty)).cell? ⟨w.heap.size, 0, none⟩ = some a ∧ (w.alloc (.cells #[a, b, c] ty)).cell? ⟨w.heap.size, 1, none⟩ = some b ∧ (w.alloc (.cells #[a, b, c] ty)).cell? ⟨w.heap.size, 2, none⟩ = some c := by
  have h : (w.alloc (.cells #[a, b, c] ty)).heap[w.heap.size]? = some (.cells #[a, b, c] ty) := by
    show (w.heap.push _)[w.heap.size]? = _
    exact Array.getElem?_push_size
  refine ⟨?_, ?_, ?_⟩ <;> · simp only [World.cell?, h]; rfl
theorem alloc_size (w : World) (o : Obj) : (w.alloc o).heap.size = w.heap.size + 1 := Array.size_push ..
theorem alloc_below (w : World) (o : Obj) : Below w.heap.size w (w.alloc o) := (Below.refl _ w).alloc (Nat.le_refl _) _
theorem below_drewG {B : Nat} {w w' : World} (h : Below B w w') (n : Nat) : Below B w (w'.drewN n) := h.trans ⟨rfl, rfl, rfl, Nat.le_refl _, fun _ _ => rfl⟩
theorem all_dropG {α : Type} (l : List α) (d : α) (f : α → Bool) (k : Nat) (h : k < l.length) : (l.drop k).all f = (f (l.getD k d) && (l.drop (k + 1)).all f) := by
  rw [List.drop_eq_getElem_cons h, List.all_cons]
  simp [List.getD, h]

end Go.Proofs.YtmkimaceioacgaaDoor

namespace Go.Proofs.YtmkimaceioacgaaDoor
open Go.RowKit
set_option linter.unusedVariables false
set_option maxRecDepth 100000

def sideB (x : Int) : Bool := decide (1 ≤ x) && decide (x ≤ 3)
def lvlB (m : Nat) (x : Int) : Bool := decide (0 ≤ x) && decide (x ≤ m)
def symB (t n : Int) (s : Int) : Bool := decide (s < t) && decide (-n ≤ s)
def pdB (t n : Int) (m : Nat) (p : PdR) : Bool := (decide (0 ≤ p.left) && decide (p.left < n) && decide (0 ≤ p.level) && decide (p.level ≤ m) && decide (p.right.length ≤ 20)) && p.right.all (symB t n)
abbrev HeadG (g : Gm) : Prop := 0 ≤ g.terms ∧ g.terms ≤ 300 ∧ 1 ≤ g.names ∧ g.names ≤ 300 ∧ 0 ≤ g.start ∧ g.start < g.names ∧ g.prods.length ≤ 400 ∧ g.sides.length ≤ 50 ∧ (g.levels.length = 0 ∨ (g.levels.length : Int) = g.terms)
def gOkB (g : Gm) : Bool := decide (HeadG g) && (g.sides.all sideB && (g.levels.all (lvlB g.sides.length) && g.prods.all (pdB g.terms g.names g.sides.length)))

end Go.Proofs.YtmkimaceioacgaaDoor

namespace Go.Proofs.YtmkimaceioacgaaDoor
open Go.RowKit
set_option linter.unusedVariables false
set_option maxRecDepth 100000

theorem wrap_g64 (n : Int) (h0 : -9223372036854775808 ≤ n) (h1 : n ≤ 9223372036854775807) : IntKind.i64.wrap n = n := by
  simp [IntKind.wrap, IntKind.bits, IntKind.signed]
  split <;> omega
def I64 (z : Int) : Prop := -9223372036854775808 ≤ z ∧ z ≤ 9223372036854775807

set_option maxHeartbeats 1000000 in
theorem nameOf_any (s : Int) (hs : I64 s) (w : World) :
    Calls Tryd.prog 60 #[.int .i64 s] w fun e w' => e = .returned (.tuple #[.int .i64 (-1 - s), .bool (decide (s < 0))]) ∧ w' = w := by
  have hw : IntKind.i64.wrap (-1 - s) = -1 - s := wrap_g64 _ (by unfold I64 at hs; omega) (by unfold I64 at hs; omega)
  clear hs
  go_enter Tryd.func60, Tryd.ntmps60
  go_wp2
  go_ret2
  exact ⟨rfl, rfl⟩

set_option maxHeartbeats 1000000 in
theorem isName_any (g : Gm) (pv lv sv : Value) (n : Int) (w : World) :
    Calls Tryd.prog 23 #[gv g pv lv sv, .int .i64 n] w fun e w' => e = .returned (.bool (decide (0 ≤ n) && decide (n < g.names))) ∧ Below w.heap.size w w' := by
  have hB0 := boxG_below w g pv lv sv
  unfold boxG gvs at hB0
  unfold gv gvs
  obtain ⟨t, nm, s, ps, ls, ss⟩ := g
  simp only at *
  by_cases h1 : n ≥ 0
  · have d1 : decide (n ≥ 0) = true := decide_eq_true h1
    have e1 : (decide (0 ≤ n) && decide (n < nm)) = decide (n < nm) := by rw [decide_eq_true (show 0 ≤ n from h1), Bool.true_and]
    rw [e1]
    clear e1 h1
    go_enter Tryd.func23, Tryd.ntmps23
    go_wp2
    go_ret
    exact ⟨by simp, hB0⟩
  · have d1 : decide (n ≥ 0) = false := decide_eq_false h1
    have e1 : (decide (0 ≤ n) && decide (n < nm)) = false := by rw [decide_eq_false (show ¬ 0 ≤ n from h1)]; rfl
    rw [e1]
    clear e1 h1
    go_enter Tryd.func23, Tryd.ntmps23
    go_wp2
    go_ret
    exact ⟨by simp, hB0⟩

set_option maxHeartbeats 1000000 in
theorem isLevel_any (g : Gm) (pv lv : Value) (sa : Option Addr) (m sc : Nat) (n : Int) (w : World) :
    Calls Tryd.prog 26 #[gv g pv lv (.slice sa m sc), .int .i64 n] w fun e w' => e = .returned (.bool (lvlB m n)) ∧ Below w.heap.size w w' := by
  have hB0 := boxG_below w g pv lv (.slice sa m sc)
  unfold boxG gvs at hB0
  unfold gv gvs lvlB
  obtain ⟨t, nm, s, ps, ls, ss⟩ := g
  simp only at *
  by_cases h1 : n ≥ 0
  · have d1 : decide (n ≥ 0) = true := decide_eq_true h1
    have e1 : (decide (0 ≤ n) && decide (n ≤ (m : Int))) = decide (n ≤ (m : Int)) := by rw [decide_eq_true (show 0 ≤ n from h1), Bool.true_and]
    rw [e1]
    clear e1 h1
    go_enter Tryd.func26, Tryd.ntmps26
    go_wp2
    go_ret
    exact ⟨by simp, hB0⟩
  · have d1 : decide (n ≥ 0) = false := decide_eq_false h1
    have e1 : (decide (0 ≤ n) && decide (n ≤ (m : Int))) = false := by rw [decide_eq_false (show ¬ 0 ≤ n from h1)]; rfl
    rw [e1]
    clear e1 h1
    go_enter Tryd.func26, Tryd.ntmps26
    go_wp2
    go_ret
    exact ⟨by simp, hB0⟩

set_option maxHeartbeats 1000000 in
theorem isSymbol_any (g : Gm) (pv lv sv : Value) (x : Int) (hx : I64 x) (ht : 0 ≤ g.terms) (hn : 0 ≤ g.names) (w : World) :
    Calls Tryd.prog 53 #[gv g pv lv sv, .int .i64 x] w fun e w' => e = .returned (.bool (symB g.terms g.names x)) ∧ Below w.heap.size w w' := by
  have hB0 := boxG_below w g pv lv sv
  have hB2 := boxG_box w g pv lv sv
  have HNM : Hid (∀ w', Calls Tryd.prog 23 #[gv g pv lv sv, .int .i64 (-1 - x)] w' fun e w'' => e = .returned (.bool (decide (0 ≤ -1 - x) && decide (-1 - x < g.names))) ∧ Below w'.heap.size w' w'') := fun w' => isName_any g pv lv sv _ w'
  obtain ⟨q0, q1, q2, q3, q4, q5, q6⟩ := hB2
  unfold boxG gvs at *
  unfold gv gvs at *
  obtain ⟨t, nm, s, ps, ls, ss⟩ := g
  simp only at *
  have hN := nameOf_any x hx
  clear hx
  by_cases h1 : x < 0
  · have HE : Hid (symB t nm x = (decide (0 ≤ -1 - x) && decide (-1 - x < nm))) := by
      show _ = _; unfold symB
      rw [Bool.eq_iff_iff]; simp; omega
    rw [HE.out]
    clear HE
    generalize (decide (0 ≤ -1 - x) && decide (-1 - x < nm)) = bb at *
    have d1 : decide (x < 0) = true := decide_eq_true h1
    go_enter Tryd.func53, Tryd.ntmps53
    go_wp2_with fail
    refine (hN _).mono ?_
    rintro e w1 ⟨rfl, rfl⟩
    rw [d1]
    go_wp2_with fail
    refine (HNM.out _).mono ?_
    rintro e w2 ⟨rfl, hb⟩
    have hb2 := hB0.trans (hb.mono hB0.size)
    clear hb
    go_wp2
    go_ret
    exact ⟨rfl, hb2⟩
  · have HE : Hid (symB t nm x = decide (x < t)) := by
      show _ = _; unfold symB
      rw [Bool.eq_iff_iff]; simp; omega
    have d1 : decide (x < 0) = false := decide_eq_false h1
    go_enter Tryd.func53, Tryd.ntmps53
    go_wp2_with fail
    refine (hN _).mono ?_
    rintro e w1 ⟨rfl, rfl⟩
    rw [d1]
    go_wp2
    go_ret
    exact ⟨by rw [HE.out]; rfl, hB0⟩

/-- a function value that tells of a number, by what it has kept -/
def Tells (w : World) (F : Nat) (cap : Value) (f : Int → Bool) (l : List Int) : Prop :=
  ∀ (w' : World) (x : Int), x ∈ l → Below w.heap.size w w' → Calls Tryd.prog F #[.int .i64 x, cap] w' fun e w'' => e = .returned (.bool (f x)) ∧ Below w'.heap.size w' w''

set_option maxHeartbeats 2000000 in
theorem indexI_any (F : Nat) (hen : ∀ args w, (callFunc F args).run Tryd.prog w = .ok (.enter F args) w) (cap v : Value) (f : Int → Bool) (l : List Int) (w : World) (hl : l.length ≤ 1000) (hv : IntsR w v l) (hf : Tells w F cap f l) :
    Calls Tryd.prog 50 #[v, .func (.func F) #[] #[cap]] w fun e w' => ∃ z, e = .returned (.int .i64 z) ∧ decide (z ≥ 0) = l.any f ∧ Below w.heap.size w w' := by
  obtain ⟨a, c, rfl⟩ := hv.slice
  have HV : Hid (IntsR w (.slice a l.length c) l) := hv
  have HF : Hid (Tells w F cap f l) := hf
  clear hv hf
  go_enter Tryd.func50, Tryd.ntmps50
  go_wp2
  go_loopw [8] (fun i wr => ∃ k : Nat, k ≤ l.length ∧ i = .int .i64 k ∧ Hid (l.any f = (l.drop k).any f) ∧ Below w.heap.size w wr) (fun i _ => l.length - (intOf i).toNat)
  case atStart => exact ⟨0, Nat.zero_le _, rfl, (by show _ = _; rw [List.drop_zero]), Below.refl _ _⟩
  case round =>
    obtain ⟨k, hk, rfl, HM, hbw⟩ := hrel
    by_cases hlt : k < l.length
    · obtain ⟨b, off, rfl, hb, hc⟩ := (HV.out.below hbw).at hlt
      have HA : Hid ((l.drop k).any f = (f (l.getD k 0) || (l.drop (k + 1)).any f)) := by
        show _ = _
        rw [List.drop_eq_getElem_cons hlt, List.any_cons]
        simp [List.getD, hlt]
      have hC := HF.out wr (l.getD k 0) (by simp [List.getD, hlt]) hbw
      generalize l.getD k 0 = x at *
      go_wp2_with fail
      refine hC.mono ?_
      rintro e w2 ⟨rfl, hb2⟩
      have hbw2 := hbw.trans (hb2.mono hbw.size)
      clear hC hb2
      by_cases hfx : f x = true
      · rw [hfx]
        have HZ : Hid (decide ((k : Int) ≥ 0) = l.any f) := by show _ = _; rw [HM.out, HA.out, hfx]; simp
        go_wp2
        go_ret
        exact ⟨_, rfl, HZ.out, hbw2⟩
      · have hfx2 : f x = false := by simpa using hfx
        rw [hfx2]
        have HZ : Hid (l.any f = (l.drop (k + 1)).any f) := by show _ = _; rw [HM.out, HA.out, hfx2, Bool.false_or]
        clear hfx
        go_wp2
        go_roundw
        case rel => exact ⟨k + 1, by omega, by go_num, HZ, hbw2⟩
        case measure => simp [intOf]; omega
    · have HZ : Hid (decide ((-1 : Int) ≥ 0) = l.any f) := by
        show _ = _; rw [HM.out, List.drop_eq_nil_of_le (by omega)]; rfl
      go_wp2
      go_ret
      exact ⟨_, rfl, HZ.out, hbw⟩

set_option maxHeartbeats 2000000 in
theorem containsI_any (F : Nat) (hen : ∀ args w, (callFunc F args).run Tryd.prog w = .ok (.enter F args) w) (cap v : Value) (f : Int → Bool) (l : List Int) (w : World) (hl : l.length ≤ 1000) (hv : IntsR w v l) (hf : Tells w F cap f l) :
    Calls Tryd.prog 24 #[v, .func (.func F) #[] #[cap]] w fun e w' => e = .returned (.bool (l.any f)) ∧ Below w.heap.size w w' := by
  have hC := indexI_any F hen cap v f l w hl hv hf
  obtain ⟨a, c, rfl⟩ := hv.slice
  clear hv hf
  go_enter Tryd.func24, Tryd.ntmps24
  go_wp2_with fail
  refine hC.mono ?_
  rintro e w2 ⟨z, rfl, hz, hb2⟩
  have HZ : Hid (decide (z ≥ 0) = l.any f) := hz
  clear hz
  go_wp2
  go_ret
  exact ⟨by rw [← HZ.out]; rfl, hb2⟩

end Go.Proofs.YtmkimaceioacgaaDoor
