/- Texts of the proof, put together: YPur, YMem. -/
import Derived.Test.YtdihdnhofgjhnaaDoorPy06
import Derived.Test.YtdihdnhofgjhnaaDoorPy07
namespace Go.Proofs.YtdihdnhofgjhnaaDoor
set_option linter.unusedVariables false

/-- an act, and a table -/
structure Ac where
  kind : Int
  to : Int
def noAc : Ac := ⟨0, 0⟩
structure Tb where
  acts : List (List Ac)
  gotos : List (List Int)
/-- may an act stand there? -/
def actB (e : Bool) (n m : Nat) (a : Ac) : Bool :=
  (decide (a.kind = 0) && decide (a.to = 0)) || (decide (a.kind = 1) && decide (0 ≤ a.to) && decide (a.to < n) && !e) || (decide (a.kind = 2) && decide (0 ≤ a.to) && decide (a.to < m)) || (decide (a.kind = 3) && decide (a.to = 0) && e)
/-- may the acts of a state be these? the last one stands at the end -/
def actsB (t : Int) (n m : Nat) (l : List Ac) : Bool := decide ((l.length : Int) = t + 1) && (List.range l.length).all fun k => actB (decide ((k : Int) = t)) n m (l.getD k noAc)
def gotoB (n : Nat) (x : Int) : Bool := decide (-1 ≤ x) && decide (x < n)
def gotosB (names : Int) (n : Nat) (l : List Int) : Bool := decide ((l.length : Int) = names) && l.all (gotoB n)
def tabB (g : Gm) (tb : Tb) : Bool := decide (1 ≤ tb.acts.length ∧ tb.acts.length ≤ 2000 ∧ tb.gotos.length = tb.acts.length) && (List.range tb.acts.length).all fun s => actsB g.terms tb.acts.length g.prods.length (tb.acts.getD s []) && gotosB g.names tb.acts.length (tb.gotos.getD s [])
/-- does a table fit a grammar? -/
def fitsB (g : Gm) (tb : Tb) : Bool := gOkB g && tabB g tb

/-- the trees so far, each with the state behind it, the last one first -/
abbrev Pl := List (Tr × Int)
def topS (σ : Pl) : Int := match σ with
  | [] => 0
  | x :: _ => x.2
def prodOf (g : Gm) (p : Int) : PdR := g.prods.getD p.toNat noPd
def gotoOf (tb : Tb) (s n : Int) : Int := (tb.gotos.getD s.toNat []).getD n.toNat 0
def actOf (tb : Tb) (s t : Int) : Ac := (tb.acts.getD s.toNat []).getD t.toNat noAc
def nodeT (p : Int) (ks : List Tr) : Tr := ⟨true, p, 0, ks⟩
def leafT (a : Nat) : Tr := ⟨true, -1, a, []⟩
/-- a reduction; none: it can not be done -/
def redS (g : Gm) (tb : Tb) (p : Int) (σ : Pl) : Option Pl :=
  if σ.length < (prodOf g p).right.length then none
  else if gotoOf tb (topS (σ.drop (prodOf g p).right.length)) (prodOf g p).left < 0 then none
  else some ((nodeT p ((σ.take (prodOf g p).right.length).map Prod.fst).reverse, gotoOf tb (topS (σ.drop (prodOf g p).right.length)) (prodOf g p).left) :: σ.drop (prodOf g p).right.length)
/-- is it the one tree of Start? -/
def accB (g : Gm) (σ : Pl) : Bool := match σ with
  | [x] => decide (0 ≤ x.1.prod) && decide ((prodOf g x.1.prod).left = g.start)
  | _ => false
/-- reductions ahead of a terminal, at most so many: a code (0: a shift or the end, 7, 2, 3: errors), the state of the shift, the trees -/
def setS (g : Gm) (tb : Tb) (t : Int) : Nat → Pl → Int × Int × Pl
  | 0, σ => if (actOf tb (topS σ) t).kind = 0 then (7, 0, σ) else if (actOf tb (topS σ) t).kind = 1 then (0, (actOf tb (topS σ) t).to, σ) else if (actOf tb (topS σ) t).kind = 3 then (if accB g σ then (0, 0, σ) else (3, 0, σ)) else (2, 0, σ)
  | m + 1, σ => if (actOf tb (topS σ) t).kind = 0 then (7, 0, σ) else if (actOf tb (topS σ) t).kind = 1 then (0, (actOf tb (topS σ) t).to, σ) else if (actOf tb (topS σ) t).kind = 3 then (if accB g σ then (0, 0, σ) else (3, 0, σ)) else match redS g tb (actOf tb (topS σ) t).to σ with
    | none => (3, 0, σ)
    | some σ' => setS g tb t m σ'
/-- terminals read from the left: a code, where, the trees -/
def readS (g : Gm) (tb : Tb) : List Int → Nat → Pl → Int × Nat × Pl
  | [], i, σ => (0, i, σ)
  | x :: r, i, σ => if x < 0 ∨ g.terms ≤ x then (7, i, σ) else if (setS g tb x 10000 σ).1 = 0 then readS g tb r (i + 1) ((leafT i, (setS g tb x 10000 σ).2.1) :: (setS g tb x 10000 σ).2.2) else ((setS g tb x 10000 σ).1, i, (setS g tb x 10000 σ).2.2)
/-- the whole: a code, where, the tree -/
def parseS (g : Gm) (tb : Tb) (inp : List Int) : Int × Nat × Tr :=
  if (readS g tb inp 0 []).1 = 0 then (if (setS g tb g.terms 10000 (readS g tb inp 0 []).2.2).1 = 0 then (0, 0, ((setS g tb g.terms 10000 (readS g tb inp 0 []).2.2).2.2.headD (nilT, 0)).1) else ((setS g tb g.terms 10000 (readS g tb inp 0 []).2.2).1, inp.length, nilT))
  else ((readS g tb inp 0 []).1, (readS g tb inp 0 []).2.1, nilT)
/-- what may stand next, up to a terminal -/
def nextUp (g : Gm) (tb : Tb) (σ : Pl) : Nat → List Int
  | 0 => []
  | k + 1 => nextUp g tb σ k ++ (if (setS g tb k 10000 σ).1 = 0 then [(k : Int)] else [])
def nextS (g : Gm) (tb : Tb) (inp : List Int) : List Int := if (readS g tb inp 0 []).1 = 0 then nextUp g tb (readS g tb inp 0 []).2.2 (g.terms.toNat + 1) else []

/-- trees and states that a parser with a table that fits can have -/
structure PlOk (g : Gm) (tb : Tb) (σ : Pl) : Prop where
  states : ∀ x ∈ σ, 0 ≤ x.2 ∧ x.2 < tb.acts.length
  trees : ∀ x ∈ σ, x.1.is = true ∧ -1 ≤ x.1.prod ∧ x.1.prod < g.prods.length
theorem fits_parts {g : Gm} {tb : Tb} (h : fitsB g tb = true) : gOkB g = true ∧ 1 ≤ tb.acts.length ∧ tb.acts.length ≤ 2000 ∧ tb.gotos.length = tb.acts.length ∧ ∀ s, s < tb.acts.length → actsB g.terms tb.acts.length g.prods.length (tb.acts.getD s []) = true ∧ gotosB g.names tb.acts.length (tb.gotos.getD s []) = true := by
  unfold fitsB tabB at h
  simp only [Bool.and_eq_true, decide_eq_true_eq, List.all_eq_true, List.mem_range] at h
  exact ⟨h.1, h.2.1.1, h.2.1.2.1, h.2.1.2.2, fun s hs => h.2.2 s hs⟩
theorem topS_ok {g : Gm} {tb : Tb} {σ : Pl} (h : PlOk g tb σ) (hn : 1 ≤ tb.acts.length) : 0 ≤ topS σ ∧ topS σ < tb.acts.length := by
  cases σ with
  | nil => exact ⟨by simp [topS], by simp [topS]; omega⟩
  | cons x σ => exact h.states x (by simp)
theorem PlOk.drop {g : Gm} {tb : Tb} {σ : Pl} (h : PlOk g tb σ) (k : Nat) : PlOk g tb (σ.drop k) := ⟨fun x hx => h.states x (List.mem_of_mem_drop hx), fun x hx => h.trees x (List.mem_of_mem_drop hx)⟩
/-- an act of a table that fits -/
theorem act_ok {g : Gm} {tb : Tb} (h : fitsB g tb = true) {s t : Int} (hs : 0 ≤ s ∧ s < tb.acts.length) (ht : 0 ≤ t ∧ t ≤ g.terms) : t.toNat < (tb.acts.getD s.toNat []).length ∧ actB (decide (t = g.terms)) tb.acts.length g.prods.length (actOf tb s t) = true := by
  obtain ⟨_, _, _, _, hall⟩ := fits_parts h
  have h1 := (hall s.toNat (by omega)).1
  unfold actsB at h1
  simp only [Bool.and_eq_true, decide_eq_true_eq, List.all_eq_true, List.mem_range] at h1
  have hl : t.toNat < (tb.acts.getD s.toNat []).length := by omega
  have h2 := h1.2 t.toNat hl
  rw [show ((t.toNat : Nat) : Int) = t by omega] at h2
  exact ⟨hl, h2⟩
theorem goto_ok {g : Gm} {tb : Tb} (h : fitsB g tb = true) {s n : Int} (hs : 0 ≤ s ∧ s < tb.acts.length) (hn : 0 ≤ n ∧ n < g.names) : n.toNat < (tb.gotos.getD s.toNat []).length ∧ -1 ≤ gotoOf tb s n ∧ gotoOf tb s n < tb.acts.length := by
  obtain ⟨_, _, _, _, hall⟩ := fits_parts h
  have h1 := (hall s.toNat (by omega)).2
  unfold gotosB at h1
  simp only [Bool.and_eq_true, decide_eq_true_eq, List.all_eq_true] at h1
  have hl : n.toNat < (tb.gotos.getD s.toNat []).length := by omega
  have h2 := h1.2 (gotoOf tb s n) (by
    unfold gotoOf
    rw [List.getD_eq_getElem?_getD (l := tb.gotos.getD s.toNat []), List.getElem?_eq_getElem hl]
    exact List.getElem_mem hl)
  unfold gotoB at h2
  simp only [Bool.and_eq_true, decide_eq_true_eq] at h2
  exact ⟨hl, h2.1, h2.2⟩

end Go.Proofs.YtdihdnhofgjhnaaDoor

namespace Go.Proofs.YtdihdnhofgjhnaaDoor
open Go.RowKit
set_option linter.unusedVariables false
set_option maxRecDepth 100000

/-- acts in memory -/
def AcsM (w : World) (v : Value) (l : List Ac) : Prop := ∃ a c, v = .slice a l.length c ∧ (l = [] ∨ ∃ b off, a = some ⟨b, off, none⟩ ∧ b < w.heap.size ∧ ∀ j, j < l.length → w.cell? ⟨b, off + j * 2, none⟩ = some (.int .i64 (l.getD j noAc).kind) ∧ w.cell? ⟨b, off + j * 2 + 1, none⟩ = some (.int .i64 (l.getD j noAc).to))
/-- rows of rows in memory -/
def RowsM {α : Type} (R : World → Value → List α → Prop) (w : World) (v : Value) (ll : List (List α)) : Prop := ∃ a c, v = .slice a ll.length c ∧ (ll = [] ∨ ∃ b off, a = some ⟨b, off, none⟩ ∧ b < w.heap.size ∧ ∀ j, j < ll.length → ∃ rv, w.cell? ⟨b, off + j, none⟩ = some rv ∧ R w rv (ll.getD j []))
theorem AcsM.slice {w : World} {v : Value} {l : List Ac} (h : AcsM w v l) : ∃ a c, v = .slice a l.length c := by
  obtain ⟨a, c, e, _⟩ := h; exact ⟨a, c, e⟩
theorem AcsM.below {w w' : World} {v : Value} {l : List Ac} (h : AcsM w v l) (hb : Below w.heap.size w w') : AcsM w' v l := by
  obtain ⟨a, c, h1, h2⟩ := h
  exact ⟨a, c, h1, h2.imp id fun ⟨g, off, e, hg, hc⟩ => ⟨g, off, e, Nat.lt_of_lt_of_le hg hb.size, fun j hj => ⟨(hb.cell (p := ⟨g, off + j * 2, none⟩) hg).trans (hc j hj).1, (hb.cell (p := ⟨g, off + j * 2 + 1, none⟩) hg).trans (hc j hj).2⟩⟩⟩
theorem AcsM.at {w : World} {a : Option Addr} {n c : Nat} {l : List Ac} (h : AcsM w (.slice a n c) l) {k : Nat} (hk : k < l.length) : ∃ b off, a = some ⟨b, off, none⟩ ∧ b < w.heap.size ∧ w.cell? ⟨b, off + k * 2, none⟩ = some (.int .i64 (l.getD k noAc).kind) ∧ w.cell? ⟨b, off + k * 2 + 1, none⟩ = some (.int .i64 (l.getD k noAc).to) := by
  obtain ⟨a', c', e, h2⟩ := h
  obtain ⟨rfl, rfl, rfl⟩ : a = a' ∧ n = l.length ∧ c = c' := by simpa using e
  rcases h2 with rfl | ⟨b, off, rfl, hb, hc⟩
  · simp at hk
  · exact ⟨b, off, rfl, hb, hc k hk⟩
theorem RowsM.slice {α : Type} {R : World → Value → List α → Prop} {w : World} {v : Value} {l : List (List α)} (h : RowsM R w v l) : ∃ a c, v = .slice a l.length c := by
  obtain ⟨a, c, e, _⟩ := h; exact ⟨a, c, e⟩
theorem RowsM.below {α : Type} {R : World → Value → List α → Prop} {w w' : World} {v : Value} {l : List (List α)} (h : RowsM R w v l) (hb : Below w.heap.size w w') (hR : ∀ v l, R w v l → R w' v l) : RowsM R w' v l := by
  obtain ⟨a, c, h1, h2⟩ := h
  refine ⟨a, c, h1, h2.imp id fun ⟨g, off, e, hg, hc⟩ => ⟨g, off, e, Nat.lt_of_lt_of_le hg hb.size, fun j hj => ?_⟩⟩
  obtain ⟨rv, h3, h4⟩ := hc j hj
  exact ⟨rv, (hb.cell (p := ⟨g, off + j, none⟩) hg).trans h3, hR _ _ h4⟩
theorem RowsM.at {α : Type} {R : World → Value → List α → Prop} {w : World} {a : Option Addr} {n c : Nat} {l : List (List α)} (h : RowsM R w (.slice a n c) l) {k : Nat} (hk : k < l.length) : ∃ b off rv, a = some ⟨b, off, none⟩ ∧ b < w.heap.size ∧ w.cell? ⟨b, off + k, none⟩ = some rv ∧ R w rv (l.getD k []) := by
  obtain ⟨a', c', e, h2⟩ := h
  obtain ⟨rfl, rfl, rfl⟩ : a = a' ∧ n = l.length ∧ c = c' := by simpa using e
  rcases h2 with rfl | ⟨b, off, rfl, hb, hc⟩
  · simp at hk
  · obtain ⟨rv, h3, h4⟩ := hc k hk
    exact ⟨b, off, rv, rfl, hb, h3, h4⟩
/-- a table in memory -/
structure TbM (w : World) (tb : Tb) (av ov cv : Value) : Prop where
  acts : RowsM AcsM w av tb.acts
  gotos : RowsM IntsR w ov tb.gotos
  conf : ∃ a n c, cv = .slice a n c
theorem TbM.below {w w' : World} {tb : Tb} {av ov cv : Value} (h : TbM w tb av ov cv) (hb : Below w.heap.size w w') : TbM w' tb av ov cv :=
  ⟨h.acts.below hb fun _ _ h => h.below hb, h.gotos.below hb fun _ _ h => h.below hb, h.conf⟩
def tvs (av ov cv : Value) : Array Value := #[av, ov, cv]
def tvv (av ov cv : Value) : Value := .agg (tvs av ov cv)

end Go.Proofs.YtdihdnhofgjhnaaDoor
