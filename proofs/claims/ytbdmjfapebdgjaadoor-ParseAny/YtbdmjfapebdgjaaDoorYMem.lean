/- Tables in memory. -/
import Derived.Test.YtbdmjfapebdgjaaDoorYPur
namespace Go.Proofs.YtbdmjfapebdgjaaDoor
open Go.RowKit
set_option linter.unusedVariables false
set_option maxRecDepth 100000

/-- acts in memory -/
def AcsM (w : World) (v : Value) (l : List Ac) : Prop := ∃ a c, v = .slice a l.length c ∧ (l = [] ∨ ∃ b off, a = some ⟨b, off, none⟩ ∧ b < w.heap.size ∧ ∀ j, j < l.length → w.cell? ⟨b, off + j * 2, none⟩ = some (.int .i64 (l.getD j noAc).kind) ∧ w.cell? ⟨b, off + j * 2 + 1, none⟩ = some (.int .i64 (l.getD j noAc).to))
/-- rows of rows in memory -/
def RowsM {α : Type} (R : World → Value → List α → Prop) (w : World) (v : Value) (ll : List (List α)) : Prop := ∃ a c, v = .slice a ll.length c ∧ (ll = [] ∨ ∃ b off, a = some ⟨b, off, none⟩ ∧ b < w.heap.size ∧ ∀ j, j < ll.length → ∃ rv, w.cell? ⟨b, off + j, none⟩ = some rv ∧ R w rv (ll.getD j []))
theorem AcsM.slice {w : World} {v : Value} {l : List Ac} (h : AcsM w v l) : ∃ a c, v = .slice a l.length c := by
  obtain ⟨a, c, e, _⟩ := h; exact ⟨a, c, e⟩
theorem AcsM.below {w w' : World} {v : Value} {l : List Ac} (h : AcsM w v l) (hb : Below w.heap.size w w') : AcsM w' v l := by
  obtain ⟨a, c, h1, h2⟩ := h
  exact ⟨a, c, h1, h2.imp id fun ⟨g, off, e, hg, hc⟩ => ⟨g, off, e, Nat.lt_of_lt_of_le hg hb.size, fun j hj => ⟨(hb.cell (p := ⟨g, off + j * 2, none⟩) hg).trans (hc j hj).1, (hb.cell (p := ⟨g, off + j * 2 + 1, none⟩) hg).trans (hc j hj).2⟩⟩⟩
theorem AcsM.at {w : World} {a : Option Addr} {n c : Nat} {l : List Ac} (h : AcsM w (.slice a n c) l) {k : Nat} (hk : k < l.length) : ∃ b off, a = some ⟨b, off, none⟩ ∧ b < w.heap.size ∧ w.cell? ⟨b, off + k * 2, none⟩ = some (.int .i64 (l.getD k noAc).kind) ∧ w.cell? ⟨b, off + k * 2 + 1, none⟩ = some (.int .i64 (l.getD k noAc).to) := by
  obtain ⟨a', c', e, h2⟩ := h
  obtain ⟨rfl, rfl, rfl⟩ : a = a' ∧ n = l.length ∧ c = c' := by simpa using e
  rcases h2 with rfl | ⟨b, off, rfl, hb, hc⟩
  · simp at hk
  · exact ⟨b, off, rfl, hb, hc k hk⟩
theorem RowsM.slice {α : Type} {R : World → Value → List α → Prop} {w : World} {v : Value} {l : List (List α)} (h : RowsM R w v l) : ∃ a c, v = .slice a l.length c := by
  obtain ⟨a, c, e, _⟩ := h; exact ⟨a, c, e⟩
theorem RowsM.below {α : Type} {R : World → Value → List α → Prop} {w w' : World} {v : Value} {l : List (List α)} (h : RowsM R w v l) (hb : Below w.heap.size w w') (hR : ∀ v l, R w v l → R w' v l) : RowsM R w' v l := by
  obtain ⟨a, c, h1, h2⟩ := h
  refine ⟨a, c, h1, h2.imp id fun ⟨g, off, e, hg, hc⟩ => ⟨g, off, e, Nat.lt_of_lt_of_le hg hb.size, fun j hj => ?_⟩⟩
  obtain ⟨rv, h3, h4⟩ := hc j hj
  exact ⟨rv, (hb.cell (p := ⟨g, off + j, none⟩) hg).trans h3, hR _ _ h4⟩
theorem RowsM.at {α : Type} {R : World → Value → List α → Prop} {w : World} {a : Option Addr} {n c : Nat} {l : List (List α)} (h : RowsM R w (.slice a n c) l) {k : Nat} (hk : k < l.length) : ∃ b off rv, a = some ⟨b, off, none⟩ ∧ b < w.heap.size ∧ w.cell? ⟨b, off + k, none⟩ = some rv ∧ R w rv (l.getD k []) := by
  obtain ⟨a', c', e, h2⟩ := h
  obtain ⟨rfl, rfl, rfl⟩ : a = a' ∧ n = l.length ∧ c = c' := by simpa using e
  rcases h2 with rfl | ⟨b, off, rfl, hb, hc⟩
  · simp at hk
  · obtain ⟨rv, h3, h4⟩ := hc k hk
    exact ⟨b, off, rv, rfl, hb, h3, h4⟩
/-- a table in memory -/
structure TbM (w : World) (tb : Tb) (av ov cv : Value) : Prop where
  acts : RowsM AcsM w av tb.acts
  gotos : RowsM IntsR w ov tb.gotos
  conf : ∃ a n c, cv = .slice a n c
theorem TbM.below {w w' : World} {tb : Tb} {av ov cv : Value} (h : TbM w tb av ov cv) (hb : Below w.heap.size w w') : TbM w' tb av ov cv :=
  ⟨h.acts.below hb fun _ _ h => h.below hb, h.gotos.below hb fun _ _ h => h.below hb, h.conf⟩
def tvs (av ov cv : Value) : Array Value := #[av, ov, cv]
def tvv (av ov cv : Value) : Value := .agg (tvs av ov cv)

end Go.Proofs.YtbdmjfapebdgjaaDoor
