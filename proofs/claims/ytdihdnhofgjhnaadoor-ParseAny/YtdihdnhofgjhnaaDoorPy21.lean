/- Texts of the proof, put together: YPil. -/
import Derived.Test.YtdihdnhofgjhnaaDoorPy20
namespace Go.Proofs.YtdihdnhofgjhnaaDoor
open Go.RowKit
set_option linter.unusedVariables false
set_option maxRecDepth 100000

/-- a pile in memory -/
def PilM (ok : Nat → Prop) (w : World) : Value → Pl → Prop
  | v, [] => ∃ b, v = .pointer (some ⟨b, 0, none⟩) ∧ w.heap[b]? = some (.cells #[.pointer none, .int .i64 0, .pointer none, .int .i64 0] 86 (0, 0))
  | v, x :: σ => ∃ b pv tq, v = .pointer (some ⟨b, 0, none⟩) ∧ w.heap[b]? = some (.cells #[pv, .int .i64 ((σ.length + 1 : Nat) : Int), .pointer (some ⟨tq, 0, none⟩), .int .i64 x.2] 86 (0, 0)) ∧ Tree ok w (.pointer (some ⟨tq, 0, none⟩)) x.1 ∧ PilM ok w pv σ
theorem PilM.moved {ok ok' : Nat → Prop} {w w' : World} (hs : w.heap.size ≤ w'.heap.size) (hk : ∀ b, b < w.heap.size → ok b → ok' b ∧ w'.heap[b]? = w.heap[b]?) (hp : ∀ (b : Nat) (cs : Array Value), w.heap[b]? = some (Obj.cells cs 86 (0, 0)) → w'.heap[b]? = w.heap[b]?) : ∀ (σ : Pl) {v : Value}, PilM ok w v σ → PilM ok' w' v σ
  | [], v, ⟨b, h1, h2⟩ => ⟨b, h1, (hp b _ h2).trans h2⟩
  | x :: σ, v, ⟨b, pv, tq, h1, h2, h3, h4⟩ => ⟨b, pv, tq, h1, (hp b _ h2).trans h2, h3.moved hs hk, PilM.moved hs hk hp σ h4⟩
theorem PilM.below {ok : Nat → Prop} {w w' : World} {σ : Pl} {v : Value} (h : PilM ok w v σ) (hb : Below w.heap.size w w') : PilM ok w' v σ :=
  h.moved hb.size (fun b h1 h2 => ⟨h2, hb.block b h1⟩) (fun b cs h => hb.block b (Array.getElem?_eq_some_iff.1 h).1) σ
/-- a block that is no pile's, and that no tree lies in, is written -/
theorem PilM.keep {w w' : World} {σ : Pl} {v : Value} {P : Nat} {cs : Array Value} {ty : TypeId} (h : PilM (fun b => b ≠ P) w v σ) (hP : w.heap[P]? = some (.cells cs ty (0, 0))) (hty : ty ≠ 86) (hg : w.grownBy w' (some P)) : PilM (fun b => b ≠ P) w' v σ :=
  h.moved hg.size (fun b h1 h2 => ⟨h2, hg.block b h1 (by simpa using h2)⟩) (fun b cs' hb => hg.block b (Array.getElem?_eq_some_iff.1 hb).1 (by
    intro e
    obtain rfl := Option.some.inj e
    rw [hP] at hb
    simp at hb
    exact hty hb.2)) σ
/-- the head of a pile -/
theorem PilM.head {ok : Nat → Prop} {w : World} : ∀ {σ : Pl} {v : Value}, PilM ok w v σ → ∃ b pv tv, v = .pointer (some ⟨b, 0, none⟩) ∧ b < w.heap.size ∧ w.heap[b]? = some (.cells #[pv, .int .i64 (σ.length : Nat), .pointer tv, .int .i64 (topS σ)] 86 (0, 0))
  | [], v, ⟨b, h1, h2⟩ => ⟨b, _, none, h1, (Array.getElem?_eq_some_iff.1 h2).1, h2⟩
  | x :: σ, v, ⟨b, pv, tq, h1, h2, h3, h4⟩ => ⟨b, pv, some ⟨tq, 0, none⟩, h1, (Array.getElem?_eq_some_iff.1 h2).1, h2⟩

set_option maxHeartbeats 4000000 in
theorem with_any (ok : Nat → Prop) (σ : Pl) (v : Value) (tq : Nat) (s : Int) (w : World) (h : PilM ok w v σ) (hl : σ.length ≤ 1000000) :
    Calls Tryd.prog 62 #[v, .pointer (some ⟨tq, 0, none⟩), .int .i64 s] w fun e w' => e = .returned (.pointer (some ⟨w.heap.size, 0, none⟩)) ∧ w' = w.alloc (.cells #[v, .int .i64 ((σ.length + 1 : Nat) : Int), .pointer (some ⟨tq, 0, none⟩), .int .i64 s] 86) := by
  obtain ⟨b, pv, tv, rfl, hb, hc⟩ := h.head
  have c1 : w.cell? ⟨b, 1, none⟩ = some (.int .i64 (σ.length : Nat)) := by simp [World.cell?, hc]
  clear h hc
  generalize σ.length = n at *
  have hwn : IntKind.i64.wrap ((n : Int) + 1) = (n : Int) + 1 := by rw [IntKind.wrap_i64]; omega
  go_enter Tryd.func62, Tryd.ntmps62
  go_wp2
  go_ret
  exact ⟨rfl, by simp⟩

/-- what is put onto a pile -/
theorem PilM.push {ok : Nat → Prop} {w : World} {σ : Pl} {v : Value} {tq : Nat} {x : Tr × Int} (h : PilM ok w v σ) (ht : Tree ok w (.pointer (some ⟨tq, 0, none⟩)) x.1) :
    PilM ok (w.alloc (.cells #[v, .int .i64 ((σ.length + 1 : Nat) : Int), .pointer (some ⟨tq, 0, none⟩), .int .i64 x.2] 86)) (.pointer (some ⟨w.heap.size, 0, none⟩)) (x :: σ) := by
  have hb := alloc_below w (.cells #[v, .int .i64 ((σ.length + 1 : Nat) : Int), .pointer (some ⟨tq, 0, none⟩), .int .i64 x.2] 86)
  exact ⟨w.heap.size, v, tq, rfl, heap_alloc_new w _, ht.moved hb.size (fun b h1 h2 => ⟨h2, hb.block b h1⟩), h.below hb⟩

theorem own_setIn {w : World} {e : TypeId} {B g cap n j : Nat} {vs : List Value} {x : Value} (h : w.ownsRow B e 1 (.slice (some ⟨g, 0, none⟩) n cap) n vs) (hj : j < n) : (w.setCell ⟨g, j, none⟩ x).ownsRow B e 1 (.slice (some ⟨g, 0, none⟩) n cap) n (vs.set j x) := by
  refine ⟨by simpa using h.1, ?_⟩
  rcases h.2 with ⟨e0, _⟩ | ⟨g', cap', cur, e0, h1, h2, h3, h4, h5, h6⟩
  · simp at e0
  · simp only [Value.slice.injEq, Option.some.injEq, Addr.mk.injEq, and_true, true_and] at e0
    obtain ⟨rfl, rfl⟩ := e0
    have h7 := heap_setCell_same w g j cur e x h2
    refine .inr ⟨g, cap, _, rfl, h1, h7, h3, h4, by simpa using h5, ?_⟩
    rw [← h6]
    simp [List.take_set]
/-- turned round as far as this -/
def revP (us : List Value) (i : Nat) : List Value := (List.range us.length).map fun k => if k < i ∨ us.length - i ≤ k then us.getD (us.length - 1 - k) .nilFunc else us.getD k .nilFunc
theorem revP_len (us : List Value) (i : Nat) : (revP us i).length = us.length := by simp [revP]
theorem revP_get (us : List Value) (i k : Nat) (h : k < us.length) : (revP us i).getD k .nilFunc = if k < i ∨ us.length - i ≤ k then us.getD (us.length - 1 - k) .nilFunc else us.getD k .nilFunc := by
  simp [revP, List.getD_eq_getElem?_getD, h]
theorem revP_zero (us : List Value) : revP us 0 = us := by
  apply List.ext_getElem (revP_len us 0)
  intro k h1 h2
  have := revP_get us 0 k h2
  rw [if_neg (by omega)] at this
  simpa [List.getD_eq_getElem?_getD, h1, h2] using this
theorem revP_step (us : List Value) (i : Nat) (h : i < us.length - 1 - i) : ((revP us i).set i (us.getD (us.length - 1 - i) .nilFunc)).set (us.length - 1 - i) (us.getD i .nilFunc) = revP us (i + 1) := by
  apply List.ext_getElem (by simp [revP_len])
  intro k h1 h2
  have hk : k < us.length := by simpa [revP_len] using h2
  have e1 := revP_get us (i + 1) k hk
  have e2 := revP_get us i k hk
  rw [List.getElem_set, List.getElem_set]
  have g1 : (revP us (i + 1))[k] = (revP us (i + 1)).getD k .nilFunc := by simp [List.getD_eq_getElem?_getD, h2]
  have g2 : (revP us i)[k]'(by rw [revP_len]; exact hk) = (revP us i).getD k .nilFunc := by simp [List.getD_eq_getElem?_getD, revP_len, hk]
  rw [g1, g2, e1, e2]
  by_cases c1 : us.length - 1 - i = k
  · rw [if_pos c1, if_pos (by omega), ← c1, show us.length - 1 - (us.length - 1 - i) = i by omega]
  · rw [if_neg c1]
    by_cases c2 : i = k
    · rw [if_pos c2, if_pos (by omega), c2]
    · rw [if_neg c2]
      by_cases c3 : k < i ∨ us.length - i ≤ k
      · rw [if_pos c3, if_pos (by omega)]
      · rw [if_neg c3, if_neg (by omega)]
theorem revP_end (us : List Value) (i : Nat) (h : us.length - 1 - i ≤ i) : revP us i = us.reverse := by
  apply List.ext_getElem (by simp [revP_len])
  intro k h1 h2
  have hk : k < us.length := by simpa using h2
  have e1 := revP_get us i k hk
  have g1 : (revP us i)[k] = (revP us i).getD k .nilFunc := by simp [List.getD_eq_getElem?_getD, h1]
  rw [g1, e1, List.getElem_reverse]
  by_cases c : k < i ∨ us.length - i ≤ k
  · rw [if_pos c]
    simp [List.getD_eq_getElem?_getD, show us.length - 1 - k < us.length by omega]
  · rw [if_neg c]
    have : us.length - 1 - k = k := by omega
    simp [List.getD_eq_getElem?_getD, hk, this]

end Go.Proofs.YtdihdnhofgjhnaaDoor
