/- Texts of the proof, put together: Tree, PBas, PEsc, PEscW, PEscU, PPt, PCnt, PCntB. -/
import Derived.Test.YtbjohedenfindaaGreatDoorPw10
import Derived.Test.YtbjohedenfindaaGreatDoorPw03
import Derived.RegionDies
import Derived.Maps.OwnOps
namespace Go.Proofs.YtbjohedenfindaaGreatDoor
open Go.RowKit
set_option linter.unusedVariables false
set_option maxRecDepth 100000

/-- a list of ranges in memory, in a block of those that ok says -/
def RowR (ok : Nat → Prop) (w : World) (v : Value) (l : List Rg) : Prop :=
  (l = [] ∧ ∃ a c, v = .slice a 0 c) ∨ ∃ b off c, v = .slice (some ⟨b, off, none⟩) l.length c ∧ b < w.heap.size ∧ ok b ∧ ∀ j, j < l.length → w.cell? ⟨b, off + j * 2, none⟩ = some (.int .i64 (l.getD j (0, 0)).1) ∧ w.cell? ⟨b, off + j * 2 + 1, none⟩ = some (.int .i64 (l.getD j (0, 0)).2)
def KidsR (P : Value → Option Re → Prop) (ok : Nat → Prop) (w : World) (v : Value) (l : List (Option Re)) : Prop :=
  (l = [] ∧ ∃ a c, v = .slice a 0 c) ∨ ∃ g off c, v = .slice (some ⟨g, off, none⟩) l.length c ∧ g < w.heap.size ∧ ok g ∧ ∀ j, j < l.length → ∃ u, w.cell? ⟨g, off + j, none⟩ = some u ∧ P u (l.getD j none)
/-- a pattern in memory, all of it in blocks that ok says -/
def IsRe (ok : Nat → Prop) : Nat → World → Value → Re → Prop
  | 0, _, _, _ => False
  | n + 1, w, v, t => ∃ b sv kv, v = .pointer (some ⟨b, 0, none⟩) ∧ ok b ∧ w.heap[b]? = some (.cells #[.int .i64 t.kind, sv, .int .i64 t.mn, .int .i64 t.mx, kv] 48 (0, 0)) ∧ RowR ok w sv t.set ∧
    KidsR (fun u o => match o with | none => u = .pointer none | some k => IsRe ok n w u k) ok w kv t.kids
def Tree (ok : Nat → Prop) (w : World) (v : Value) (t : Re) : Prop := ∃ n, IsRe ok n w v t

theorem RowR.rngs {ok : Nat → Prop} {w : World} {v : Value} {l : List Rg} (h : RowR ok w v l) : Rngs w v l := by
  rcases h with h | ⟨b, off, c, h1, h2, _, h3⟩
  · exact Or.inl h
  · exact Or.inr ⟨b, off, c, h1, h2, h3⟩
theorem RowR.moved {ok ok' : Nat → Prop} {w w' : World} {v : Value} {l : List Rg} (h : RowR ok w v l) (hs : w.heap.size ≤ w'.heap.size) (hk : ∀ b, b < w.heap.size → ok b → ok' b ∧ w'.heap[b]? = w.heap[b]?) : RowR ok' w' v l := by
  rcases h with h | ⟨b, off, c, h1, h2, h3, h4⟩
  · exact Or.inl h
  · obtain ⟨e0, e⟩ := hk b h2 h3
    exact Or.inr ⟨b, off, c, h1, Nat.lt_of_lt_of_le h2 hs, e0, fun j hj => ⟨(World.cell?_of_block (a := ⟨b, off + j * 2, none⟩) e).trans (h4 j hj).1, (World.cell?_of_block (a := ⟨b, off + j * 2 + 1, none⟩) e).trans (h4 j hj).2⟩⟩
theorem RowR.of_own {w : World} {B : Nat} {v : Value} {l : List Rg} (h : OwnR w B v l) : RowR (fun b => B ≤ b) w v l := by
  have hr := h.rngs
  rcases hr with hr | ⟨b, off, c, h1, h2, h4⟩
  · exact Or.inl hr
  · refine Or.inr ⟨b, off, c, h1, h2, ?_, h4⟩
    rcases h.2 with ⟨rfl, h0⟩ | ⟨g, cap, cur, rfl, hB, _⟩
    · cases h1
    · cases h1; exact hB
theorem KidsR.moved {P Q : Value → Option Re → Prop} {ok ok' : Nat → Prop} {w w' : World} {v : Value} {l : List (Option Re)} (h : KidsR P ok w v l) (hs : w.heap.size ≤ w'.heap.size) (hk : ∀ g, g < w.heap.size → ok g → ok' g ∧ w'.heap[g]? = w.heap[g]?) (hP : ∀ u o, o ∈ l → P u o → Q u o) : KidsR Q ok' w' v l := by
  rcases h with h | ⟨b, off, c, h1, h2, h3, h4⟩
  · exact Or.inl h
  · obtain ⟨e1, e2⟩ := hk b h2 h3
    refine Or.inr ⟨b, off, c, h1, Nat.lt_of_lt_of_le h2 hs, e1, fun j hj => ?_⟩
    obtain ⟨u, hu, hp⟩ := h4 j hj
    refine ⟨u, (World.cell?_of_block (a := ⟨b, off + j, none⟩) e2).trans hu, hP u _ ?_ hp⟩
    rw [List.getD_eq_getElem?_getD, List.getElem?_eq_getElem hj]
    exact List.getElem_mem hj
theorem IsRe.moved {ok ok' : Nat → Prop} {w w' : World} (hs : w.heap.size ≤ w'.heap.size) (hk : ∀ b, b < w.heap.size → ok b → ok' b ∧ w'.heap[b]? = w.heap[b]?) : ∀ (n : Nat) {v : Value} {t : Re}, IsRe ok n w v t → IsRe ok' n w' v t
  | 0, _, _, h => h.elim
  | n + 1, v, t, ⟨b, sv, kv, h1, h2, h3, h4, h5⟩ => by
    have hb := hk b (Array.getElem?_eq_some_iff.1 h3).1 h2
    refine ⟨b, sv, kv, h1, hb.1, hb.2.trans h3, h4.moved hs hk, h5.moved hs hk fun u o _ hp => ?_⟩
    cases o with
    | none => exact hp
    | some k => exact IsRe.moved hs hk n hp
theorem IsRe.more {ok : Nat → Prop} {w : World} : ∀ (n m : Nat), n ≤ m → ∀ {v : Value} {t : Re}, IsRe ok n w v t → IsRe ok m w v t
  | 0, _, _, _, _, h => h.elim
  | n + 1, 0, hm, _, _, _ => by omega
  | n + 1, m + 1, hm, v, t, ⟨b, sv, kv, h1, h2, h3, h4, h5⟩ => by
    refine ⟨b, sv, kv, h1, h2, h3, h4, h5.moved (Nat.le_refl _) (fun g hg1 hg2 => ⟨hg2, rfl⟩) fun u o _ hp => ?_⟩
    cases o with
    | none => exact hp
    | some k => exact IsRe.more n m (by omega) hp
theorem Tree.moved {ok ok' : Nat → Prop} {w w' : World} {v : Value} {t : Re} (h : Tree ok w v t) (hs : w.heap.size ≤ w'.heap.size) (hk : ∀ b, b < w.heap.size → ok b → ok' b ∧ w'.heap[b]? = w.heap[b]?) : Tree ok' w' v t := by
  obtain ⟨n, h⟩ := h; exact ⟨n, h.moved hs hk⟩
theorem Tree.grown {ok : Nat → Prop} {w w' : World} {row : Option Nat} {v : Value} {t : Re} (h : Tree ok w v t) (hg : w.grownBy w' row) (hr : ∀ b, ok b → some b ≠ row) : Tree ok w' v t :=
  h.moved hg.size fun b hb hok => ⟨hok, hg.block b hb (hr b hok)⟩
theorem Tree.imp {ok ok' : Nat → Prop} {w : World} {v : Value} {t : Re} (h : Tree ok w v t) (hk : ∀ b, b < w.heap.size → ok b → ok' b) : Tree ok' w v t :=
  h.moved (Nat.le_refl _) fun b hb hok => ⟨hk b hb hok, rfl⟩
theorem Tree.ptr {ok : Nat → Prop} {w : World} {v : Value} {t : Re} (h : Tree ok w v t) : ∃ b, v = .pointer (some ⟨b, 0, none⟩) ∧ ok b := by
  obtain ⟨n, h⟩ := h
  cases n with
  | zero => exact h.elim
  | succ n => obtain ⟨b, _, _, h1, h2, _⟩ := h; exact ⟨b, h1, h2⟩

/-- pointers in a row of the reader's own -/
def PtrsOwn (w : World) (B : Nat) (v : Value) (l : List Re) : Prop := ∃ vs : List Value, vs.length = l.length ∧ w.ownsRow B 22 1 v vs.length vs ∧ ∀ j, j < l.length → ∃ t, l[j]? = some t ∧ Tree (fun b => B ≤ b ∧ v.ownBlock ≠ some b) w (vs.getD j .nilFunc) t

theorem fuel_all {ok : Nat → Prop} {w : World} : ∀ (l : List Re) (vs : List Value), vs.length = l.length → (∀ j, j < l.length → ∃ t, l[j]? = some t ∧ Tree ok w (vs.getD j .nilFunc) t) → ∃ n, ∀ j, j < l.length → ∃ t, l[j]? = some t ∧ IsRe ok n w (vs.getD j .nilFunc) t
  | [], _, _, _ => ⟨0, fun j hj => by simp at hj⟩
  | a :: l, [], h, _ => by simp at h
  | a :: l, v :: vs, h, hall => by
    obtain ⟨n, hn⟩ := fuel_all l vs (by simpa using h) (fun j hj => by
      have := hall (j + 1) (by simpa using hj)
      simpa using this)
    obtain ⟨t, ht, m, hm⟩ := hall 0 (by simp)
    refine ⟨max n m, fun j hj => ?_⟩
    cases j with
    | zero => exact ⟨t, ht, hm.more m _ (Nat.le_max_right _ _)⟩
    | succ j =>
      obtain ⟨t', h1, h2⟩ := hn j (by simpa using hj)
      exact ⟨t', by simpa using h1, by simpa using h2.more n _ (Nat.le_max_left _ _)⟩

/-- a node over kids that lie in a row of the reader's own -/
theorem tree_node {w : World} {B b : Nat} {kv sv : Value} {l : List Re} {kind mn mx : Int} {set : List Rg} (hb : w.heap[b]? = some (.cells #[.int .i64 kind, sv, .int .i64 mn, .int .i64 mx, kv] 48 (0, 0))) (hbB : B ≤ b) (hset : RowR (fun b => B ≤ b) w sv set) (hk : PtrsOwn w B kv l) :
    Tree (fun b => B ≤ b) w (.pointer (some ⟨b, 0, none⟩)) ⟨kind, set, mn, mx, l.map some⟩ := by
  obtain ⟨vs, hl, hown, hall⟩ := hk
  obtain ⟨n, hn⟩ := fuel_all (ok := fun b => B ≤ b) l vs hl (fun j hj => by
    obtain ⟨t, h1, h2⟩ := hall j hj
    exact ⟨t, h1, h2.imp fun b _ h => h.1⟩)
  refine ⟨n + 1, b, sv, kv, rfl, hbB, hb, hset, ?_⟩
  have hlt := hown.lt
  rcases hown.2 with ⟨rfl, h0⟩ | ⟨g, cap, cur, rfl, hB, _⟩
  · have : l = [] := List.eq_nil_of_length_eq_zero (by omega)
    subst this
    exact Or.inl ⟨rfl, _, _, rfl⟩
  · by_cases he : l = []
    · subst he
      have : vs.length = 0 := by simpa using hl
      exact Or.inl ⟨rfl, _, _, by rw [this]⟩
    · refine Or.inr ⟨g, 0, cap, by simp [hl], (hlt g rfl).2, hB, fun j hj => ?_⟩
      have hj' : j < l.length := by simpa using hj
      obtain ⟨t, h1, h2⟩ := hn j hj'
      refine ⟨vs.getD j .nilFunc, ?_, ?_⟩
      · have := hown.cellAt j (by omega)
        simp only [Nat.zero_add]
        rw [this]
        simp [hl, hj']
      · simp [h1]
        exact h2
/-- a pattern more behind -/
theorem PtrsOwn.snoc {w w4 : World} {B : Nat} {v v' p : Value} {l : List Re} {t : Re} {vs : List Value} {o : Obj} (hl : vs.length = l.length) (hall : ∀ j, j < l.length → ∃ t, l[j]? = some t ∧ Tree (fun b => B ≤ b ∧ v.ownBlock ≠ some b) w (vs.getD j .nilFunc) t) (hp : Tree (fun b => B ≤ b ∧ v.ownBlock ≠ some b) w p t)
    (hown : w4.ownsRow B 22 1 v' (vs.length + 1) (vs ++ [p])) (hg : (w.alloc o).grownBy w4 v.ownBlock) (hat : v'.ownBlock = v.ownBlock ∨ v'.ownBlock = some (w.alloc o).heap.size) : PtrsOwn w4 B v' (l ++ [t]) := by
  have hmv : ∀ {u : Value} {t : Re}, Tree (fun b => B ≤ b ∧ v.ownBlock ≠ some b) w u t → Tree (fun b => B ≤ b ∧ v'.ownBlock ≠ some b) w4 u t := fun h => by
    refine h.moved (Nat.le_trans (by simp) hg.size) fun b hb hok => ⟨⟨hok.1, ?_⟩, ?_⟩
    · rcases hat with h | h
      · rw [h]; exact hok.2
      · rw [h]; simp; omega
    · rw [hg.block b (by simp; omega) (fun e => hok.2 e.symm)]
      exact Below.heap_alloc w o b hb
  refine ⟨vs ++ [p], by simp [hl], by simpa using hown, fun j hj => ?_⟩
  by_cases hj2 : j < l.length
  · obtain ⟨t', h1, h2⟩ := hall j hj2
    refine ⟨t', by rw [List.getElem?_append_left hj2]; exact h1, ?_⟩
    have e : (vs ++ [p]).getD j .nilFunc = vs.getD j .nilFunc := by
      simp [List.getD_eq_getElem?_getD, List.getElem?_append_left (show j < vs.length by omega)]
    rw [e]
    exact hmv h2
  · have hj3 : j = l.length := by simp at hj; omega
    subst hj3
    refine ⟨t, by simp, ?_⟩
    have e : (vs ++ [p]).getD l.length .nilFunc = p := by rw [← hl]; simp
    rw [e]
    exact hmv hp
end Go.Proofs.YtbjohedenfindaaGreatDoor

namespace Go.Proofs.YtbjohedenfindaaGreatDoor
open Go.RowKit
set_option linter.unusedVariables false
set_option maxRecDepth 100000

theorem wrap_id (z : Int) (h0 : -9223372036854775808 ≤ z) (h1 : z ≤ 9223372036854775807) : IntKind.i64.wrap z = z := by
  simp [IntKind.wrap, IntKind.bits, IntKind.signed]
  split <;> omega

theorem ptrs_slice {w : World} {B : Nat} {v : Value} {l : List Re} (h : PtrsOwn w B v l) : ∃ a c, v = .slice a l.length c := by
  obtain ⟨vs, hl, hown, _⟩ := h
  rcases hown.2 with ⟨rfl, h0⟩ | ⟨g, cap, cur, rfl, _⟩
  · exact ⟨none, 0, by rw [← hl, h0]⟩
  · exact ⟨_, _, by rw [← hl]⟩

theorem PtrsOwn.grown {w w' : World} {B : Nat} {row : Option Nat} {v : Value} {l : List Re} (h : PtrsOwn w B v l) (hr : ∀ k, row = some k → k < B) (hg : w.grownBy w' row) : PtrsOwn w' B v l := by
  obtain ⟨vs, hl, hown, hall⟩ := h
  refine ⟨vs, hl, hown.kept hg ?_, fun j hj => ?_⟩
  · cases hb : v.ownBlock with
    | none => exact Or.inl rfl
    | some k => right; intro e; have := (hown.lt k hb).1; have := hr k e.symm; omega
  · obtain ⟨t, h1, h2⟩ := hall j hj
    exact ⟨t, h1, h2.grown hg fun b hok e => by have := hr b e.symm; omega⟩

end Go.Proofs.YtbjohedenfindaaGreatDoor

namespace Go.Proofs.YtbjohedenfindaaGreatDoor
open Go.RowKit
set_option linter.unusedVariables false
set_option maxRecDepth 100000

theorem hexRun_all (s : ByteArray) : ∀ (f i k : Nat), k < hexRun s f i → isHex s (i + k) = true := by
  intro f
  induction f with
  | zero => intro i k h; simp [hexRun] at h
  | succ f ih =>
    intro i k h
    unfold hexRun at h
    split at h
    · rename_i h1
      cases k with
      | zero => exact h1
      | succ k =>
        have := ih (i + 1) k (by omega)
        rw [show i + (k + 1) = i + 1 + k by omega]; exact this
    · omega
theorem hexRun_of (s : ByteArray) : ∀ (f i k : Nat), k < f → (∀ j, j < k → isHex s (i + j) = true) → isHex s (i + k) = false → hexRun s f i = k := by
  intro f
  induction f with
  | zero => intro i k h; omega
  | succ f ih =>
    intro i k h hall hno
    unfold hexRun
    cases k with
    | zero => rw [if_neg (by simpa using hno)]
    | succ k =>
      rw [if_pos (by have := hall 0 (by omega); simpa using this)]
      rw [ih (i + 1) k (by omega) (fun j hj => by have := hall (j + 1) (by omega); rw [show i + 1 + j = i + (j + 1) by omega]; exact this) (by rw [show i + 1 + k = i + (k + 1) by omega]; exact hno)]
end Go.Proofs.YtbjohedenfindaaGreatDoor

namespace Go.Proofs.YtbjohedenfindaaGreatDoor
open Go.RowKit
set_option linter.unusedVariables false
set_option maxRecDepth 100000

end Go.Proofs.YtbjohedenfindaaGreatDoor

namespace Go.Proofs.YtbjohedenfindaaGreatDoor
open Go.RowKit
set_option linter.unusedVariables false
set_option maxRecDepth 100000

end Go.Proofs.YtbjohedenfindaaGreatDoor

namespace Go.Proofs.YtbjohedenfindaaGreatDoor
open Go.RowKit
set_option linter.unusedVariables false
set_option maxRecDepth 100000

end Go.Proofs.YtbjohedenfindaaGreatDoor

namespace Go.Proofs.YtbjohedenfindaaGreatDoor
open Go.RowKit
set_option linter.unusedVariables false
set_option maxRecDepth 100000

end Go.Proofs.YtbjohedenfindaaGreatDoor

namespace Go.Proofs.YtbjohedenfindaaGreatDoor
open Go.RowKit
set_option linter.unusedVariables false
set_option maxRecDepth 100000

theorem digRun_all (s : ByteArray) : ∀ (f i k : Nat), k < digRun s f i → isDig s (i + k) = true := by
  intro f
  induction f with
  | zero => intro i k h; simp [digRun] at h
  | succ f ih =>
    intro i k h
    unfold digRun at h
    split at h
    · rename_i h1
      cases k with
      | zero => exact h1
      | succ k =>
        have := ih (i + 1) k (by omega)
        rw [show i + (k + 1) = i + 1 + k by omega]; exact this
    · omega
end Go.Proofs.YtbjohedenfindaaGreatDoor
