/- Plain facts on automata: what a valid one is, the state behind a point, the run of a list of points. -/
import Derived.Lib.SpaceU
namespace Go.Proofs.Ytifhoeffkehcmaa
set_option linter.unusedVariables false

abbrev Mv := Int × Int × Int
abbrev St := Int × List Mv
def m0 : Mv := (0, 0, 0)
def s0 : St := (-1, [])

def mvOk (n : Nat) : Int → List Mv → Bool
  | _, [] => true
  | last, m :: t => decide (last < m.1) && decide (m.1 ≤ m.2.1) && decide (m.2.1 ≤ 1114111) && decide (0 ≤ m.2.2) && decide (m.2.2 < n) && mvOk n m.2.1 t
def stOk (n : Nat) (s : St) : Bool := decide (-1 ≤ s.1) && mvOk n (-1) s.2
def autoOk (l : List St) : Bool := decide (l.length ≤ 500) && l.all (stOk l.length)
def stepL : List Mv → Int → Int
  | [], _ => -1
  | m :: t, p => if m.1 ≤ p ∧ p ≤ m.2.1 then m.2.2 else stepL t p
def stL (l : List St) (a p : Int) : Int := if a < 0 then -1 else stepL (l.getD a.toNat s0).2 p
def goL (l : List St) (a : Int) (zs : List Int) : Int := zs.foldl (stL l) a
def ruleL (l : List St) (a : Int) : Int := if a < 0 then -1 else (l.getD a.toNat s0).1
def runL (l : List St) (zs : List Int) : Int := if l = [] then -1 else ruleL l (goL l 0 zs)

theorem drop_getD {α : Type} (l : List α) (d : α) (k : Nat) (h : k < l.length) : l.drop k = l.getD k d :: l.drop (k + 1) := by
  rw [List.drop_eq_getElem_cons h]
  simp [h]
theorem take_getD {α : Type} (l : List α) (d : α) (k : Nat) (h : k < l.length) : l.take (k + 1) = l.take k ++ [l.getD k d] := by
  rw [List.take_succ_eq_append_getElem h]
  simp [h]

theorem mvOk_cons (n : Nat) (last : Int) (m : Mv) (t : List Mv) : mvOk n last (m :: t) = true ↔ last < m.1 ∧ m.1 ≤ m.2.1 ∧ m.2.1 ≤ 1114111 ∧ 0 ≤ m.2.2 ∧ m.2.2 < n ∧ mvOk n m.2.1 t = true := by
  simp [mvOk, and_assoc]
theorem mvOk_step (n : Nat) (last : Int) (ms : List Mv) (k : Nat) (h : k < ms.length) (g : last < (ms.getD k m0).1 ∧ (ms.getD k m0).1 ≤ (ms.getD k m0).2.1 ∧ (ms.getD k m0).2.1 ≤ 1114111 ∧ 0 ≤ (ms.getD k m0).2.2 ∧ (ms.getD k m0).2.2 < n) : mvOk n last (ms.drop k) = mvOk n (ms.getD k m0).2.1 (ms.drop (k + 1)) := by
  rw [drop_getD ms m0 k h, Bool.eq_iff_iff, mvOk_cons]
  simp only [g.1, g.2.1, g.2.2.1, g.2.2.2.1, g.2.2.2.2, true_and]
theorem mvOk_no (n : Nat) (last : Int) (ms : List Mv) (k : Nat) (h : k < ms.length) (g : ¬ (last < (ms.getD k m0).1 ∧ (ms.getD k m0).1 ≤ (ms.getD k m0).2.1 ∧ (ms.getD k m0).2.1 ≤ 1114111 ∧ 0 ≤ (ms.getD k m0).2.2 ∧ (ms.getD k m0).2.2 < n)) : mvOk n last (ms.drop k) = false := by
  rw [drop_getD ms m0 k h, ← Bool.not_eq_true, mvOk_cons]
  intro h
  exact g ⟨h.1, h.2.1, h.2.2.1, h.2.2.2.1, h.2.2.2.2.1⟩

theorem mvOk_low : ∀ (n : Nat) (ms : List Mv) (last : Int), mvOk n last ms = true → ∀ m ∈ ms, last < m.1 ∧ m.1 ≤ m.2.1 ∧ m.2.1 ≤ 1114111 ∧ 0 ≤ m.2.2 ∧ m.2.2 < n
  | n, [], last, h => by simp
  | n, a :: t, last, h => by
    rw [mvOk_cons] at h
    intro m hm
    rcases List.mem_cons.1 hm with rfl | hm
    · exact ⟨h.1, h.2.1, h.2.2.1, h.2.2.2.1, h.2.2.2.2.1⟩
    · have := mvOk_low n t _ h.2.2.2.2.2 m hm
      exact ⟨by omega, this.2⟩

theorem mvOk_len : ∀ (n : Nat) (ms : List Mv) (last : Int), mvOk n last ms = true → last ≤ 1114111 → (ms.length : Int) ≤ 1114111 - last
  | n, [], last, h, g => by simp; omega
  | n, a :: t, last, h, g => by
    rw [mvOk_cons] at h
    have := mvOk_len n t _ h.2.2.2.2.2 h.2.2.1
    rw [List.length_cons]
    omega

theorem mvOk_mono : ∀ (n : Nat) (ms : List Mv) (last : Int), mvOk n last ms = true → ∀ a b, a ≤ b → b < ms.length → (ms.getD a m0).2.1 ≤ (ms.getD b m0).2.1
  | n, [], last, h, a, b, hab, hb => by simp at hb
  | n, x :: t, last, h, a, b, hab, hb => by
    rw [mvOk_cons] at h
    cases b with
    | zero => obtain rfl : a = 0 := by omega
              exact Int.le_refl _
    | succ b =>
      have hb' : b < t.length := by simpa using hb
      cases a with
      | zero =>
        have := mvOk_low n t _ h.2.2.2.2.2 (t.getD b m0) (by simp [hb'])
        simp only [List.getD_cons_zero, List.getD_cons_succ]
        omega
      | succ a =>
        simp only [List.getD_cons_succ]
        exact mvOk_mono n t _ h.2.2.2.2.2 a b (by omega) hb'

theorem stepL_high : ∀ (n : Nat) (ms : List Mv) (last p : Int), mvOk n last ms = true → p ≤ last → stepL ms p = -1
  | n, [], last, p, h, g => rfl
  | n, a :: t, last, p, h, g => by
    rw [mvOk_cons] at h
    rw [stepL, if_neg (by omega)]
    exact stepL_high n t _ p h.2.2.2.2.2 (by omega)

theorem stepL_at : ∀ (n : Nat) (ms : List Mv) (last p : Int) (i : Nat), mvOk n last ms = true → i ≤ ms.length → (∀ j, j < i → (ms.getD j m0).2.1 < p) → (∀ j, i ≤ j → j < ms.length → p ≤ (ms.getD j m0).2.1) → stepL ms p = if i < ms.length ∧ (ms.getD i m0).1 ≤ p then (ms.getD i m0).2.2 else -1
  | n, [], last, p, i, h, hi, lo, hi2 => by simp [stepL]
  | n, a :: t, last, p, 0, h, hi, lo, hi2 => by
    have h' := (mvOk_cons n last a t).1 h
    have := hi2 0 (Nat.le_refl _) (by simp)
    simp only [List.getD_cons_zero] at this
    simp only [List.getD_cons_zero, List.length_cons, Nat.zero_lt_succ, true_and, stepL]
    by_cases g : a.1 ≤ p
    · rw [if_pos ⟨g, this⟩, if_pos g]
    · rw [if_neg (by omega), if_neg g]
      exact stepL_high n t _ p h'.2.2.2.2.2 (by omega)
  | n, a :: t, last, p, i + 1, h, hi, lo, hi2 => by
    have h' := (mvOk_cons n last a t).1 h
    have h0 := lo 0 (by omega)
    simp only [List.getD_cons_zero] at h0
    rw [stepL, if_neg (by omega), stepL_at n t _ p i h'.2.2.2.2.2 (by simpa using hi) (fun j hj => by simpa using lo (j + 1) (by omega)) (fun j hj hl => by simpa using hi2 (j + 1) (by omega) (by simpa using hl))]
    simp

theorem stepL_no (ms : List Mv) (k : Nat) (p : Int) (h : k < ms.length) (g : ¬ ((ms.getD k m0).1 ≤ p ∧ p ≤ (ms.getD k m0).2.1)) : stepL (ms.drop k) p = stepL (ms.drop (k + 1)) p := by
  rw [drop_getD ms m0 k h, stepL, if_neg g]
theorem stepL_yes (ms : List Mv) (k : Nat) (p : Int) (h : k < ms.length) (g : (ms.getD k m0).1 ≤ p ∧ p ≤ (ms.getD k m0).2.1) : stepL (ms.drop k) p = (ms.getD k m0).2.2 := by
  rw [drop_getD ms m0 k h, stepL, if_pos g]

theorem stepL_range (n : Nat) : ∀ (ms : List Mv) (p last : Int), mvOk n last ms = true → stepL ms p = -1 ∨ (0 ≤ stepL ms p ∧ stepL ms p < n)
  | [], p, last, h => Or.inl rfl
  | a :: t, p, last, h => by
    have h' := (mvOk_cons n last a t).1 h
    rw [stepL]
    split
    · exact Or.inr ⟨h'.2.2.2.1, h'.2.2.2.2.1⟩
    · exact stepL_range n t p _ h'.2.2.2.2.2

theorem all_drop {α : Type} (l : List α) (d : α) (f : α → Bool) (k : Nat) (h : k < l.length) : (l.drop k).all f = (f (l.getD k d) && (l.drop (k + 1)).all f) := by
  rw [drop_getD l d k h, List.all_cons]

theorem autoOk_st {l : List St} (h : autoOk l = true) (k : Nat) (hk : k < l.length) : -1 ≤ (l.getD k s0).1 ∧ mvOk l.length (-1) (l.getD k s0).2 = true := by
  have h2 : l.all (stOk l.length) = true := by simp [autoOk] at h; simpa using h.2
  have := List.all_eq_true.1 h2 (l.getD k s0) (by simp [hk])
  simpa [stOk] using this

theorem goL_succ (l : List St) (a : Int) (zs : List Int) (k : Nat) (h : k < zs.length) : goL l a (zs.take (k + 1)) = stL l (goL l a (zs.take k)) (zs.getD k 0) := by
  rw [take_getD zs 0 k h]
  simp [goL]
theorem goL_neg (l : List St) : ∀ (zs : List Int) (a : Int), a < 0 → goL l a zs < 0
  | [], a, h => by simpa [goL] using h
  | z :: t, a, h => by
    have : goL l a (z :: t) = goL l (stL l a z) t := by simp [goL]
    rw [this]
    exact goL_neg l t _ (by simp [stL, h])
theorem goL_split (l : List St) (a : Int) (zs : List Int) (k : Nat) : goL l a zs = goL l (goL l a (zs.take k)) (zs.drop k) := by
  unfold goL
  rw [← List.foldl_append, List.take_append_drop]
theorem goL_stop (l : List St) (a : Int) (zs : List Int) (k : Nat) (h : goL l a (zs.take k) < 0) : goL l a zs < 0 := by
  rw [goL_split l a zs k]
  exact goL_neg l _ _ h
theorem stL_range {l : List St} (h : autoOk l = true) (a p : Int) (ha : a < l.length) : stL l a p = -1 ∨ (0 ≤ stL l a p ∧ stL l a p < l.length) := by
  unfold stL
  split
  · exact Or.inl rfl
  · exact stepL_range l.length _ p (-1) (autoOk_st h a.toNat (by omega)).2

end Go.Proofs.Ytifhoeffkehcmaa
