/- What it costs to turn one list into another: plain data. -/
import Derived.Test.YtnakafgbalkciaaGMem
namespace Go.Proofs.Ytnakafgbalkciaa
set_option linter.unusedVariables false

def dist (P L : Int → Int) : List Int → List Int → Int
  | [], [] => 0
  | [], t :: b => dist P L [] b + P t
  | f :: a, [] => dist P L a [] + L f
  | f :: a, t :: b =>
    if f = t then min (min (dist P L a (t :: b) + L f) (dist P L (f :: a) b + P t)) (dist P L a b)
    else min (dist P L a (t :: b) + L f) (dist P L (f :: a) b + P t)
theorem dist_nn (P L : Int → Int) : dist P L [] [] = 0 := by rw [dist]
theorem dist_nc (P L : Int → Int) (t : Int) (b : List Int) : dist P L [] (t :: b) = dist P L [] b + P t := by rw [dist]
theorem dist_cn (P L : Int → Int) (f : Int) (a : List Int) : dist P L (f :: a) [] = dist P L a [] + L f := by rw [dist]
theorem dist_cc (P L : Int → Int) (f t : Int) (a b : List Int) : dist P L (f :: a) (t :: b) = if f = t then min (min (dist P L a (t :: b) + L f) (dist P L (f :: a) b + P t)) (dist P L a b) else min (dist P L a (t :: b) + L f) (dist P L (f :: a) b + P t) := by rw [dist]
theorem dist_n_snoc (P L : Int → Int) (y : Int) (b : List Int) : dist P L [] (b ++ [y]) = dist P L [] b + P y := by
  induction b with
  | nil => rw [List.nil_append, dist_nc]
  | cons t b ih => rw [List.cons_append, dist_nc, dist_nc, ih]; omega
theorem dist_snoc_n (P L : Int → Int) (x : Int) (a : List Int) : dist P L (a ++ [x]) [] = dist P L a [] + L x := by
  induction a with
  | nil => rw [List.nil_append, dist_cn]
  | cons t b ih => rw [List.cons_append, dist_cn, dist_cn, ih]; omega
theorem min_addI (a b c : Int) : min a b + c = min (a + c) (b + c) := by omega
theorem dist_snoc (P L : Int → Int) (x y : Int) : ∀ (n : Nat) (a b : List Int), a.length + b.length ≤ n →
    dist P L (a ++ [x]) (b ++ [y]) = if x = y then min (min (dist P L a (b ++ [y]) + L x) (dist P L (a ++ [x]) b + P y)) (dist P L a b) else min (dist P L a (b ++ [y]) + L x) (dist P L (a ++ [x]) b + P y) := by
  intro n
  induction n with
  | zero =>
    intro a b h
    obtain rfl : a = [] := List.eq_nil_of_length_eq_zero (by omega)
    obtain rfl : b = [] := List.eq_nil_of_length_eq_zero (by omega)
    simp only [List.nil_append]
    rw [dist_cc]
  | succ n ih =>
    intro a b h
    cases a with
    | nil =>
      cases b with
      | nil =>
        simp only [List.nil_append]
        rw [dist_cc]
      | cons t b =>
        have h1 := ih [] b (by simp at h ⊢; omega)
        simp only [List.nil_append, List.cons_append] at h1 ⊢
        simp only [dist_cc, dist_nc, h1, dist_n_snoc]
        by_cases e1 : x = t <;> by_cases e2 : x = y <;> simp only [e1, e2, if_true, if_false] <;> (try subst e1) <;> (try subst e2) <;> (try simp_all) <;> omega
    | cons f a =>
      cases b with
      | nil =>
        have h1 := ih a [] (by simp at h ⊢; omega)
        simp only [List.nil_append, List.cons_append] at h1 ⊢
        simp only [dist_cc, dist_cn, h1, dist_snoc_n]
        by_cases e1 : f = y <;> by_cases e2 : x = y <;> simp only [e1, e2, if_true, if_false] <;> omega
      | cons t b =>
        have h1 := ih a (t :: b) (by simp at h ⊢; omega)
        have h2 := ih (f :: a) b (by simp at h ⊢; omega)
        have h3 := ih a b (by simp at h ⊢; omega)
        simp only [List.cons_append] at h1 h2 h3 ⊢
        simp only [dist_cc, h1, h2, h3]
        by_cases e1 : f = t <;> by_cases e2 : x = y <;> simp only [e1, e2, if_true, if_false, min_addI] <;> ac_rfl
theorem dist_bound (P L : Int → Int) (hP : ∀ t, 0 ≤ P t ∧ P t ≤ 1000) (hL : ∀ t, 0 ≤ L t ∧ L t ≤ 1000) : ∀ (n : Nat) (a b : List Int), a.length + b.length ≤ n → 0 ≤ dist P L a b ∧ dist P L a b ≤ 1000 * n := by
  intro n
  induction n with
  | zero =>
    intro a b h
    obtain rfl : a = [] := List.eq_nil_of_length_eq_zero (by omega)
    obtain rfl : b = [] := List.eq_nil_of_length_eq_zero (by omega)
    rw [dist_nn]; simp
  | succ n ih =>
    intro a b h
    cases a with
    | nil =>
      cases b with
      | nil => rw [dist_nn]; omega
      | cons t b =>
        have := ih [] b (by simp at h ⊢; omega)
        have := hP t
        rw [dist_nc]; omega
    | cons f a =>
      have := hL f
      cases b with
      | nil =>
        have := ih a [] (by simp at h ⊢; omega)
        rw [dist_cn]; omega
      | cons t b =>
        have h1 := ih a (t :: b) (by simp at h ⊢; omega)
        have h2 := ih (f :: a) b (by simp at h ⊢; omega)
        have h3 := ih a b (by simp at h ⊢; omega)
        have := hP t
        rw [dist_cc]
        split <;> omega
/-- the cost of a terminal -/
def costP (l : List Int) (t : Int) : Int := l.getD t.toNat 0
def costsB (l : List Int) : Bool := l.all fun z => decide (1 ≤ z) && decide (z ≤ 1000)
def insB (n : Nat) (l : List Int) : Bool := l.all fun z => decide (0 ≤ z) && decide (z < (n : Int))
theorem costP_bound {l : List Int} (h : costsB l = true) (t : Int) : 0 ≤ costP l t ∧ costP l t ≤ 1000 := by
  unfold costP
  by_cases hk : t.toNat < l.length
  · have := List.all_eq_true.1 h (l[t.toNat]'hk) (List.getElem_mem _)
    simp at this
    simp [List.getD, hk]
    omega
  · simp [List.getD, List.getElem?_eq_none (Nat.le_of_not_lt hk)]
theorem insB_at {n : Nat} {l : List Int} (h : insB n l = true) {k : Nat} (hk : k < l.length) : 0 ≤ l.getD k 0 ∧ l.getD k 0 < n := by
  have := List.all_eq_true.1 h (l[k]'hk) (List.getElem_mem _)
  simp at this
  simp [List.getD, hk]
  omega
/-- what Cost answers -/
def costS (put leave fr to : List Int) : Int := if costsB put && costsB leave && insB (min put.length leave.length) fr && insB (min put.length leave.length) to then dist (costP put) (costP leave) fr to else -1

end Go.Proofs.Ytnakafgbalkciaa
