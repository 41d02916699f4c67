/- Shortest sentences of grammars, as plain data: lengths. No program. -/
import Derived.Test.YtbgnhegfabpjnaaProg
namespace Go.Proofs.Ytbgnhegfabpjnaa
set_option linter.unusedVariables false

/-- a production: its name, and its symbols (a name n is -1 - n) -/
structure PrS where
  left : Nat
  right : List Int
/-- how good: none is worst -/
def leO : Option Nat → Option Nat → Prop
  | _, none => True
  | some x, some y => x ≤ y
  | none, some _ => False
theorem leO.refl (a : Option Nat) : leO a a := by cases a <;> simp [leO]
theorem leO.trans {a b c : Option Nat} (h : leO a b) (h' : leO b c) : leO a c := by
  cases a <;> cases b <;> cases c <;> simp [leO] at * <;> omega
theorem leO.antisymm {a b : Option Nat} (h : leO a b) (h' : leO b a) : a = b := by
  cases a <;> cases b <;> simp [leO] at * <;> omega
theorem leO.total (a b : Option Nat) : leO a b ∨ leO b a := by
  cases a <;> cases b <;> simp [leO] <;> omega
/-- the lengths of a row's symbols, added up -/
def rowL (f : Nat → Option Nat) : List Int → Option Nat
  | [] => some 0
  | s :: r =>
    match (if s < 0 then f (-1 - s).toNat else some 1), rowL f r with
    | some a, some b => some (a + b)
    | _, _ => none
def capO (a : Option Nat) : Option Nat := a.map (min · 1000000)
theorem rowL_mono {f g : Nat → Option Nat} (h : ∀ n, leO (f n) (g n)) : ∀ r, leO (rowL f r) (rowL g r)
  | [] => leO.refl _
  | s :: r => by
    have ih := rowL_mono h r
    unfold rowL
    have h1 : leO (if s < 0 then f (-1 - s).toNat else some 1) (if s < 0 then g (-1 - s).toNat else some 1) := by
      split
      · exact h _
      · exact leO.refl _
    generalize (if s < 0 then f (-1 - s).toNat else some 1) = a at *
    generalize (if s < 0 then g (-1 - s).toNat else some 1) = b at *
    generalize rowL f r = c at *
    generalize rowL g r = d at *
    cases a <;> cases b <;> cases c <;> cases d <;> simp [leO] at * <;> omega
theorem capO_mono {a b : Option Nat} (h : leO a b) : leO (capO a) (capO b) := by
  cases a <;> cases b <;> simp [leO, capO] at * <;> omega
/-- the better of two -/
def minO (a b : Option Nat) : Option Nat :=
  match a, b with
  | none, b => b
  | a, none => a
  | some x, some y => some (min x y)
theorem minO_left (a b : Option Nat) : leO (minO a b) a := by cases a <;> cases b <;> simp [leO, minO] <;> omega
theorem minO_right (a b : Option Nat) : leO (minO a b) b := by cases a <;> cases b <;> simp [leO, minO] <;> omega
theorem minO_eq (a b : Option Nat) : minO a b = a ∨ minO a b = b := by
  cases a <;> cases b <;> simp [minO] <;> omega
/-- the best that the productions of a name give -/
def saysL (ps : List PrS) (f : Nat → Option Nat) (n : Nat) : Option Nat :=
  ps.foldr (fun p acc => if p.left = n then minO (capO (rowL f p.right)) acc else acc) none
theorem saysL_le {ps : List PrS} {f : Nat → Option Nat} {p : PrS} (hp : p ∈ ps) : leO (saysL ps f p.left) (capO (rowL f p.right)) := by
  induction ps with
  | nil => cases hp
  | cons q ps ih =>
    show leO (if q.left = p.left then minO (capO (rowL f q.right)) (saysL ps f p.left) else saysL ps f p.left) _
    rcases List.mem_cons.1 hp with rfl | hp
    · rw [if_pos rfl]; exact minO_left _ _
    · split
      · exact (minO_right _ _).trans (ih hp)
      · exact ih hp
theorem saysL_of (ps : List PrS) (f : Nat → Option Nat) (n : Nat) : saysL ps f n = none ∨ ∃ p ∈ ps, p.left = n ∧ saysL ps f n = capO (rowL f p.right) := by
  induction ps with
  | nil => exact .inl rfl
  | cons q ps ih =>
    have e : saysL (q :: ps) f n = if q.left = n then minO (capO (rowL f q.right)) (saysL ps f n) else saysL ps f n := rfl
    have hcase : saysL (q :: ps) f n = saysL ps f n ∨ (q.left = n ∧ saysL (q :: ps) f n = capO (rowL f q.right)) := by
      rw [e]
      split
      · rcases minO_eq (capO (rowL f q.right)) (saysL ps f n) with h | h
        · exact .inr ⟨by assumption, h⟩
        · exact .inl h
      · exact .inl rfl
    rcases hcase with h | ⟨h1, h2⟩
    · rcases ih with ih | ⟨p, hp, hl, he⟩
      · exact .inl (h.trans ih)
      · exact .inr ⟨p, by simp [hp], hl, h.trans he⟩
    · exact .inr ⟨q, by simp, h1, h2⟩
theorem saysL_mono {ps : List PrS} {f g : Nat → Option Nat} (h : ∀ n, leO (f n) (g n)) (n : Nat) : leO (saysL ps f n) (saysL ps g n) := by
  rcases saysL_of ps g n with e | ⟨p, hp, rfl, e⟩
  · rw [e]; cases saysL ps f n <;> simp [leO]
  · rw [e]
    exact (saysL_le hp).trans (capO_mono (rowL_mono h _))
/-- .. by trees of so great a height -/
def bestH (ps : List PrS) : Nat → Nat → Option Nat
  | 0, _ => none
  | h + 1, n => saysL ps (bestH ps h) n
theorem bestH_down (ps : List PrS) : ∀ (h n : Nat), leO (bestH ps (h + 1) n) (bestH ps h n)
  | 0, n => by simp only [bestH]; cases saysL ps (bestH ps 0) n <;> simp [leO]
  | h + 1, n => saysL_mono (fun m => bestH_down ps h m) n
theorem bestH_le (ps : List PrS) {h k : Nat} (hk : h ≤ k) (n : Nat) : leO (bestH ps k n) (bestH ps h n) := by
  induction k with
  | zero => obtain rfl : h = 0 := by omega
            exact leO.refl _
  | succ k ih =>
    by_cases e : h = k + 1
    · subst e; exact leO.refl _
    · exact (bestH_down ps k n).trans (ih (by omega))
/-- facts that follow from trees -/
def SoundL (ps : List PrS) (f : Nat → Option Nat) : Prop := ∀ n, ∃ h, leO (bestH ps h n) (f n)
/-- facts from which nothing better follows -/
def ClosedL (ps : List PrS) (f : Nat → Option Nat) : Prop := ∀ p ∈ ps, leO (f p.left) (capO (rowL f p.right))
theorem ClosedL.le {ps : List PrS} {f : Nat → Option Nat} (hc : ClosedL ps f) : ∀ h n, leO (f n) (bestH ps h n)
  | 0, n => by simp only [bestH]; cases f n <;> simp [leO]
  | h + 1, n => by
    have ih := hc.le h
    show leO (f n) (saysL ps (bestH ps h) n)
    rcases saysL_of ps (bestH ps h) n with e | ⟨p, hp, rfl, e⟩
    · rw [e]; cases f n <;> simp [leO]
    · rw [e]
      exact (hc p hp).trans (capO_mono (rowL_mono ih _))
/-- there is one such list of facts alone -/
theorem facts_unique {ps : List PrS} {f g : Nat → Option Nat} (cf : ClosedL ps f) (sf : SoundL ps f) (cg : ClosedL ps g) (sg : SoundL ps g) : ∀ n, f n = g n := fun n => by
  obtain ⟨h1, e1⟩ := sf n
  obtain ⟨h2, e2⟩ := sg n
  exact leO.antisymm ((cf.le h2 n).trans e2) ((cg.le h1 n).trans e1)
/-- one fact more, out of sound ones -/
theorem SoundL.step {ps : List PrS} {f : Nat → Option Nat} (hs : SoundL ps f) {p : PrS} (hp : p ∈ ps) : ∃ h, leO (bestH ps h p.left) (capO (rowL f p.right)) := by
  have hrow : ∀ r : List Int, ∃ h, leO (rowL (bestH ps h) r) (rowL f r) := by
    intro r
    induction r with
    | nil => exact ⟨0, leO.refl _⟩
    | cons s r ih =>
      obtain ⟨h1, e1⟩ := ih
      obtain ⟨h2, e2⟩ := hs (-1 - s).toNat
      refine ⟨max h1 h2, ?_⟩
      have a1 : leO (rowL (bestH ps (max h1 h2)) r) (rowL f r) := (rowL_mono (fun n => bestH_le ps (Nat.le_max_left h1 h2) n) r).trans e1
      have a2 : leO (if s < 0 then bestH ps (max h1 h2) (-1 - s).toNat else some 1) (if s < 0 then f (-1 - s).toNat else some 1) := by
        split
        · exact (bestH_le ps (Nat.le_max_right h1 h2) _).trans e2
        · exact leO.refl _
      unfold rowL
      generalize (if s < 0 then bestH ps (max h1 h2) (-1 - s).toNat else some 1) = a at *
      generalize (if s < 0 then f (-1 - s).toNat else some 1) = b at *
      generalize rowL (bestH ps (max h1 h2)) r = c at *
      generalize rowL f r = d at *
      cases a <;> cases b <;> cases c <;> cases d <;> simp [leO] at * <;> omega
  obtain ⟨h, e⟩ := hrow p.right
  exact ⟨h + 1, (saysL_le hp).trans (capO_mono e)⟩

end Go.Proofs.Ytbgnhegfabpjnaa
