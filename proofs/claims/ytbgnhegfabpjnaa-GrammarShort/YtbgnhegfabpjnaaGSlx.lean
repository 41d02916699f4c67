/- Shortest sentences of grammars, as plain data: the first of the shortest ones. No program. -/
import Derived.Test.YtbgnhegfabpjnaaGPur
namespace Go.Proofs.Ytbgnhegfabpjnaa
set_option linter.unusedVariables false

/-- not behind, of one length -/
def lexLe : List Int → List Int → Prop
  | [], _ => True
  | _ :: _, [] => False
  | x :: a, y :: b => x < y ∨ (x = y ∧ lexLe a b)
/-- shorter, or of one length and not behind -/
def slx (a b : List Int) : Prop := a.length < b.length ∨ (a.length = b.length ∧ lexLe a b)
theorem lexLe.refl : ∀ a, lexLe a a
  | [] => trivial
  | x :: a => .inr ⟨rfl, lexLe.refl a⟩
theorem lexLe.trans : ∀ {a b c : List Int}, lexLe a b → lexLe b c → lexLe a c
  | [], _, _, _, _ => trivial
  | x :: a, [], _, h, _ => h.elim
  | x :: a, y :: b, [], _, h => h.elim
  | x :: a, y :: b, z :: c, h, h' => by
    rcases h with h | ⟨rfl, h⟩
    · rcases h' with h' | ⟨rfl, _⟩
      · exact .inl (by omega)
      · exact .inl h
    · rcases h' with h' | ⟨rfl, h'⟩
      · exact .inl h'
      · exact .inr ⟨rfl, h.trans h'⟩
theorem lexLe.antisymm : ∀ {a b : List Int}, lexLe a b → lexLe b a → a = b
  | [], [], _, _ => rfl
  | [], _ :: _, _, h => h.elim
  | _ :: _, [], h, _ => h.elim
  | x :: a, y :: b, h, h' => by
    rcases h with h | ⟨rfl, h⟩
    · rcases h' with h' | ⟨rfl, _⟩ <;> omega
    · rcases h' with h' | ⟨_, h'⟩
      · omega
      · rw [h.antisymm h']
theorem lexLe.total : ∀ (a b : List Int), lexLe a b ∨ lexLe b a
  | [], _ => .inl trivial
  | _ :: _, [] => .inr trivial
  | x :: a, y :: b => by
    rcases Int.lt_trichotomy x y with h | h | h
    · exact .inl (.inl h)
    · rcases lexLe.total a b with g | g
      · exact .inl (.inr ⟨h, g⟩)
      · exact .inr (.inr ⟨h.symm, g⟩)
    · exact .inr (.inl h)
theorem lexLe.append : ∀ {a b c d : List Int}, a.length = b.length → lexLe a b → lexLe c d → lexLe (a ++ c) (b ++ d)
  | [], [], c, d, _, _, h => h
  | [], _ :: _, _, _, hl, _, _ => by simp at hl
  | _ :: _, [], _, _, hl, _, _ => by simp at hl
  | x :: a, y :: b, c, d, hl, h, h' => by
    rcases h with h | ⟨rfl, h⟩
    · exact .inl h
    · exact .inr ⟨rfl, lexLe.append (by simpa using hl) h h'⟩
theorem slx.refl (a : List Int) : slx a a := .inr ⟨rfl, lexLe.refl a⟩
theorem slx.trans {a b c : List Int} (h : slx a b) (h' : slx b c) : slx a c := by
  rcases h with h | ⟨e, h⟩
  · rcases h' with h' | ⟨e', _⟩
    · exact .inl (by omega)
    · exact .inl (by omega)
  · rcases h' with h' | ⟨e', h'⟩
    · exact .inl (by omega)
    · exact .inr ⟨e.trans e', h.trans h'⟩
theorem slx.antisymm {a b : List Int} (h : slx a b) (h' : slx b a) : a = b := by
  rcases h with h | ⟨e, h⟩
  · rcases h' with h' | ⟨e', _⟩ <;> omega
  · rcases h' with h' | ⟨_, h'⟩
    · omega
    · exact h.antisymm h'
theorem slx.total (a b : List Int) : slx a b ∨ slx b a := by
  rcases Nat.lt_trichotomy a.length b.length with h | h | h
  · exact .inl (.inl h)
  · rcases lexLe.total a b with g | g
    · exact .inl (.inr ⟨h, g⟩)
    · exact .inr (.inr ⟨h.symm, g⟩)
  · exact .inr (.inl h)
theorem slx.len {a b : List Int} (h : slx a b) : a.length ≤ b.length := by
  rcases h with h | ⟨h, _⟩ <;> omega
theorem slx.append {a b c d : List Int} (h : slx a b) (h' : slx c d) : slx (a ++ c) (b ++ d) := by
  have l1 := h.len
  have l2 := h'.len
  by_cases e : a.length = b.length ∧ c.length = d.length
  · obtain ⟨e1, e2⟩ := e
    have g : lexLe a b := by
      rcases h with h | h
      · omega
      · exact h.2
    have g' : lexLe c d := by
      rcases h' with h' | h'
      · omega
      · exact h'.2
    exact .inr ⟨by simp [e1, e2], lexLe.append e1 g g'⟩
  · exact .inl (by simp; omega)
/-- how good a sentence is: none is worst -/
def leS : Option (List Int) → Option (List Int) → Prop
  | _, none => True
  | some x, some y => slx x y
  | none, some _ => False
theorem leS.refl (a : Option (List Int)) : leS a a := by
  cases a with
  | none => trivial
  | some x => exact slx.refl x
theorem leS.trans {a b c : Option (List Int)} (h : leS a b) (h' : leS b c) : leS a c := by
  cases c with
  | none => cases a <;> trivial
  | some z =>
    cases b with
    | none => exact h'.elim
    | some y =>
      cases a with
      | none => exact h.elim
      | some x => exact slx.trans h h'
theorem leS.antisymm {a b : Option (List Int)} (h : leS a b) (h' : leS b a) : a = b := by
  cases a with
  | none =>
    cases b with
    | none => rfl
    | some y => exact h.elim
  | some x =>
    cases b with
    | none => exact h'.elim
    | some y => rw [slx.antisymm h h']
/-- one behind the other -/
def catO : Option (List Int) → Option (List Int) → Option (List Int)
  | some a, some b => some (a ++ b)
  | _, _ => none
/-- the sentences of a row's symbols, put together -/
def catS (f : Nat → Option (List Int)) : List Int → Option (List Int)
  | [] => some []
  | s :: r => catO (if s < 0 then f (-1 - s).toNat else some [s]) (catS f r)
/-- .. told, if it is not too long -/
def toldS (a : Option (List Int)) : Option (List Int) := match a with
  | none => none
  | some x => if x.length ≤ 1000 then some x else none
theorem catS_mono {f g : Nat → Option (List Int)} (h : ∀ n, leS (f n) (g n)) : ∀ r, leS (catS f r) (catS g r)
  | [] => leS.refl _
  | s :: r => by
    have ih := catS_mono h r
    unfold catS
    have h1 : leS (if s < 0 then f (-1 - s).toNat else some [s]) (if s < 0 then g (-1 - s).toNat else some [s]) := by
      split
      · exact h _
      · exact leS.refl _
    generalize (if s < 0 then f (-1 - s).toNat else some [s]) = a at *
    generalize (if s < 0 then g (-1 - s).toNat else some [s]) = b at *
    generalize catS f r = c at *
    generalize catS g r = d at *
    cases b with
    | none => cases a <;> cases c <;> trivial
    | some b =>
      cases d with
      | none => cases a <;> cases c <;> trivial
      | some d =>
        cases a with
        | none => exact h1.elim
        | some a =>
          cases c with
          | none => exact ih.elim
          | some c => exact slx.append h1 ih
theorem toldS_mono {a b : Option (List Int)} (h : leS a b) : leS (toldS a) (toldS b) := by
  cases b with
  | none => cases toldS a <;> trivial
  | some y =>
    cases a with
    | none => exact h.elim
    | some x =>
      have hl := slx.len h
      show leS (if x.length ≤ 1000 then some x else none) (if y.length ≤ 1000 then some y else none)
      by_cases hy : y.length ≤ 1000
      · rw [if_pos hy, if_pos (by omega)]; exact h
      · rw [if_neg hy]
        by_cases hx : x.length ≤ 1000
        · rw [if_pos hx]; trivial
        · rw [if_neg hx]; trivial
/-- the better of two -/
noncomputable def minS (a b : Option (List Int)) : Option (List Int) := open Classical in if leS a b then a else b
theorem leS.total (a b : Option (List Int)) : leS a b ∨ leS b a := by
  cases a with
  | none => exact .inr (by cases b <;> trivial)
  | some x =>
    cases b with
    | none => exact .inl trivial
    | some y => exact slx.total x y
theorem minS_left (a b : Option (List Int)) : leS (minS a b) a := by
  unfold minS
  split
  · exact leS.refl _
  · rename_i h; exact (leS.total a b).resolve_left h
theorem minS_right (a b : Option (List Int)) : leS (minS a b) b := by
  unfold minS
  split
  · assumption
  · exact leS.refl _
theorem minS_eq (a b : Option (List Int)) : minS a b = a ∨ minS a b = b := by
  unfold minS
  split
  · exact .inl rfl
  · exact .inr rfl

theorem cat_part {a b c d : Option (List Int)} (h1 : leS a b) (ih : leS c d) : leS (catO a c) (catO b d) := by
  cases b with
  | none => cases a <;> cases c <;> trivial
  | some b =>
    cases d with
    | none => cases a <;> cases c <;> trivial
    | some d =>
      cases a with
      | none => exact h1.elim
      | some a =>
        cases c with
        | none => exact ih.elim
        | some c => exact slx.append h1 ih
/-- the best that the productions of a name give -/
noncomputable def saysS (ps : List PrS) (f : Nat → Option (List Int)) (n : Nat) : Option (List Int) :=
  ps.foldr (fun p acc => if p.left = n then minS (toldS (catS f p.right)) acc else acc) none
theorem saysS_le {ps : List PrS} {f : Nat → Option (List Int)} {p : PrS} (hp : p ∈ ps) : leS (saysS ps f p.left) (toldS (catS f p.right)) := by
  induction ps with
  | nil => cases hp
  | cons q ps ih =>
    show leS (if q.left = p.left then minS (toldS (catS f q.right)) (saysS ps f p.left) else saysS ps f p.left) _
    rcases List.mem_cons.1 hp with rfl | hp
    · rw [if_pos rfl]; exact minS_left _ _
    · split
      · exact (minS_right _ _).trans (ih hp)
      · exact ih hp
theorem saysS_of (ps : List PrS) (f : Nat → Option (List Int)) (n : Nat) : saysS ps f n = none ∨ ∃ p ∈ ps, p.left = n ∧ saysS ps f n = toldS (catS f p.right) := by
  induction ps with
  | nil => exact .inl rfl
  | cons q ps ih =>
    have e : saysS (q :: ps) f n = if q.left = n then minS (toldS (catS f q.right)) (saysS ps f n) else saysS ps f n := rfl
    have hcase : saysS (q :: ps) f n = saysS ps f n ∨ (q.left = n ∧ saysS (q :: ps) f n = toldS (catS f q.right)) := by
      rw [e]
      split
      · rcases minS_eq (toldS (catS f q.right)) (saysS ps f n) with h | h
        · exact .inr ⟨by assumption, h⟩
        · exact .inl h
      · exact .inl rfl
    rcases hcase with h | ⟨h1, h2⟩
    · rcases ih with ih | ⟨p, hp, hl, he⟩
      · exact .inl (h.trans ih)
      · exact .inr ⟨p, by simp [hp], hl, h.trans he⟩
    · exact .inr ⟨q, by simp, h1, h2⟩
theorem saysS_mono {ps : List PrS} {f g : Nat → Option (List Int)} (h : ∀ n, leS (f n) (g n)) (n : Nat) : leS (saysS ps f n) (saysS ps g n) := by
  rcases saysS_of ps g n with e | ⟨p, hp, rfl, e⟩
  · rw [e]; cases saysS ps f n <;> trivial
  · rw [e]
    exact (saysS_le hp).trans (toldS_mono (catS_mono h _))
/-- .. by trees of so great a height -/
noncomputable def bestS (ps : List PrS) : Nat → Nat → Option (List Int)
  | 0, _ => none
  | h + 1, n => saysS ps (bestS ps h) n
theorem bestS_down (ps : List PrS) : ∀ (h n : Nat), leS (bestS ps (h + 1) n) (bestS ps h n)
  | 0, n => by simp only [bestS]; cases saysS ps (bestS ps 0) n <;> trivial
  | h + 1, n => saysS_mono (fun m => bestS_down ps h m) n
theorem bestS_le (ps : List PrS) {h k : Nat} (hk : h ≤ k) (n : Nat) : leS (bestS ps k n) (bestS ps h n) := by
  induction k with
  | zero => obtain rfl : h = 0 := by omega
            exact leS.refl _
  | succ k ih =>
    by_cases e : h = k + 1
    · subst e; exact leS.refl _
    · exact (bestS_down ps k n).trans (ih (by omega))
/-- facts that follow from trees -/
def SoundS (ps : List PrS) (f : Nat → Option (List Int)) : Prop := ∀ n, ∃ h, leS (bestS ps h n) (f n)
/-- facts from which nothing better follows -/
def ClosedS (ps : List PrS) (f : Nat → Option (List Int)) : Prop := ∀ p ∈ ps, leS (f p.left) (toldS (catS f p.right))
theorem ClosedS.le {ps : List PrS} {f : Nat → Option (List Int)} (hc : ClosedS ps f) : ∀ h n, leS (f n) (bestS ps h n)
  | 0, n => by simp only [bestS]; cases f n <;> trivial
  | h + 1, n => by
    have ih := hc.le h
    show leS (f n) (saysS ps (bestS ps h) n)
    rcases saysS_of ps (bestS ps h) n with e | ⟨p, hp, rfl, e⟩
    · rw [e]; cases f n <;> trivial
    · rw [e]
      exact (hc p hp).trans (toldS_mono (catS_mono ih _))
/-- there is one such list of facts alone -/
theorem sents_unique {ps : List PrS} {f g : Nat → Option (List Int)} (cf : ClosedS ps f) (sf : SoundS ps f) (cg : ClosedS ps g) (sg : SoundS ps g) : ∀ n, f n = g n := fun n => by
  obtain ⟨h1, e1⟩ := sf n
  obtain ⟨h2, e2⟩ := sg n
  exact leS.antisymm ((cf.le h2 n).trans e2) ((cg.le h1 n).trans e1)
/-- one fact more, out of sound ones -/
theorem SoundS.step {ps : List PrS} {f : Nat → Option (List Int)} (hs : SoundS ps f) {p : PrS} (hp : p ∈ ps) : ∃ h, leS (bestS ps h p.left) (toldS (catS f p.right)) := by
  have hrow : ∀ r : List Int, ∃ h, leS (catS (bestS ps h) r) (catS f r) := by
    intro r
    induction r with
    | nil => exact ⟨0, leS.refl _⟩
    | cons s r ih =>
      obtain ⟨h1, e1⟩ := ih
      obtain ⟨h2, e2⟩ := hs (-1 - s).toNat
      refine ⟨max h1 h2, ?_⟩
      have a1 : leS (catS (bestS ps (max h1 h2)) r) (catS f r) := (catS_mono (fun n => bestS_le ps (Nat.le_max_left h1 h2) n) r).trans e1
      have a2 : leS (if s < 0 then bestS ps (max h1 h2) (-1 - s).toNat else some [s]) (if s < 0 then f (-1 - s).toNat else some [s]) := by
        split
        · exact (bestS_le ps (Nat.le_max_right h1 h2) _).trans e2
        · exact leS.refl _
      unfold catS
      generalize (if s < 0 then bestS ps (max h1 h2) (-1 - s).toNat else some [s]) = a at *
      generalize (if s < 0 then f (-1 - s).toNat else some [s]) = b at *
      generalize catS (bestS ps (max h1 h2)) r = c at *
      generalize catS f r = d at *
      exact cat_part a2 a1
  obtain ⟨h, e⟩ := hrow p.right
  exact ⟨h + 1, (saysS_le hp).trans (toldS_mono e)⟩

end Go.Proofs.Ytbgnhegfabpjnaa
