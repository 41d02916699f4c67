/- Texts of the proof, put together: GChQ, GSlx, GChB. -/
import Derived.Test.YtmkimaceioacgaaDoorGk19
import Derived.Test.YtmkimaceioacgaaDoorGk05
import Derived.Test.YtmkimaceioacgaaDoorGk03
import Derived.Test.YtmkimaceioacgaaDoorGk04
namespace Go.Proofs.YtmkimaceioacgaaDoor
set_option linter.unusedVariables false

theorem rowP_snoc {inp : List Int} {f : Nat → Nat → Nat → Prop} (s : Int) : ∀ (r : List Int) (i j : Nat), rowP inp f (r ++ [s]) i j ↔ ∃ k, i ≤ k ∧ k ≤ j ∧ rowP inp f r i k ∧ symP inp f s k j
  | [], i, j => by
    constructor
    · rintro ⟨k, h1, h2, h3, h4⟩
      have h5 : k = j := h4
      subst h5
      exact ⟨i, Nat.le_refl _, h1, rfl, h3⟩
    · rintro ⟨k, h1, h2, h3, h4⟩
      have h5 : i = k := h3
      subst h5
      exact ⟨j, h2, Nat.le_refl _, h4, rfl⟩
  | x :: r, i, j => by
    constructor
    · rintro ⟨k, h1, h2, h3, h4⟩
      obtain ⟨m, g1, g2, g3, g4⟩ := (rowP_snoc s r k j).1 h4
      exact ⟨m, by omega, g2, ⟨k, h1, g1, h3, g3⟩, g4⟩
    · rintro ⟨m, h1, h2, ⟨k, g1, g2, g3, g4⟩, h4⟩
      exact ⟨k, g1, by omega, g3, (rowP_snoc s r k j).2 ⟨m, g2, h2, g4, h4⟩⟩
/-- where the first symbols of a row may end -/
def StA (inp : List Int) (f : Nat → Nat → Nat → Prop) (r : List Int) (from_ to k : Nat) (A : List Bool) : Prop := ∀ j, factB A j = true ↔ j ≤ to ∧ rowP inp f (r.take k) from_ j
/-- .. one symbol more, on the way -/
structure StN (inp : List Int) (f : Nat → Nat → Nat → Prop) (s : Int) (from_ to : Nat) (A : List Bool) (i j : Nat) (B : List Bool) : Prop where
  iff : ∀ b, factB B b = true ↔ ∃ a, from_ ≤ a ∧ (a < i ∨ (a = i ∧ b < j)) ∧ factB A a = true ∧ a ≤ b ∧ b ≤ to ∧ symP inp f s a b
theorem StA.start {inp : List Int} {f : Nat → Nat → Nat → Prop} {r : List Int} {from_ to M : Nat} (h : from_ ≤ to) (hM : to < M) : StA inp f r from_ to 0 ((List.replicate M false).set from_ true) := fun j => by
  rw [factB_set (N := M) (by simp) (by omega)]
  have h0 : factB (List.replicate M false) j = false := by
    unfold factB
    by_cases hj : j < M
    · simp [List.getD, hj]
    · simp [List.getD, hj]
  rw [h0, List.take_zero]
  by_cases e : j = from_
  · rw [if_pos e]
    exact ⟨fun _ => ⟨by omega, e.symm⟩, fun _ => rfl⟩
  · rw [if_neg e]
    constructor
    · intro h; cases h
    · rintro ⟨_, h⟩
      have h2 : from_ = j := h
      exact absurd h2.symm e
theorem StN.start {inp : List Int} {f : Nat → Nat → Nat → Prop} {s : Int} {from_ to M : Nat} {A : List Bool} : StN inp f s from_ to A from_ from_ (List.replicate M false) := ⟨fun b => by
  have h0 : factB (List.replicate M false) b = false := by
    unfold factB
    by_cases hj : b < M
    · simp [List.getD, hj]
    · simp [List.getD, hj]
  rw [h0]
  constructor
  · intro h; cases h
  · rintro ⟨a, h1, h2, _, h3, _⟩; omega⟩
theorem StN.skip {inp : List Int} {f : Nat → Nat → Nat → Prop} {s : Int} {from_ to i j : Nat} {A B : List Bool} (h : StN inp f s from_ to A i j B) (hA : factB A i = false) : StN inp f s from_ to A (i + 1) (i + 1) B := ⟨fun b => by
  rw [h.iff]
  constructor
  · rintro ⟨a, h1, h2, h3, h4⟩
    refine ⟨a, h1, ?_, h3, h4⟩
    by_cases e : a = i
    · subst e; rw [hA] at h3; cases h3
    · omega
  · rintro ⟨a, h1, h2, h3, h4, h5⟩
    refine ⟨a, h1, ?_, h3, h4, h5⟩
    by_cases e : a = i
    · subst e; rw [hA] at h3; cases h3
    · omega⟩
theorem StN.row {inp : List Int} {f : Nat → Nat → Nat → Prop} {s : Int} {from_ to i j : Nat} {A B : List Bool} (h : StN inp f s from_ to A i j B) (hj : to < j) : StN inp f s from_ to A (i + 1) (i + 1) B := ⟨fun b => by
  rw [h.iff]
  constructor
  · rintro ⟨a, h1, h2, h3⟩; exact ⟨a, h1, by omega, h3⟩
  · rintro ⟨a, h1, h2, h3, h4, h5, h6⟩; exact ⟨a, h1, by omega, h3, h4, h5, h6⟩⟩
theorem StN.step {inp : List Int} {f : Nat → Nat → Nat → Prop} {s : Int} {from_ to i j M : Nat} {A B : List Bool} (h : StN inp f s from_ to A i j B) (hl : B.length = M) (hf : from_ ≤ i) (hij : i ≤ j) (hj : j ≤ to) (hM : to < M) (hA : factB A i = true) (b : Bool) (hb : b = true ↔ factB B j = true ∨ symP inp f s i j) : StN inp f s from_ to A i (j + 1) (B.set j b) := ⟨fun c => by
  rw [factB_set hl (by omega)]
  by_cases e : c = j
  · subst e
    rw [if_pos rfl, hb, h.iff]
    constructor
    · rintro (⟨a, h1, h2, h3⟩ | h1)
      · exact ⟨a, h1, by omega, h3⟩
      · exact ⟨i, hf, .inr ⟨rfl, by omega⟩, hA, hij, hj, h1⟩
    · rintro ⟨a, h1, h2, h3, h4, h5, h6⟩
      by_cases e2 : a = i
      · subst e2; exact .inr h6
      · exact .inl ⟨a, h1, by omega, h3, h4, h5, h6⟩
  · rw [if_neg e, h.iff]
    constructor
    · rintro ⟨a, h1, h2, h3⟩; exact ⟨a, h1, by omega, h3⟩
    · rintro ⟨a, h1, h2, h3⟩; exact ⟨a, h1, by omega, h3⟩⟩
theorem StN.done {inp : List Int} {f : Nat → Nat → Nat → Prop} {r : List Int} {from_ to k i j : Nat} {A B : List Bool} (hA : StA inp f r from_ to k A) (hk : k < r.length) (h : StN inp f (r.getD k 0) from_ to A i j B) (hi : to < i) : StA inp f r from_ to (k + 1) B := fun b => by
  have e : ∀ (l : List Int) (j : Nat) (h : j < l.length), l.getD j 0 = l[j] := fun l j h => by simp [List.getD, h]
  rw [h.iff, List.take_succ_eq_append_getElem hk, rowP_snoc, e r k hk]
  constructor
  · rintro ⟨a, h1, h2, h3, h4, h5, h6⟩
    obtain ⟨g1, g2⟩ := (hA a).1 h3
    exact ⟨h5, a, h1, h4, g2, h6⟩
  · rintro ⟨h5, a, h1, h4, g2, h6⟩
    exact ⟨a, h1, by omega, (hA a).2 ⟨by omega, g2⟩, h4, h5, h6⟩

end Go.Proofs.YtmkimaceioacgaaDoor

namespace Go.Proofs.YtmkimaceioacgaaDoor
set_option linter.unusedVariables false

/-- not behind, of one length -/
def lexLe : List Int → List Int → Prop
  | [], _ => True
  | _ :: _, [] => False
  | x :: a, y :: b => x < y ∨ (x = y ∧ lexLe a b)
/-- shorter, or of one length and not behind -/
def slx (a b : List Int) : Prop := a.length < b.length ∨ (a.length = b.length ∧ lexLe a b)
theorem lexLe.refl : ∀ a, lexLe a a
  | [] => trivial
  | x :: a => .inr ⟨rfl, lexLe.refl a⟩
theorem lexLe.trans : ∀ {a b c : List Int}, lexLe a b → lexLe b c → lexLe a c
  | [], _, _, _, _ => trivial
  | x :: a, [], _, h, _ => h.elim
  | x :: a, y :: b, [], _, h => h.elim
  | x :: a, y :: b, z :: c, h, h' => by
    rcases h with h | ⟨rfl, h⟩
    · rcases h' with h' | ⟨rfl, _⟩
      · exact .inl (by omega)
      · exact .inl h
    · rcases h' with h' | ⟨rfl, h'⟩
      · exact .inl h'
      · exact .inr ⟨rfl, h.trans h'⟩
theorem lexLe.antisymm : ∀ {a b : List Int}, lexLe a b → lexLe b a → a = b
  | [], [], _, _ => rfl
  | [], _ :: _, _, h => h.elim
  | _ :: _, [], h, _ => h.elim
  | x :: a, y :: b, h, h' => by
    rcases h with h | ⟨rfl, h⟩
    · rcases h' with h' | ⟨rfl, _⟩ <;> omega
    · rcases h' with h' | ⟨_, h'⟩
      · omega
      · rw [h.antisymm h']
theorem lexLe.total : ∀ (a b : List Int), lexLe a b ∨ lexLe b a
  | [], _ => .inl trivial
  | _ :: _, [] => .inr trivial
  | x :: a, y :: b => by
    rcases Int.lt_trichotomy x y with h | h | h
    · exact .inl (.inl h)
    · rcases lexLe.total a b with g | g
      · exact .inl (.inr ⟨h, g⟩)
      · exact .inr (.inr ⟨h.symm, g⟩)
    · exact .inr (.inl h)
theorem lexLe.append : ∀ {a b c d : List Int}, a.length = b.length → lexLe a b → lexLe c d → lexLe (a ++ c) (b ++ d)
  | [], [], c, d, _, _, h => h
  | [], _ :: _, _, _, hl, _, _ => by simp at hl
  | _ :: _, [], _, _, hl, _, _ => by simp at hl
  | x :: a, y :: b, c, d, hl, h, h' => by
    rcases h with h | ⟨rfl, h⟩
    · exact .inl h
    · exact .inr ⟨rfl, lexLe.append (by simpa using hl) h h'⟩
theorem slx.refl (a : List Int) : slx a a := .inr ⟨rfl, lexLe.refl a⟩
theorem slx.trans {a b c : List Int} (h : slx a b) (h' : slx b c) : slx a c := by
  rcases h with h | ⟨e, h⟩
  · rcases h' with h' | ⟨e', _⟩
    · exact .inl (by omega)
    · exact .inl (by omega)
  · rcases h' with h' | ⟨e', h'⟩
    · exact .inl (by omega)
    · exact .inr ⟨e.trans e', h.trans h'⟩
theorem slx.antisymm {a b : List Int} (h : slx a b) (h' : slx b a) : a = b := by
  rcases h with h | ⟨e, h⟩
  · rcases h' with h' | ⟨e', _⟩ <;> omega
  · rcases h' with h' | ⟨_, h'⟩
    · omega
    · exact h.antisymm h'
theorem slx.total (a b : List Int) : slx a b ∨ slx b a := by
  rcases Nat.lt_trichotomy a.length b.length with h | h | h
  · exact .inl (.inl h)
  · rcases lexLe.total a b with g | g
    · exact .inl (.inr ⟨h, g⟩)
    · exact .inr (.inr ⟨h.symm, g⟩)
  · exact .inr (.inl h)
theorem slx.len {a b : List Int} (h : slx a b) : a.length ≤ b.length := by
  rcases h with h | ⟨h, _⟩ <;> omega
theorem slx.append {a b c d : List Int} (h : slx a b) (h' : slx c d) : slx (a ++ c) (b ++ d) := by
  have l1 := h.len
  have l2 := h'.len
  by_cases e : a.length = b.length ∧ c.length = d.length
  · obtain ⟨e1, e2⟩ := e
    have g : lexLe a b := by
      rcases h with h | h
      · omega
      · exact h.2
    have g' : lexLe c d := by
      rcases h' with h' | h'
      · omega
      · exact h'.2
    exact .inr ⟨by simp [e1, e2], lexLe.append e1 g g'⟩
  · exact .inl (by simp; omega)
/-- how good a sentence is: none is worst -/
def leS : Option (List Int) → Option (List Int) → Prop
  | _, none => True
  | some x, some y => slx x y
  | none, some _ => False
theorem leS.refl (a : Option (List Int)) : leS a a := by
  cases a with
  | none => trivial
  | some x => exact slx.refl x
theorem leS.trans {a b c : Option (List Int)} (h : leS a b) (h' : leS b c) : leS a c := by
  cases c with
  | none => cases a <;> trivial
  | some z =>
    cases b with
    | none => exact h'.elim
    | some y =>
      cases a with
      | none => exact h.elim
      | some x => exact slx.trans h h'
theorem leS.antisymm {a b : Option (List Int)} (h : leS a b) (h' : leS b a) : a = b := by
  cases a with
  | none =>
    cases b with
    | none => rfl
    | some y => exact h.elim
  | some x =>
    cases b with
    | none => exact h'.elim
    | some y => rw [slx.antisymm h h']
/-- one behind the other -/
def catO : Option (List Int) → Option (List Int) → Option (List Int)
  | some a, some b => some (a ++ b)
  | _, _ => none
/-- the sentences of a row's symbols, put together -/
def catS (f : Nat → Option (List Int)) : List Int → Option (List Int)
  | [] => some []
  | s :: r => catO (if s < 0 then f (-1 - s).toNat else some [s]) (catS f r)
/-- .. told, if it is not too long -/
def toldS (a : Option (List Int)) : Option (List Int) := match a with
  | none => none
  | some x => if x.length ≤ 1000 then some x else none
theorem catS_mono {f g : Nat → Option (List Int)} (h : ∀ n, leS (f n) (g n)) : ∀ r, leS (catS f r) (catS g r)
  | [] => leS.refl _
  | s :: r => by
    have ih := catS_mono h r
    unfold catS
    have h1 : leS (if s < 0 then f (-1 - s).toNat else some [s]) (if s < 0 then g (-1 - s).toNat else some [s]) := by
      split
      · exact h _
      · exact leS.refl _
    generalize (if s < 0 then f (-1 - s).toNat else some [s]) = a at *
    generalize (if s < 0 then g (-1 - s).toNat else some [s]) = b at *
    generalize catS f r = c at *
    generalize catS g r = d at *
    cases b with
    | none => cases a <;> cases c <;> trivial
    | some b =>
      cases d with
      | none => cases a <;> cases c <;> trivial
      | some d =>
        cases a with
        | none => exact h1.elim
        | some a =>
          cases c with
          | none => exact ih.elim
          | some c => exact slx.append h1 ih
theorem toldS_mono {a b : Option (List Int)} (h : leS a b) : leS (toldS a) (toldS b) := by
  cases b with
  | none => cases toldS a <;> trivial
  | some y =>
    cases a with
    | none => exact h.elim
    | some x =>
      have hl := slx.len h
      show leS (if x.length ≤ 1000 then some x else none) (if y.length ≤ 1000 then some y else none)
      by_cases hy : y.length ≤ 1000
      · rw [if_pos hy, if_pos (by omega)]; exact h
      · rw [if_neg hy]
        by_cases hx : x.length ≤ 1000
        · rw [if_pos hx]; trivial
        · rw [if_neg hx]; trivial
/-- the better of two -/
def lexQ : List Int → List Int → Bool
  | [], _ => true
  | _ :: _, [] => false
  | x :: a, y :: b => decide (x < y) || (decide (x = y) && lexQ a b)
theorem lexQ_iff : ∀ (a b : List Int), lexQ a b = true ↔ lexLe a b
  | [], _ => ⟨fun _ => trivial, fun _ => by unfold lexQ; rfl⟩
  | _ :: _, [] => ⟨fun h => by simp [lexQ] at h, fun h => h.elim⟩
  | x :: a, y :: b => by
    have ih := lexQ_iff a b
    simp only [lexQ, lexLe, Bool.or_eq_true, Bool.and_eq_true, decide_eq_true_eq, ih]
def leQ : Option (List Int) → Option (List Int) → Bool
  | _, none => true
  | some x, some y => decide (x.length < y.length) || (decide (x.length = y.length) && lexQ x y)
  | none, some _ => false
theorem leQ_iff (a b : Option (List Int)) : leQ a b = true ↔ leS a b := by
  cases b with
  | none => exact ⟨fun _ => by cases a <;> trivial, fun _ => by cases a <;> rfl⟩
  | some y =>
    cases a with
    | none => exact ⟨fun h => by simp [leQ] at h, fun h => h.elim⟩
    | some x =>
      show (decide (x.length < y.length) || (decide (x.length = y.length) && lexQ x y)) = true ↔ slx x y
      unfold slx
      simp only [Bool.or_eq_true, Bool.and_eq_true, decide_eq_true_eq, lexQ_iff]
def minS (a b : Option (List Int)) : Option (List Int) := if leQ a b = true then a else b
theorem leS.total (a b : Option (List Int)) : leS a b ∨ leS b a := by
  cases a with
  | none => exact .inr (by cases b <;> trivial)
  | some x =>
    cases b with
    | none => exact .inl trivial
    | some y => exact slx.total x y
theorem minS_left (a b : Option (List Int)) : leS (minS a b) a := by
  unfold minS
  split
  · exact leS.refl _
  · rename_i h; exact (leS.total a b).resolve_left (fun h' => h ((leQ_iff a b).2 h'))
theorem minS_right (a b : Option (List Int)) : leS (minS a b) b := by
  unfold minS
  split
  · rename_i h; exact (leQ_iff a b).1 h
  · exact leS.refl _
theorem minS_eq (a b : Option (List Int)) : minS a b = a ∨ minS a b = b := by
  unfold minS
  split
  · exact .inl rfl
  · exact .inr rfl

theorem cat_part {a b c d : Option (List Int)} (h1 : leS a b) (ih : leS c d) : leS (catO a c) (catO b d) := by
  cases b with
  | none => cases a <;> cases c <;> trivial
  | some b =>
    cases d with
    | none => cases a <;> cases c <;> trivial
    | some d =>
      cases a with
      | none => exact h1.elim
      | some a =>
        cases c with
        | none => exact ih.elim
        | some c => exact slx.append h1 ih
/-- the best that the productions of a name give -/
def saysS (ps : List PrS) (f : Nat → Option (List Int)) (n : Nat) : Option (List Int) :=
  ps.foldr (fun p acc => if p.left = n then minS (toldS (catS f p.right)) acc else acc) none
theorem saysS_le {ps : List PrS} {f : Nat → Option (List Int)} {p : PrS} (hp : p ∈ ps) : leS (saysS ps f p.left) (toldS (catS f p.right)) := by
  induction ps with
  | nil => cases hp
  | cons q ps ih =>
    show leS (if q.left = p.left then minS (toldS (catS f q.right)) (saysS ps f p.left) else saysS ps f p.left) _
    rcases List.mem_cons.1 hp with rfl | hp
    · rw [if_pos rfl]; exact minS_left _ _
    · split
      · exact (minS_right _ _).trans (ih hp)
      · exact ih hp
theorem saysS_of (ps : List PrS) (f : Nat → Option (List Int)) (n : Nat) : saysS ps f n = none ∨ ∃ p ∈ ps, p.left = n ∧ saysS ps f n = toldS (catS f p.right) := by
  induction ps with
  | nil => exact .inl rfl
  | cons q ps ih =>
    have e : saysS (q :: ps) f n = if q.left = n then minS (toldS (catS f q.right)) (saysS ps f n) else saysS ps f n := rfl
    have hcase : saysS (q :: ps) f n = saysS ps f n ∨ (q.left = n ∧ saysS (q :: ps) f n = toldS (catS f q.right)) := by
      rw [e]
      split
      · rcases minS_eq (toldS (catS f q.right)) (saysS ps f n) with h | h
        · exact .inr ⟨by assumption, h⟩
        · exact .inl h
      · exact .inl rfl
    rcases hcase with h | ⟨h1, h2⟩
    · rcases ih with ih | ⟨p, hp, hl, he⟩
      · exact .inl (h.trans ih)
      · exact .inr ⟨p, by simp [hp], hl, h.trans he⟩
    · exact .inr ⟨q, by simp, h1, h2⟩
theorem saysS_mono {ps : List PrS} {f g : Nat → Option (List Int)} (h : ∀ n, leS (f n) (g n)) (n : Nat) : leS (saysS ps f n) (saysS ps g n) := by
  rcases saysS_of ps g n with e | ⟨p, hp, rfl, e⟩
  · rw [e]; cases saysS ps f n <;> trivial
  · rw [e]
    exact (saysS_le hp).trans (toldS_mono (catS_mono h _))
/-- .. by trees of so great a height -/
def bestS (ps : List PrS) : Nat → Nat → Option (List Int)
  | 0, _ => none
  | h + 1, n => saysS ps (bestS ps h) n
theorem bestS_down (ps : List PrS) : ∀ (h n : Nat), leS (bestS ps (h + 1) n) (bestS ps h n)
  | 0, n => by simp only [bestS]; cases saysS ps (bestS ps 0) n <;> trivial
  | h + 1, n => saysS_mono (fun m => bestS_down ps h m) n
theorem bestS_le (ps : List PrS) {h k : Nat} (hk : h ≤ k) (n : Nat) : leS (bestS ps k n) (bestS ps h n) := by
  induction k with
  | zero => obtain rfl : h = 0 := by omega
            exact leS.refl _
  | succ k ih =>
    by_cases e : h = k + 1
    · subst e; exact leS.refl _
    · exact (bestS_down ps k n).trans (ih (by omega))
/-- facts that follow from trees -/
def SoundS (ps : List PrS) (f : Nat → Option (List Int)) : Prop := ∀ n, ∃ h, leS (bestS ps h n) (f n)
/-- facts from which nothing better follows -/
def ClosedS (ps : List PrS) (f : Nat → Option (List Int)) : Prop := ∀ p ∈ ps, leS (f p.left) (toldS (catS f p.right))
theorem ClosedS.le {ps : List PrS} {f : Nat → Option (List Int)} (hc : ClosedS ps f) : ∀ h n, leS (f n) (bestS ps h n)
  | 0, n => by simp only [bestS]; cases f n <;> trivial
  | h + 1, n => by
    have ih := hc.le h
    show leS (f n) (saysS ps (bestS ps h) n)
    rcases saysS_of ps (bestS ps h) n with e | ⟨p, hp, rfl, e⟩
    · rw [e]; cases f n <;> trivial
    · rw [e]
      exact (hc p hp).trans (toldS_mono (catS_mono ih _))
/-- there is one such list of facts alone -/
theorem sents_unique {ps : List PrS} {f g : Nat → Option (List Int)} (cf : ClosedS ps f) (sf : SoundS ps f) (cg : ClosedS ps g) (sg : SoundS ps g) : ∀ n, f n = g n := fun n => by
  obtain ⟨h1, e1⟩ := sf n
  obtain ⟨h2, e2⟩ := sg n
  exact leS.antisymm ((cf.le h2 n).trans e2) ((cg.le h1 n).trans e1)
/-- one fact more, out of sound ones -/
theorem SoundS.step {ps : List PrS} {f : Nat → Option (List Int)} (hs : SoundS ps f) {p : PrS} (hp : p ∈ ps) : ∃ h, leS (bestS ps h p.left) (toldS (catS f p.right)) := by
  have hrow : ∀ r : List Int, ∃ h, leS (catS (bestS ps h) r) (catS f r) := by
    intro r
    induction r with
    | nil => exact ⟨0, leS.refl _⟩
    | cons s r ih =>
      obtain ⟨h1, e1⟩ := ih
      obtain ⟨h2, e2⟩ := hs (-1 - s).toNat
      refine ⟨max h1 h2, ?_⟩
      have a1 : leS (catS (bestS ps (max h1 h2)) r) (catS f r) := (catS_mono (fun n => bestS_le ps (Nat.le_max_left h1 h2) n) r).trans e1
      have a2 : leS (if s < 0 then bestS ps (max h1 h2) (-1 - s).toNat else some [s]) (if s < 0 then f (-1 - s).toNat else some [s]) := by
        split
        · exact (bestS_le ps (Nat.le_max_right h1 h2) _).trans e2
        · exact leS.refl _
      unfold catS
      generalize (if s < 0 then bestS ps (max h1 h2) (-1 - s).toNat else some [s]) = a at *
      generalize (if s < 0 then f (-1 - s).toNat else some [s]) = b at *
      generalize catS (bestS ps (max h1 h2)) r = c at *
      generalize catS f r = d at *
      exact cat_part a2 a1
  obtain ⟨h, e⟩ := hrow p.right
  exact ⟨h + 1, (saysS_le hp).trans (toldS_mono e)⟩

end Go.Proofs.YtmkimaceioacgaaDoor

namespace Go.Proofs.YtmkimaceioacgaaDoor
set_option linter.unusedVariables false

/-- these terminals lie there -/
def AtL (inp : List Int) (i : Nat) (l : List Int) : Prop := ∀ j, j < l.length → i + j < inp.length ∧ inp.getD (i + j) 0 = l.getD j 0
theorem AtL.left {inp : List Int} {i : Nat} {x y : List Int} (h : AtL inp i (x ++ y)) : AtL inp i x := fun j hj => by
  have := h j (by rw [List.length_append]; omega)
  refine ⟨this.1, this.2.trans ?_⟩
  simp [List.getD, List.getElem?_append_left hj]
theorem AtL.right {inp : List Int} {i : Nat} {x y : List Int} (h : AtL inp i (x ++ y)) : AtL inp (i + x.length) y := fun j hj => by
  have := h (x.length + j) (by rw [List.length_append]; omega)
  rw [← Nat.add_assoc] at this
  refine ⟨this.1, this.2.trans ?_⟩
  simp only [List.getD]
  rw [List.getElem?_append_right (by omega), Nat.add_sub_cancel_left]
theorem cat_row {inp : List Int} {f : Nat → Option (List Int)} {F : Nat → Nat → Nat → Prop} (hf : ∀ n l i, f n = some l → AtL inp i l → F n i (i + l.length)) : ∀ (r : List Int) (l : List Int) (i : Nat), catS f r = some l → AtL inp i l → rowP inp F r i (i + l.length)
  | [], l, i, h, _ => by
    have : l = [] := by simpa [catS] using h.symm
    subst this
    rfl
  | s :: r, l, i, h, ha => by
    rw [catS] at h
    cases h1 : (if s < 0 then f (-1 - s).toNat else some [s]) with
    | none => rw [h1] at h; cases h2 : catS f r <;> rw [h2] at h <;> simp [catO] at h
    | some x =>
      cases h2 : catS f r with
      | none => rw [h1, h2] at h; simp [catO] at h
      | some y =>
        rw [h1, h2] at h
        have hl : l = x ++ y := by simpa [catO] using h.symm
        subst hl
        have hx := ha.left
        have ih := cat_row hf r y (i + x.length) h2 ha.right
        refine ⟨i + x.length, by omega, by rw [List.length_append]; omega, ?_, ?_⟩
        · unfold symP
          by_cases e : s < 0
          · rw [if_pos e] at h1 ⊢
            exact hf _ x i h1 hx
          · rw [if_neg e] at h1 ⊢
            have hxe : x = [s] := by simpa using h1.symm
            subst hxe
            have := hx 0 (by simp)
            exact ⟨by simp, by simpa using this.1, by simpa using this.2⟩
        · rw [List.length_append, ← Nat.add_assoc]; exact ih
theorem told_some {a : Option (List Int)} {l : List Int} (h : toldS a = some l) : a = some l := by
  unfold toldS at h
  split at h
  · cases h
  · split at h
    · exact h
    · cases h
theorem best_span {ps : List PdR} (hps : ∀ p ∈ ps, 0 ≤ p.left) {inp : List Int} : ∀ (h n : Nat) (l : List Int) (i : Nat), bestS (prsS ps) h n = some l → AtL inp i l → spanP ps inp h n i (i + l.length)
  | 0, n, l, i, hb, _ => by simp [bestS] at hb
  | h + 1, n, l, i, hb, ha => by
    have hb' : saysS (prsS ps) (bestS (prsS ps) h) n = some l := hb
    rcases saysS_of (prsS ps) (bestS (prsS ps) h) n with e | ⟨p, hp, hl, e⟩
    · rw [e] at hb'; cases hb'
    · rw [e] at hb'
      have hc := told_some hb'
      obtain ⟨q, hq, rfl⟩ : ∃ q ∈ ps, prS q = p := by unfold prsS at hp; exact List.mem_map.1 hp
      obtain ⟨k, hk, hke⟩ := List.mem_iff_getElem.1 hq
      have hg : ps.getD k noPd = q := by simp [List.getD, hk, hke]
      have h0 := hps q hq
      have hl' : q.left.toNat = n := hl
      exact ⟨k, hk, by rw [hg]; omega, by rw [hg]; exact cat_row (fun m l' i' hm hat => best_span hps h m l' i' hm hat) q.right l i hc ha⟩
/-- what is told stands for itself -/
theorem sound_std {ps : List PdR} (hps : ∀ p ∈ ps, 0 ≤ p.left) {f : Nat → Option (List Int)} (hs : SoundS (prsS ps) f) (hc : ClosedS (prsS ps) f) {n : Nat} {l : List Int} (hf : f n = some l) : stdP ps l n 0 l.length := by
  obtain ⟨h, hle⟩ := hs n
  have hge := hc.le h n
  have he : bestS (prsS ps) h n = some l := by
    rw [← hf]
    exact leS.antisymm hle hge
  have := best_span hps (inp := l) h n l 0 he (fun j hj => ⟨by omega, by rw [Nat.zero_add]⟩)
  rw [Nat.zero_add] at this
  exact ⟨h, this⟩

end Go.Proofs.YtmkimaceioacgaaDoor
