/- Texts of the proof, put together: AExr, AShp. -/
import Derived.Test.YtgmmfpdekefamaaGreatDoorAt12
namespace Go.Proofs.YtgmmfpdekefamaaGreatDoor
open Go.RowKit
set_option linter.unusedVariables false
set_option maxRecDepth 100000

abbrev RE := Option (Ex × Tok)
def stE (r : RE) : Option Tok := r.map fun x => x.2
def exN (kind num : Int) (text : ByteArray) (kids : List Ex) : Ex := ⟨true, kind, num, text, kids⟩
def letL : List UInt8 := [108, 101, 116]
def inL : List UInt8 := [105, 110]
def ifL : List UInt8 := [105, 102]
def thenL : List UInt8 := [116, 104, 101, 110]
def elseL : List UInt8 := [101, 108, 115, 101]

/-- behind let -/
def letS (s : ByteArray) (ex : Tok → RE) (o : Option Tok) : RE :=
 match (needS s [61] (nameS s o)).bind ex with
 | none => none
 | some (v, t3) => match (needS s inL (some t3)).bind ex with
  | none => none
  | some (b, t) => some (exN 5 0 (textS o) [v, b], t)
/-- behind if -/
def ifS (s : ByteArray) (ex : Tok → RE) (o : Option Tok) : RE :=
 match o.bind ex with
 | none => none
 | some (a, t1) => match (needS s thenL (some t1)).bind ex with
  | none => none
  | some (b, t2) => match (needS s elseL (some t2)).bind ex with
   | none => none
   | some (c, t) => some (exN 6 0 emptyT [a, b, c], t)
/-- the elements of a list, from one on -/
def elsS (s : ByteArray) (ex : Tok → RE) : Nat → List Ex → Option Tok → RE
 | 0, _, _ => none
 | f + 1, acc, o => match o.bind ex with
  | none => none
  | some (k, t) => if isS [93] (some t) = true then (nextS s (some t)).map fun u => (exN 9 0 emptyT (acc ++ [k]), u) else elsS s ex f (acc ++ [k]) (needS s [44] (some t))
def listS (s : ByteArray) (ex : Tok → RE) (o : Option Tok) : RE :=
 if isS [93] o = true then (nextS s o).map fun u => (exN 9 0 emptyT [], u) else elsS s ex (s.size + 1) [] o
/-- what a function is called with -/
def argS (s : ByteArray) (ex : Tok → RE) : Nat → List Ex → Option Tok → Option (List Ex × Tok)
 | 0, acc, o => o.map fun t => (acc, t)
 | n + 1, acc, o => match (if acc.length = 0 then o else needS s [44] o).bind ex with
  | none => none
  | some (k, t) => argS s ex n (acc ++ [k]) (some t)
def callS (s : ByteArray) (ex : Tok → RE) (n : Nat) (name : ByteArray) (o : Option Tok) : RE :=
 match argS s ex n [] (needS s [40] o) with
 | none => none
 | some (l, t) => (needS s [41] (some t)).map fun u => (exN 10 0 name l, u)
def atomS (s : ByteArray) (ex : Tok → RE) (t : Tok) : RE :=
 if t.kind = 1 then (nextS s (some t)).map fun u => (exN 1 t.num emptyT [], u)
 else if t.kind = 3 then (nextS s (some t)).map fun u => (exN 3 t.num emptyT [], u)
 else if t.kind = 2 then (nextS s (some t)).map fun u => (exN 2 0 t.text [], u)
 else if isS [40] (some t) = true then (match (nextS s (some t)).bind ex with
  | none => none
  | some (e, u) => (needS s [41] (some u)).map fun v => (e, v))
 else if isS [91] (some t) = true then listS s ex (nextS s (some t))
 else if t.kind = 4 ∧ 0 < kidsL t.text.toList then callS s ex (kidsL t.text.toList).toNat t.text (nextS s (some t))
 else (nameS s (some t)).map fun u => (exN 4 0 t.text [], u)
def sgdS (s : ByteArray) (ex : Tok → RE) : Nat → Tok → RE
 | 0, _ => none
 | f + 1, t => if isS [45] (some t) = true then (match (nextS s (some t)).bind (sgdS s ex f) with
   | none => none
   | some (k, u) => some (exN 8 0 emptyT [k], u))
  else atomS s ex t
/-- the operators of a level -/
def opsS (s : ByteArray) (lv : Int) (sub : Tok → RE) : Nat → Ex → Tok → RE
 | 0, _, _ => none
 | f + 1, e, t => if t.kind = 6 ∧ lvlL t.text.toList = lv then (match (nextS s (some t)).bind sub with
   | none => none
   | some (k, u) => if lv = 0 then some (exN 7 0 t.text [e, k], u) else opsS s lv sub f (exN 7 0 t.text [e, k]) u)
  else some (e, t)
def levS (s : ByteArray) (lv : Int) (sub : Tok → RE) (t : Tok) : RE :=
 match sub t with
 | none => none
 | some (e, u) => opsS s lv sub (s.size + 1) e u
def topS (s : ByteArray) (ex : Tok → RE) (t : Tok) : RE := levS s 0 (levS s 1 (levS s 2 (sgdS s ex (s.size + 1)))) t
def exprS (s : ByteArray) : Nat → Tok → RE
 | 0, _ => none
 | f + 1, t => if isS letL (some t) = true then letS s (exprS s f) (nextS s (some t))
  else if isS ifL (some t) = true then ifS s (exprS s f) (nextS s (some t))
  else topS s (exprS s f) t

/-- readers go on -/
def GoesE (s : ByteArray) (r : Tok → RE) : Prop := ∀ t e u, TokOk s t → r t = some (e, u) → TokOk s u ∧ t.fr < u.fr ∧ e.is = true

theorem next_ok {s : ByteArray} {t u : Tok} (ht : TokOk s t) (hk : t.kind ≠ 0) (h : nextS s (some t) = some u) : TokOk s u ∧ t.fr < u.fr := by
 have := cut_goes ht.2.2.1 h
 have h2 := ht.2.2.2 hk
 exact ⟨⟨this.2.2.2.2.2.1, this.2.1, this.2.2.1, this.2.2.2.1⟩, by omega⟩
theorem is_kind {x : List UInt8} {t : Tok} (h : isS x (some t) = true) : t.kind = 6 ∨ t.kind = 4 := by
 simp only [isS, Bool.and_eq_true, Bool.or_eq_true, decide_eq_true_eq] at h
 exact h.1
theorem named_kind {t : Tok} (h : namedS (some t) = true) : t.kind = 4 := by
 simp only [namedS, Bool.and_eq_true, decide_eq_true_eq] at h
 exact h.1
/-- where the parser stands, it stands at a token from a place on -/
def OkO (s : ByteArray) (m : Nat) (o : Option Tok) : Prop := ∀ t, o = some t → TokOk s t ∧ m ≤ t.fr
theorem OkO.mono {s : ByteArray} {m n : Nat} {o : Option Tok} (h : OkO s m o) (hn : n ≤ m) : OkO s n o := fun t ht => ⟨(h t ht).1, by have := (h t ht).2; omega⟩
theorem OkO.one {s : ByteArray} {t : Tok} (h : TokOk s t) : OkO s t.fr (some t) := fun u hu => by cases hu; exact ⟨h, Nat.le_refl _⟩
theorem OkO.nothing (s : ByteArray) (m : Nat) : OkO s m none := fun t h => by cases h
theorem OkO.next {s : ByteArray} {m : Nat} {t : Tok} (h : TokOk s t) (hm : m ≤ t.fr) (hk : t.kind ≠ 0) : OkO s (m + 1) (nextS s (some t)) := fun u hu => by
 have := next_ok h hk hu
 exact ⟨this.1, by omega⟩
theorem OkO.need {s : ByteArray} {m : Nat} {o : Option Tok} (h : OkO s m o) (x : List UInt8) : OkO s (m + 1) (needS s x o) := by
 cases o with
 | none => intro t ht; simp [needS, isS] at ht
 | some t =>
  unfold needS
  split
  ·rename_i hi
   obtain ⟨h1, h2⟩ := h t rfl
   exact OkO.next h1 h2 (by have := is_kind hi; omega)
  ·exact OkO.nothing _ _
theorem OkO.name {s : ByteArray} {m : Nat} {o : Option Tok} (h : OkO s m o) : OkO s (m + 1) (nameS s o) := by
 cases o with
 | none => intro t ht; simp [nameS, namedS] at ht
 | some t =>
  unfold nameS
  split
  ·rename_i hi
   obtain ⟨h1, h2⟩ := h t rfl
   exact OkO.next h1 h2 (by have := named_kind hi; omega)
  ·exact OkO.nothing _ _
theorem OkO.read {s : ByteArray} {m : Nat} {o : Option Tok} {r : Tok → RE} {e : Ex} {u : Tok} (h : OkO s m o) (hr : GoesE s r) (hu : o.bind r = some (e, u)) : TokOk s u ∧ m < u.fr ∧ e.is = true := by
 cases o with
 | none => cases hu
 | some t =>
  obtain ⟨h1, h2⟩ := h t rfl
  have := hr t e u h1 hu
  exact ⟨this.1, by omega, this.2.2⟩
theorem map_some {α β : Type} {o : Option α} {f : α → β} {b : β} (h : o.map f = some b) : ∃ a, o = some a ∧ f a = b := by
 cases o with
 | none => cases h
 | some a => exact ⟨a, rfl, Option.some.inj h⟩

theorem let_goes {s : ByteArray} {m : Nat} {ex : Tok → RE} (hx : GoesE s ex) {o : Option Tok} (ho : OkO s m o) {e : Ex} {u : Tok} (h : letS s ex o = some (e, u)) : TokOk s u ∧ m < u.fr ∧ e.is = true := by
 unfold letS at h
 cases h1 : (needS s [61] (nameS s o)).bind ex with
 | none => rw [h1] at h; cases h
 | some x =>
  obtain ⟨v, t3⟩ := x
  rw [h1] at h
  simp only at h
  have g1 := (ho.name.need [61]).read hx h1
  cases h2 : (needS s inL (some t3)).bind ex with
  | none => rw [h2] at h; cases h
  | some y =>
   obtain ⟨b, t⟩ := y
   rw [h2] at h
   simp only [Option.some.injEq, Prod.mk.injEq] at h
   obtain ⟨rfl, rfl⟩ := h
   have g2 := ((OkO.one g1.1).need inL).read hx h2
   exact ⟨g2.1, by omega, rfl⟩
theorem if_goes {s : ByteArray} {m : Nat} {ex : Tok → RE} (hx : GoesE s ex) {o : Option Tok} (ho : OkO s m o) {e : Ex} {u : Tok} (h : ifS s ex o = some (e, u)) : TokOk s u ∧ m < u.fr ∧ e.is = true := by
 unfold ifS at h
 cases h1 : o.bind ex with
 | none => rw [h1] at h; cases h
 | some x =>
  obtain ⟨v, t1⟩ := x
  rw [h1] at h
  simp only at h
  have g1 := ho.read hx h1
  cases h2 : (needS s thenL (some t1)).bind ex with
  | none => rw [h2] at h; cases h
  | some y =>
   obtain ⟨b, t2⟩ := y
   rw [h2] at h
   simp only at h
   have g2 := ((OkO.one g1.1).need thenL).read hx h2
   cases h3 : (needS s elseL (some t2)).bind ex with
   | none => rw [h3] at h; cases h
   | some z =>
    obtain ⟨c, t⟩ := z
    rw [h3] at h
    simp only [Option.some.injEq, Prod.mk.injEq] at h
    obtain ⟨rfl, rfl⟩ := h
    have g3 := ((OkO.one g2.1).need elseL).read hx h3
    exact ⟨g3.1, by omega, rfl⟩
theorem els_goes {s : ByteArray} {ex : Tok → RE} (hx : GoesE s ex) : ∀ (f m : Nat) (acc : List Ex) (o : Option Tok), OkO s m o → ∀ {e : Ex} {u : Tok}, elsS s ex f acc o = some (e, u) → TokOk s u ∧ m < u.fr ∧ e.is = true
 | 0, m, acc, o, ho, e, u, h => by cases h
 | f + 1, m, acc, o, ho, e, u, h => by
  rw [elsS] at h
  cases h1 : o.bind ex with
  | none => rw [h1] at h; cases h
  | some x =>
   obtain ⟨k, t⟩ := x
   rw [h1] at h
   simp only at h
   have g1 := ho.read hx h1
   split at h
   ·rename_i hi
    obtain ⟨u', h2, h3⟩ := map_some h
    simp only [Prod.mk.injEq] at h3
    obtain ⟨rfl, rfl⟩ := h3
    have := next_ok g1.1 (by have := is_kind hi; omega) h2
    exact ⟨this.1, by omega, rfl⟩
   ·have := els_goes hx f _ _ _ ((OkO.one g1.1).need [44]) h
    exact ⟨this.1, by omega, this.2.2⟩
theorem list_goes {s : ByteArray} {m : Nat} {ex : Tok → RE} (hx : GoesE s ex) {o : Option Tok} (ho : OkO s m o) {e : Ex} {u : Tok} (h : listS s ex o = some (e, u)) : TokOk s u ∧ m < u.fr ∧ e.is = true := by
 unfold listS at h
 split at h
 ·rename_i hi
  cases o with
  | none => cases hi
  | some t =>
   obtain ⟨u', h2, h3⟩ := map_some h
   simp only [Prod.mk.injEq] at h3
   obtain ⟨rfl, rfl⟩ := h3
   obtain ⟨g1, g2⟩ := ho t rfl
   have := next_ok g1 (by have := is_kind hi; omega) h2
   exact ⟨this.1, by omega, rfl⟩
 ·exact els_goes hx _ _ _ _ ho h
theorem arg_goes {s : ByteArray} {ex : Tok → RE} (hx : GoesE s ex) : ∀ (n m : Nat) (acc : List Ex) (o : Option Tok), OkO s m o → ∀ {l : List Ex} {u : Tok}, argS s ex n acc o = some (l, u) → TokOk s u ∧ m ≤ u.fr ∧ l.length = acc.length + n
 | 0, m, acc, o, ho, l, u, h => by
  rw [argS] at h
  obtain ⟨u', h2, h3⟩ := map_some h
  simp only [Prod.mk.injEq] at h3
  obtain ⟨rfl, rfl⟩ := h3
  exact ⟨(ho _ h2).1, (ho _ h2).2, rfl⟩
 | n + 1, m, acc, o, ho, l, u, h => by
  rw [argS] at h
  have ho2 : OkO s m (if acc.length = 0 then o else needS s [44] o) := by
   split
   ·exact ho
   ·exact (ho.need _).mono (by omega)
  cases h1 : (if acc.length = 0 then o else needS s [44] o).bind ex with
  | none => rw [h1] at h; cases h
  | some x =>
   obtain ⟨k, t⟩ := x
   rw [h1] at h
   simp only at h
   have g1 := ho2.read hx h1
   have := arg_goes hx n _ _ _ (OkO.one g1.1) h
   refine ⟨this.1, by omega, ?_⟩
   rw [this.2.2]
   simp
   omega
theorem call_goes {s : ByteArray} {m n : Nat} {ex : Tok → RE} (hx : GoesE s ex) {name : ByteArray} {o : Option Tok} (ho : OkO s m o) {e : Ex} {u : Tok} (h : callS s ex n name o = some (e, u)) : TokOk s u ∧ m < u.fr ∧ e.is = true := by
 unfold callS at h
 cases h1 : argS s ex n [] (needS s [40] o) with
 | none => rw [h1] at h; cases h
 | some x =>
  obtain ⟨l, t⟩ := x
  rw [h1] at h
  simp only at h
  obtain ⟨u', h2, h3⟩ := map_some h
  simp only [Prod.mk.injEq] at h3
  obtain ⟨rfl, rfl⟩ := h3
  have g1 := arg_goes hx _ _ _ _ (ho.need [40]) h1
  have g2 := (OkO.one g1.1).need [41] _ h2
  exact ⟨g2.1, by omega, rfl⟩
theorem atom_goes {s : ByteArray} {ex : Tok → RE} (hx : GoesE s ex) : GoesE s (atomS s ex) := by
 intro t e u ht h
 unfold atomS at h
 have one : ∀ {a : Ex}, t.kind ≠ 0 → a.is = true → ((nextS s (some t)).map fun u => (a, u)) = some (e, u) → TokOk s u ∧ t.fr < u.fr ∧ e.is = true := fun hk ha h => by
  obtain ⟨u', h2, h3⟩ := map_some h
  simp only [Prod.mk.injEq] at h3
  obtain ⟨rfl, rfl⟩ := h3
  have := next_ok ht hk h2
  exact ⟨this.1, this.2, ha⟩
 split at h
 ·exact one (by omega) rfl h
 ·split at h
  ·exact one (by omega) rfl h
  ·split at h
   ·exact one (by omega) rfl h
   ·split at h
    ·rename_i hi
     have hk : t.kind ≠ 0 := by have := is_kind hi; omega
     cases h1 : (nextS s (some t)).bind ex with
     | none => rw [h1] at h; cases h
     | some x =>
      obtain ⟨a, v⟩ := x
      rw [h1] at h
      simp only at h
      have g1 := (OkO.next ht (Nat.le_refl _) hk).read hx h1
      obtain ⟨u', h2, h3⟩ := map_some h
      simp only [Prod.mk.injEq] at h3
      obtain ⟨rfl, rfl⟩ := h3
      have g2 := (OkO.one g1.1).need [41] _ h2
      exact ⟨g2.1, by omega, g1.2.2⟩
    ·split at h
     ·rename_i hi
      have hk : t.kind ≠ 0 := by have := is_kind hi; omega
      have := list_goes hx (OkO.next ht (Nat.le_refl _) hk) h
      exact ⟨this.1, by omega, this.2.2⟩
     ·split at h
      ·rename_i hi
       have := call_goes hx (OkO.next ht (Nat.le_refl _) (by omega)) h
       exact ⟨this.1, by omega, this.2.2⟩
      ·obtain ⟨u', h2, h3⟩ := map_some h
       simp only [Prod.mk.injEq] at h3
       obtain ⟨rfl, rfl⟩ := h3
       have := (OkO.one ht).name _ h2
       exact ⟨this.1, by omega, rfl⟩
theorem sgd_goes {s : ByteArray} {ex : Tok → RE} (hx : GoesE s ex) : ∀ f, GoesE s (sgdS s ex f)
 | 0 => fun t e u ht h => by cases h
 | f + 1 => fun t e u ht h => by
  rw [sgdS] at h
  split at h
  ·rename_i hi
   have hk : t.kind ≠ 0 := by have := is_kind hi; omega
   cases h1 : (nextS s (some t)).bind (sgdS s ex f) with
   | none => rw [h1] at h; cases h
   | some x =>
    obtain ⟨a, v⟩ := x
    rw [h1] at h
    simp only [Option.some.injEq, Prod.mk.injEq] at h
    obtain ⟨rfl, rfl⟩ := h
    have g1 := (OkO.next ht (Nat.le_refl _) hk).read (sgd_goes hx f) h1
    exact ⟨g1.1, by omega, rfl⟩
  ·exact atom_goes hx t e u ht h
theorem ops_goes {s : ByteArray} {lv : Int} {sub : Tok → RE} (hx : GoesE s sub) : ∀ (f : Nat) (a : Ex) (t : Tok), TokOk s t → a.is = true → ∀ {e : Ex} {u : Tok}, opsS s lv sub f a t = some (e, u) → TokOk s u ∧ t.fr ≤ u.fr ∧ e.is = true
 | 0, a, t, ht, ha, e, u, h => by cases h
 | f + 1, a, t, ht, ha, e, u, h => by
  rw [opsS] at h
  split at h
  ·rename_i hi
   cases h1 : (nextS s (some t)).bind sub with
   | none => rw [h1] at h; cases h
   | some x =>
    obtain ⟨k, v⟩ := x
    rw [h1] at h
    simp only at h
    have g1 := (OkO.next ht (Nat.le_refl _) (by omega)).read hx h1
    split at h
    ·simp only [Option.some.injEq, Prod.mk.injEq] at h
     obtain ⟨rfl, rfl⟩ := h
     exact ⟨g1.1, by omega, rfl⟩
    ·have := ops_goes hx f _ v g1.1 rfl h
     exact ⟨this.1, by omega, this.2.2⟩
  ·simp only [Option.some.injEq, Prod.mk.injEq] at h
   obtain ⟨rfl, rfl⟩ := h
   exact ⟨ht, Nat.le_refl _, ha⟩
theorem lev_goes {s : ByteArray} {lv : Int} {sub : Tok → RE} (hx : GoesE s sub) : GoesE s (levS s lv sub) := by
 intro t e u ht h
 unfold levS at h
 cases h1 : sub t with
 | none => rw [h1] at h; cases h
 | some x =>
  obtain ⟨a, v⟩ := x
  rw [h1] at h
  have g1 := hx t a v ht h1
  have := ops_goes hx _ a v g1.1 g1.2.2 h
  exact ⟨this.1, by omega, this.2.2⟩
theorem top_goes {s : ByteArray} {ex : Tok → RE} (hx : GoesE s ex) : GoesE s (topS s ex) := lev_goes (lev_goes (lev_goes (sgd_goes hx _)))
theorem expr_goes (s : ByteArray) : ∀ f, GoesE s (exprS s f)
 | 0 => fun t e u ht h => by cases h
 | f + 1 => fun t e u ht h => by
  rw [exprS] at h
  split at h
  ·rename_i hi
   have := let_goes (expr_goes s f) (OkO.next ht (Nat.le_refl _) (by have := is_kind hi; omega)) h
   exact ⟨this.1, by omega, this.2.2⟩
  ·split at h
   ·rename_i hi
    have := if_goes (expr_goes s f) (OkO.next ht (Nat.le_refl _) (by have := is_kind hi; omega)) h
    exact ⟨this.1, by omega, this.2.2⟩
   ·exact top_goes (expr_goes s f) t e u ht h

end Go.Proofs.YtgmmfpdekefamaaGreatDoor

namespace Go.Proofs.YtgmmfpdekefamaaGreatDoor
open Go.RowKit
set_option linter.unusedVariables false
set_option maxRecDepth 100000

def allB (P : Int → Bool) (s : ByteArray) (k : Nat) : Bool := (List.range k).all fun j => P ((s.get! j).toNat : Int)
theorem allB_succ (P : Int → Bool) (s : ByteArray) (k : Nat) : allB P s (k + 1) = (allB P s k && P ((s.get! k).toNat : Int)) := by simp [allB, List.range_succ]
theorem allB_false {P : Int → Bool} {s : ByteArray} {k n : Nat} (hk : k < n) (h : P ((s.get! k).toNat : Int) = false) : allB P s n = false := by
 unfold allB
 rw [List.all_eq_false]
 exact ⟨k, List.mem_range.2 hk, by rw [h]; simp⟩
/-- a word; a name -/
def isWordB (s : ByteArray) : Bool := decide (0 < s.size) && (smallB ((s.get! 0).toNat : Int) && allB wordB s s.size)
def isNameB (s : ByteArray) : Bool := isWordB s && (decide (s.size ≤ 40) && (!(keptL s.toList) && (kidsL s.toList == 0)))
theorem small_range (b : Int) : smallB b = (!(decide (b < 97)) && !(decide (b > 122))) := by
 unfold smallB
 by_cases h1 : b < 97
 ·have h2 : ¬ b ≥ 97 := by omega
  simp [h1, h2]
 ·by_cases h3 : b > 122
  ·have h4 : ¬ b ≤ 122 := by omega
   have h2 : b ≥ 97 := by omega
   simp [h1, h2, h3, h4]
  ·have h4 : b ≤ 122 := by omega
   have h2 : b ≥ 97 := by omega
   simp [h1, h2, h3, h4]

set_option maxHeartbeats 4000000 in
theorem rword_any (s : ByteArray) (hs : s.size ≤ 140737488351232) (w : World) : Calls Tryz.prog 148 #[.string s] w fun e w' => e = .returned (.bool (isWordB s)) ∧ w' = w := by
 by_cases h0 : s.size = 0
 ·have HV : Hid (isWordB s = false) := by show _ = _; unfold isWordB; rw [decide_eq_false (by omega)]; rfl
  have hz : ((s.size : Int) == 0) = true := by rw [beq_iff_eq]; omega
  go_enter Tryz.func148, Tryz.ntmps148
  go_wp2
  go_ret
  exact ⟨by rw [HV.out]; rfl, rfl⟩
 ·have hz : ((s.size : Int) == 0) = false := by rw [beq_eq_false_iff_ne]; omega
  have hb0 := get_atA s 0 (by omega)
  have hlt0 : 0 < s.size := by omega
  have HS : Hid (smallB ((s.get! 0).toNat : Int) = (!(decide (((s.get! 0).toNat : Int) < 97)) && !(decide (((s.get! 0).toNat : Int) > 122)))) := small_range _
  have HW : Hid (isWordB s = (smallB ((s.get! 0).toNat : Int) && allB wordB s s.size)) := by show _ = _; unfold isWordB; rw [decide_eq_true (by omega)]; rfl
  rw [HS.out] at HW
  clear HS
  cases h1 : decide (((s.get! 0).toNat : Int) < 97)
  ·cases h2 : decide (((s.get! 0).toNat : Int) > 122)
   ·rw [h1, h2] at HW
    go_enter Tryz.func148, Tryz.ntmps148
    go_wp2
    go_loop [3, 4, 5] (fun a _ _ => ∃ k : Nat, k ≤ s.size ∧ a = .int .i64 k ∧ Hid (allB wordB s k = true)) (fun a _ _ => s.size - (intOf a).toNat)
    case atStart => exact ⟨0, by omega, rfl, rfl⟩
    case round =>
     obtain ⟨k, hk, rfl, HA⟩ := hrel
     by_cases hlt : k < s.size
     ·have hb := get_atA s k hlt
      have HD2 : Hid (∀ w, Calls Tryz.prog 110 #[.int .u8 ((s.get! k).toNat : Int)] w fun e w' => e = .returned (.bool (digitB ((s.get! k).toNat : Int))) ∧ w' = w) := fun w => rdigit_any _ w
      have HS2 : Hid (∀ w, Calls Tryz.prog 111 #[.int .u8 ((s.get! k).toNat : Int)] w fun e w' => e = .returned (.bool (smallB ((s.get! k).toNat : Int))) ∧ w' = w) := fun w => rsmall_any _ w
      have HWd : Hid (wordB ((s.get! k).toNat : Int) = (smallB ((s.get! k).toNat : Int) || digitB ((s.get! k).toNat : Int) || !(((s.get! k).toNat : Int) != 95))) := by
       show _ = _
       unfold wordB
       congr 1
       cases h : (((s.get! k).toNat : Int) != 95)
       ·rw [bne_eq_false_iff_eq] at h; simp [h]
       ·rw [bne_iff_ne] at h; simp [h]
      have HGo : Hid (wordB ((s.get! k).toNat : Int) = true → allB wordB s (k + 1) = true) := fun h => by rw [allB_succ, HA.out, h]; rfl
      have HSt : Hid (wordB ((s.get! k).toNat : Int) = false → isWordB s = false) := fun h => by rw [HW.out, allB_false hlt h]; rfl
      clear HW HA
      go_wp2_with fail
      go_at_call 111
      refine (HS2.out _).mono ?_
      rintro e w' ⟨rfl, hw⟩
      obtain rfl := hw.symm
      clear hw
      go_wp2_with fail
      go_at_call 110
      refine (HD2.out _).mono ?_
      rintro e w' ⟨rfl, hw⟩
      obtain rfl := hw.symm
      clear hw HD2 HS2
      cases e1 : smallB ((s.get! k).toNat : Int)
      ·cases e2 : digitB ((s.get! k).toNat : Int)
       ·cases e3 : (((s.get! k).toNat : Int) != 95)
        ·have HE := HGo.out (by rw [HWd.out, e1, e2, e3]; rfl)
         have HE2 : Hid (allB wordB s (k + 1) = true) := HE
         clear HE HGo HSt HWd
         go_wp2
         go_round
         case rel => exact ⟨k + 1, by omega, by go_num, HE2⟩
         case measure => simp [intOf]; omega
        ·have HE2 : Hid (isWordB s = false) := HSt.out (by rw [HWd.out, e1, e2, e3]; rfl)
         clear HGo HSt HWd
         go_wp2
         go_ret
         exact ⟨by rw [HE2.out]; rfl, rfl⟩
       ·have HE2 : Hid (allB wordB s (k + 1) = true) := HGo.out (by rw [HWd.out, e1, e2]; rfl)
        clear HGo HSt HWd
        go_wp2
        go_round
        case rel => exact ⟨k + 1, by omega, by go_num, HE2⟩
        case measure => simp [intOf]; omega
      ·have HE2 : Hid (allB wordB s (k + 1) = true) := HGo.out (by rw [HWd.out, e1]; rfl)
       clear HGo HSt HWd
       go_wp2
       go_round
       case rel => exact ⟨k + 1, by omega, by go_num, HE2⟩
       case measure => simp [intOf]; omega
     ·obtain rfl : k = s.size := by omega
      have HE2 : Hid (isWordB s = true) := by show _ = _; rw [HW.out, HA.out]; rfl
      clear HW HA
      go_wp2
      go_ret
      exact ⟨by rw [HE2.out]; rfl, rfl⟩
   ·rw [h1, h2] at HW
    go_enter Tryz.func148, Tryz.ntmps148
    go_wp2
    go_ret
    exact ⟨by rw [HW.out]; rfl, rfl⟩
  ·rw [h1] at HW
   go_enter Tryz.func148, Tryz.ntmps148
   go_wp2
   go_ret
   exact ⟨by rw [HW.out]; rfl, rfl⟩

set_option maxHeartbeats 4000000 in
theorem rname_any (s : ByteArray) (hs : s.size ≤ 140737488351232) (w : World) : Calls Tryz.prog 87 #[.string s] w fun e w' => e = .returned (.bool (isNameB s)) ∧ w' = w := by
 have H1 : Hid (∀ w, Calls Tryz.prog 148 #[.string s] w fun e w' => e = .returned (.bool (isWordB s)) ∧ w' = w) := fun w => rword_any s hs w
 have H2 : Hid (∀ w, Calls Tryz.prog 149 #[.string s] w fun e w' => e = .returned (.bool (keptL s.toList)) ∧ w' = w) := fun w => rkept_any s w
 have H3 : Hid (∀ w, Calls Tryz.prog 90 #[.string s] w fun e w' => e = .returned (.int .i64 (kidsL s.toList)) ∧ w' = w) := fun w => rkids_any s w
 have HV : Hid (isNameB s = (isWordB s && (decide (s.size ≤ 40) && (!(keptL s.toList) && (kidsL s.toList == 0))))) := rfl
 have hd : decide (s.size ≤ 40) = decide ((s.size : Int) ≤ 40) := by by_cases h : s.size ≤ 40 <;> simp [h] <;> omega
 rw [hd] at HV
 clear hd
 generalize isWordB s = b1 at *
 generalize keptL s.toList = b2 at *
 generalize kidsL s.toList = kd at *
 cases b1
 ·go_enter Tryz.func87, Tryz.ntmps87
  go_wp2_with (first | (go_at_call 148; refine (H1.out _).mono ?_; rintro e w' ⟨rfl, rfl⟩) | (go_at_call 149; refine (H2.out _).mono ?_; rintro e w' ⟨rfl, rfl⟩) | (go_at_call 90; refine (H3.out _).mono ?_; rintro e w' ⟨rfl, rfl⟩))
  go_ret
  exact ⟨by rw [HV.out]; rfl, rfl⟩
 ·cases h40 : decide ((s.size : Int) ≤ 40)
  ·go_enter Tryz.func87, Tryz.ntmps87
   go_wp2_with (first | (go_at_call 148; refine (H1.out _).mono ?_; rintro e w' ⟨rfl, rfl⟩) | (go_at_call 149; refine (H2.out _).mono ?_; rintro e w' ⟨rfl, rfl⟩) | (go_at_call 90; refine (H3.out _).mono ?_; rintro e w' ⟨rfl, rfl⟩))
   go_ret
   exact ⟨by rw [HV.out, h40]; rfl, rfl⟩
  ·cases b2
   ·go_enter Tryz.func87, Tryz.ntmps87
    go_wp2_with (first | (go_at_call 148; refine (H1.out _).mono ?_; rintro e w' ⟨rfl, rfl⟩) | (go_at_call 149; refine (H2.out _).mono ?_; rintro e w' ⟨rfl, rfl⟩) | (go_at_call 90; refine (H3.out _).mono ?_; rintro e w' ⟨rfl, rfl⟩))
    go_ret
    exact ⟨by rw [HV.out, h40]; rfl, rfl⟩
   ·go_enter Tryz.func87, Tryz.ntmps87
    go_wp2_with (first | (go_at_call 148; refine (H1.out _).mono ?_; rintro e w' ⟨rfl, rfl⟩) | (go_at_call 149; refine (H2.out _).mono ?_; rintro e w' ⟨rfl, rfl⟩) | (go_at_call 90; refine (H3.out _).mono ?_; rintro e w' ⟨rfl, rfl⟩))
    go_ret
    exact ⟨by rw [HV.out, h40]; rfl, rfl⟩

end Go.Proofs.YtgmmfpdekefamaaGreatDoor
