/- Texts of the proof, put together: Sets, Pat, Plain, PatB. -/
import Derived.Lib.SpaceU
import Derived.Lib.RuneBytes
import Derived.Lib.MapLaws
namespace Go.Proofs.YtbjohedenfindaaGreatDoor
set_option linter.unusedVariables false

abbrev Rg := Int × Int
def inR (p : Int) (r : Rg) : Bool := decide (r.1 ≤ p) && decide (p ≤ r.2)
def hasL (l : List Rg) (p : Int) : Bool := l.any (inR p)
def hasB (l : List Rg) (p : Int) : Bool := (decide (0 ≤ p) && decide (p ≤ 1114111)) && hasL l p

theorem inR_iff (p : Int) (r : Rg) : inR p r = true ↔ r.1 ≤ p ∧ p ≤ r.2 := by simp [inR]
theorem hasL_iff (l : List Rg) (p : Int) : hasL l p = true ↔ ∃ r ∈ l, r.1 ≤ p ∧ p ≤ r.2 := by
  simp [hasL, inR_iff]
theorem hasL_cons (r : Rg) (l : List Rg) (p : Int) : hasL (r :: l) p = (inR p r || hasL l p) := by simp [hasL]
theorem hasL_append (a b : List Rg) (p : Int) : hasL (a ++ b) p = (hasL a p || hasL b p) := by simp [hasL]

/-- gaps between neighbours, no empty range -/
def Apart (l : List Rg) : Prop := l.Pairwise (fun a b => a.2 + 1 < b.1) ∧ ∀ r ∈ l, r.1 ≤ r.2

theorem Apart.tail {r : Rg} {t : List Rg} (h : Apart (r :: t)) : Apart t :=
  ⟨(List.pairwise_cons.1 h.1).2, fun x hx => h.2 x (List.mem_cons_of_mem _ hx)⟩
theorem Apart.head {r : Rg} {t : List Rg} (h : Apart (r :: t)) : ∀ x ∈ t, r.2 + 1 < x.1 := (List.pairwise_cons.1 h.1).1

theorem split_last : ∀ {l : List Rg} {r : Rg}, l.getLast? = some r → l = l.dropLast ++ [r]
  | [], r, h => by simp at h
  | [x], r, h => by simp at h; subst h; rfl
  | x :: y :: t, r, h => by
    have h2 : (y :: t).getLast? = some r := by simpa [List.getLast?_cons_cons] using h
    have := split_last (l := y :: t) h2
    rw [List.dropLast_cons_cons, List.cons_append, ← this]

theorem hasL_tail_low {r : Rg} {t : List Rg} (h : Apart (r :: t)) (p : Int) (hp : p ≤ r.2 + 1) : hasL t p = false := by
  rw [← Bool.not_eq_true, hasL_iff]
  rintro ⟨x, hx, h1, h2⟩
  have := h.head x hx
  omega

theorem apart_unique : ∀ (a b : List Rg), Apart a → Apart b → (∀ p, hasL a p = hasL b p) → a = b
  | [], [], _, _, _ => rfl
  | [], r :: t, _, hb, h => by
    have h1 := h r.1
    have : hasL (r :: t) r.1 = true := (hasL_iff _ _).2 ⟨r, by simp, by omega, hb.2 r (by simp)⟩
    rw [this] at h1
    simp [hasL] at h1
  | r :: t, [], ha, _, h => by
    have h1 := h r.1
    have : hasL (r :: t) r.1 = true := (hasL_iff _ _).2 ⟨r, by simp, by omega, ha.2 r (by simp)⟩
    rw [this] at h1
    simp [hasL] at h1
  | r :: t, s :: u, ha, hb, h => by
    have ra := ha.2 r (by simp)
    have sb := hb.2 s (by simp)
    have lo1 : s.1 ≤ r.1 := by
      have : hasL (s :: u) r.1 = true := by rw [← h]; exact (hasL_iff _ _).2 ⟨r, by simp, by omega, ra⟩
      obtain ⟨x, hx, h1, h2⟩ := (hasL_iff _ _).1 this
      rcases List.mem_cons.1 hx with rfl | hx
      · exact h1
      · have := hb.head x hx; omega
    have lo2 : r.1 ≤ s.1 := by
      have : hasL (r :: t) s.1 = true := by rw [h]; exact (hasL_iff _ _).2 ⟨s, by simp, by omega, sb⟩
      obtain ⟨x, hx, h1, h2⟩ := (hasL_iff _ _).1 this
      rcases List.mem_cons.1 hx with rfl | hx
      · exact h1
      · have := ha.head x hx; omega
    have hi1 : s.2 ≤ r.2 := by
      rcases (show r.2 < s.2 ∨ s.2 ≤ r.2 from by omega) with hlt | hge
      · exfalso
        have h1 : hasL (s :: u) (r.2 + 1) = true := (hasL_iff _ _).2 ⟨s, by simp, by omega, by omega⟩
        rw [← h, hasL_cons, hasL_tail_low ha _ (by omega)] at h1
        simp [inR] at h1
        omega
      · exact hge
    have hi2 : r.2 ≤ s.2 := by
      rcases (show s.2 < r.2 ∨ r.2 ≤ s.2 from by omega) with hlt | hge
      · exfalso
        have h1 : hasL (r :: t) (s.2 + 1) = true := (hasL_iff _ _).2 ⟨r, by simp, by omega, by omega⟩
        rw [h, hasL_cons, hasL_tail_low hb _ (by omega)] at h1
        simp [inR] at h1
        omega
      · exact hge
    have hrs : r = s := by
      obtain ⟨r1, r2⟩ := r
      obtain ⟨s1, s2⟩ := s
      simp only at lo1 lo2 hi1 hi2
      simp only [Prod.mk.injEq]
      omega
    subst hrs
    have ht : t = u := apart_unique t u ha.tail hb.tail (fun p => by
      rcases (show r.2 < p ∨ p ≤ r.2 from by omega) with hp | hp
      · have := h p
        have hn : inR p r = false := by simp [inR]; omega
        rw [hasL_cons, hasL_cons, hn] at this
        simpa using this
      · rw [hasL_tail_low ha p (by omega), hasL_tail_low hb p (by omega)])
    rw [ht]

/-- a set with a stretch more behind -/
def growL (l : List Rg) (lo hi : Int) : List Rg :=
  match l.getLast? with
  | some r => if r.2 + 1 = lo then l.dropLast ++ [(r.1, hi)] else l ++ [(lo, hi)]
  | none => [(lo, hi)]

/-- what holds of the set while all points below 'to' have been gone through -/
structure Upto (l : List Rg) (to : Int) (f : Int → Bool) : Prop where
  apart : Apart l
  low : ∀ r ∈ l, 0 ≤ r.1 ∧ r.2 < to
  has : ∀ p, 0 ≤ p → p < to → f p = hasL l p

theorem Upto.nil (f : Int → Bool) : Upto [] 0 f := ⟨⟨List.Pairwise.nil, by simp⟩, by simp, fun p h0 h1 => by omega⟩

theorem Upto.skip {l : List Rg} {lo hi : Int} {f : Int → Bool} (h : Upto l lo f) (hlh : lo ≤ hi + 1) (hf : ∀ p, lo ≤ p → p ≤ hi → f p = false) : Upto l (hi + 1) f := by
  refine ⟨h.apart, fun r hr => ⟨(h.low r hr).1, by have := (h.low r hr).2; omega⟩, fun p h0 h1 => ?_⟩
  rcases (show p < lo ∨ lo ≤ p from by omega) with hp | hp
  · exact h.has p h0 hp
  · rw [hf p hp (by omega)]
    symm
    rw [← Bool.not_eq_true, hasL_iff]
    rintro ⟨r, hr, _, h2⟩
    have := (h.low r hr).2
    omega

theorem Upto.grow {l : List Rg} {lo hi : Int} {f : Int → Bool} (h : Upto l lo f) (h0 : 0 ≤ lo) (hlh : lo ≤ hi) (hf : ∀ p, lo ≤ p → p ≤ hi → f p = true) : Upto (growL l lo hi) (hi + 1) f := by
  have key : ∀ l' : List Rg, Apart l' → (∀ r ∈ l', 0 ≤ r.1 ∧ r.2 < hi + 1) → (∀ p, hasL l' p = (hasL l p || (decide (lo ≤ p) && decide (p ≤ hi)))) → Upto l' (hi + 1) f := by
    intro l' ha hl hh
    refine ⟨ha, hl, fun p p0 p1 => ?_⟩
    rw [hh]
    rcases (show p < lo ∨ lo ≤ p from by omega) with hp | hp
    · rw [h.has p p0 hp]
      have : decide (lo ≤ p) = false := by simp; omega
      simp [this]
    · rw [hf p hp (by omega)]
      have a1 : decide (lo ≤ p) = true := by simp; omega
      have a2 : decide (p ≤ hi) = true := by simp; omega
      simp [a1, a2]
  unfold growL
  cases hg : l.getLast? with
  | none =>
    have hl : l = [] := List.getLast?_eq_none_iff.1 hg
    subst hl
    refine key _ ⟨List.pairwise_singleton _ _, by simp; omega⟩ (by simp; omega) (fun p => by simp [hasL, inR])
  | some r =>
    have hne : l ≠ [] := by rintro rfl; simp at hg
    obtain ⟨m, hm⟩ : ∃ m, l = m ++ [r] := by
      exact ⟨l.dropLast, (split_last hg)⟩
    subst hm
    have hr := h.low r (by simp)
    have hrr := h.apart.2 r (by simp)
    have hpw := List.pairwise_append.1 h.apart.1
    dsimp only
    split
    · rename_i heq
      rw [List.dropLast_concat]
      refine key _ ⟨List.pairwise_append.2 ⟨hpw.1, List.pairwise_singleton _ _, fun a ha b hb => ?_⟩, fun x hx => ?_⟩ (fun x hx => ?_) (fun p => ?_)
      · simp at hb; subst hb
        exact hpw.2.2 a ha r (by simp)
      · rcases List.mem_append.1 hx with hx | hx
        · exact h.apart.2 x (by simp [hx])
        · simp at hx; subst hx; simp; omega
      · rcases List.mem_append.1 hx with hx | hx
        · have := h.low x (by simp [hx]); omega
        · simp at hx; subst hx; simp; omega
      · rw [hasL_append, hasL_append]
        simp only [hasL, List.any_cons, List.any_nil, Bool.or_false, inR, Bool.or_assoc]
        congr 1
        rw [Bool.eq_iff_iff]
        simp
        omega
    · rename_i hneq
      refine key _ ⟨List.pairwise_append.2 ⟨h.apart.1, List.pairwise_singleton _ _, fun a ha b hb => ?_⟩, fun x hx => ?_⟩ (fun x hx => ?_) (fun p => ?_)
      · simp at hb; subst hb
        simp only
        rcases List.mem_append.1 ha with ha | ha
        · have := hpw.2.2 a ha r (by simp); omega
        · simp at ha; subst ha; omega
      · rcases List.mem_append.1 hx with hx | hx
        · exact h.apart.2 x hx
        · simp at hx; subst hx; simp; omega
      · rcases List.mem_append.1 hx with hx | hx
        · have := h.low x hx; omega
        · simp at hx; subst hx; simp; omega
      · rw [hasL_append]
        simp [hasL, inR]

/-- Two sets gone through to the end, for one question: one list. -/
theorem upto_unique {a b : List Rg} {f g : Int → Bool} (ha : Upto a 1114112 f) (hb : Upto b 1114112 g) (hfg : ∀ p, 0 ≤ p → p ≤ 1114111 → f p = g p) : a = b := by
  refine apart_unique a b ha.apart hb.apart (fun p => ?_)
  by_cases h0 : 0 ≤ p
  · by_cases h1 : p < 1114112
    · rw [← ha.has p h0 h1, ← hb.has p h0 h1, hfg p h0 (by omega)]
    · have e1 : hasL a p = false := by
        rw [← Bool.not_eq_true, hasL_iff]; rintro ⟨r, hr, _, h2⟩; have := (ha.low r hr).2; omega
      have e2 : hasL b p = false := by
        rw [← Bool.not_eq_true, hasL_iff]; rintro ⟨r, hr, _, h2⟩; have := (hb.low r hr).2; omega
      rw [e1, e2]
  · have e1 : hasL a p = false := by
      rw [← Bool.not_eq_true, hasL_iff]; rintro ⟨r, hr, h1, _⟩; have := (ha.low r hr).1; omega
    have e2 : hasL b p = false := by
      rw [← Bool.not_eq_true, hasL_iff]; rintro ⟨r, hr, h1, _⟩; have := (hb.low r hr).1; omega
    rw [e1, e2]

end Go.Proofs.YtbjohedenfindaaGreatDoor

namespace Go.Proofs.YtbjohedenfindaaGreatDoor
set_option linter.unusedVariables false

/-- a pattern; a kid that is nil is none -/
structure Re where
  kind : Int
  set : List Rg
  mn : Int
  mx : Int
  kids : List (Option Re)

/-- the code point at a byte: -1 the end, -2 a byte that belongs to none -/
def cpAt (s : ByteArray) (i : Nat) : Int := if i < s.size then (if (Utf8.decode s i).1 = 65533 ∧ (Utf8.decode s i).2 = 1 then -2 else ((Utf8.decode s i).1 : Int)) else -1
def szAt (s : ByteArray) (i : Nat) : Nat := if i < s.size then (Utf8.decode s i).2 else 0
def isDig (s : ByteArray) (i : Nat) : Bool := decide (i < s.size) && (decide (48 ≤ (s.get! i).toNat) && decide ((s.get! i).toNat ≤ 57))
/-- how many digits stand from a byte on -/
def digRun (s : ByteArray) : Nat → Nat → Nat
  | 0, _ => 0
  | f + 1, i => if isDig s i then digRun s f (i + 1) + 1 else 0
def digVal (s : ByteArray) (i : Nat) : Nat → Int
  | 0 => 0
  | k + 1 => digVal s i k * 10 + (((s.get! (i + k)).toNat : Int) - 48)
def hexOf (b : Nat) : Int := if 48 ≤ b ∧ b ≤ 57 then (b : Int) - 48 else if 97 ≤ b ∧ b ≤ 102 then (b : Int) - 87 else if 65 ≤ b ∧ b ≤ 70 then (b : Int) - 55 else -1
def isHex (s : ByteArray) (i : Nat) : Bool := decide (i < s.size) && decide (0 ≤ hexOf (s.get! i).toNat)
def hexRun (s : ByteArray) : Nat → Nat → Nat
  | 0, _ => 0
  | f + 1, i => if isHex s i then hexRun s f (i + 1) + 1 else 0
def hexVal (s : ByteArray) (i : Nat) : Nat → Int
  | 0 => 0
  | k + 1 => hexVal s i k * 16 + hexOf (s.get! (i + k)).toNat

/-- the signs that have a meaning -/
def outerS (c : Int) : Bool := [124, 38, 42, 43, 63, 123, 125, 126, 40, 41, 91, 93, 46, 92].contains c
def innerS (c : Int) : Bool := [91, 93, 45, 94, 92].contains c
def escSign (c : Int) : Bool := [124, 38, 42, 43, 63, 123, 125, 126, 40, 41, 91, 93, 46, 92, 45, 94, 34, 39, 32].contains c
def escOf (c : Int) : Option Int := if c = 110 then some 10 else if c = 114 then some 13 else if c = 116 then some 9 else if escSign c then some c else none

def hexS (s : ByteArray) (i : Nat) : Option (Int × Nat) :=
  if 1 ≤ hexRun s 7 i ∧ hexRun s 7 i ≤ 6 ∧ cpAt s (i + hexRun s 7 i) = 125 ∧ hexVal s i (hexRun s 7 i) ≤ 1114111 then some (hexVal s i (hexRun s 7 i), i + hexRun s 7 i + 1) else none
/-- behind a stroke -/
def escS (s : ByteArray) (i : Nat) : Option (Int × Nat) :=
  match escOf (cpAt s i) with
  | some p => some (p, i + 1)
  | none => if cpAt s i = 117 ∧ cpAt s (i + 1) = 123 then hexS s (i + 2) else none
def pointS (s : ByteArray) (signs : Int → Bool) (i : Nat) : Option (Int × Nat) :=
  if cpAt s i = 92 then escS s (i + 1) else if cpAt s i < 0 ∨ signs (cpAt s i) = true then none else some (cpAt s i, i + szAt s i)
def countS (s : ByteArray) (i : Nat) : Option (Int × Nat) :=
  if digRun s s.size i = 0 ∨ (1 < digRun s s.size i ∧ (s.get! i).toNat = 48) ∨ 50 < digVal s i (digRun s s.size i) then none else some (digVal s i (digRun s s.size i), i + digRun s s.size i)
/-- behind a brace -/
def timesS (s : ByteArray) (i : Nat) : Option ((Int × Int) × Nat) :=
  match countS s i with
  | none => none
  | some (a, j) =>
    if cpAt s j = 44 then
      if cpAt s (j + 1) = 125 then some ((a, -1), j + 2)
      else match countS s (j + 1) with
        | none => none
        | some (b, k) => if b < a ∨ b < 1 ∨ cpAt s k ≠ 125 then none else some ((a, b), k + 1)
    else if cpAt s j ≠ 125 ∨ a < 1 then none else some ((a, a), j + 1)
def itemS (s : ByteArray) (i : Nat) : Option (Rg × Nat) :=
  match pointS s innerS i with
  | none => none
  | some (lo, j) =>
    if cpAt s j = 45 then
      match pointS s innerS (j + 1) with
      | none => none
      | some (hi, k) => if hi < lo then none else some ((lo, hi), k)
    else some ((lo, lo), j)
def itemsS (s : ByteArray) : Nat → List Rg → Nat → Option (List Rg × Nat)
  | 0, _, _ => none
  | f + 1, acc, i =>
    if cpAt s i = 93 then some (acc, i + 1)
    else match itemS s i with
      | none => none
      | some (r, j) => itemsS s f (acc ++ [r]) j
def setRe (l : List Rg) : Re := ⟨1, l, 0, 0, []⟩
def repRe (a b : Int) (p : Re) : Re := ⟨6, [], a, b, [some p]⟩
def notRe (p : Re) : Re := ⟨5, [], 0, 0, [some p]⟩
def gatherS (kind : Int) (l : List Re) : Re :=
  match l with
  | [p] => p
  | l => ⟨kind, [], 0, 0, l.map some⟩
def brackS (s : ByteArray) (mk : List Rg → Bool → List Rg) (i : Nat) : Option (Re × Nat) :=
  if cpAt s i = 94 then (itemsS s (s.size + 1) [] (i + 1)).map fun x => (setRe (mk x.1 true), x.2)
  else (itemsS s (s.size + 1) [] i).map fun x => (setRe (mk x.1 false), x.2)
def partS (s : ByteArray) : Nat → Re → Nat → Option (Re × Nat)
  | 0, _, _ => none
  | f + 1, p, i =>
    if cpAt s i = 42 then partS s f (repRe 0 (-1) p) (i + 1)
    else if cpAt s i = 43 then partS s f (repRe 1 (-1) p) (i + 1)
    else if cpAt s i = 63 then partS s f (repRe 0 1 p) (i + 1)
    else if cpAt s i = 123 then
      match timesS s (i + 1) with
      | none => none
      | some ((a, b), j) => partS s f (repRe a b p) j
    else some (p, i)
def rowEndS (c : Int) : Bool := [124, 38, 41, -1].contains c
def rowS (s : ByteArray) (u : Nat → Option (Re × Nat)) : Nat → List Re → Nat → Option (List Re × Nat)
  | 0, _, _ => none
  | f + 1, acc, i =>
    if rowEndS (cpAt s i) then some (acc, i)
    else match (u i).bind fun x => partS s (s.size + 1) x.1 x.2 with
      | none => none
      | some (p, j) => rowS s u f (acc ++ [p]) j
def sevS (s : ByteArray) (sign : Int) (r : Nat → Option (Re × Nat)) : Nat → List Re → Nat → Option (List Re × Nat)
  | 0, _, _ => none
  | f + 1, acc, i =>
    if cpAt s i = sign then
      match r (i + 1) with
      | none => none
      | some (p, j) => sevS s sign r f (acc ++ [p]) j
    else some (acc, i)
def severalS (s : ByteArray) (kind sign : Int) (r : Nat → Option (Re × Nat)) (i : Nat) : Option (Re × Nat) :=
  match r i with
  | none => none
  | some (p, j) => (sevS s sign r (s.size + 1) [p] j).map fun x => (gatherS kind x.1, x.2)
def rowReS (s : ByteArray) (u : Nat → Option (Re × Nat)) (i : Nat) : Option (Re × Nat) := (rowS s u (s.size + 1) [] i).map fun x => (gatherS 2 x.1, x.2)
def bothS (s : ByteArray) (u : Nat → Option (Re × Nat)) (i : Nat) : Option (Re × Nat) := severalS s 4 38 (rowReS s u) i
def patS (s : ByteArray) (u : Nat → Option (Re × Nat)) (i : Nat) : Option (Re × Nat) := severalS s 3 124 (bothS s u) i
def leafS (s : ByteArray) (mk : List Rg → Bool → List Rg) (i : Nat) : Option (Re × Nat) :=
  if cpAt s i = 46 then some (setRe (mk [(10, 10)] true), i + 1) else (pointS s outerS i).map fun x => (setRe [(x.1, x.1)], x.2)
def unitS (s : ByteArray) (mk : List Rg → Bool → List Rg) : Nat → Nat → Option (Re × Nat)
  | 0, i => leafS s mk i
  | n + 1, i =>
    if cpAt s i = 126 then (unitS s mk n (i + 1)).map fun x => (notRe x.1, x.2)
    else if cpAt s i = 40 then
      match patS s (fun j => unitS s mk n j) (i + 1) with
      | none => none
      | some (p, j) => if cpAt s j = 41 then some (p, j + 1) else none
    else if cpAt s i = 91 then brackS s mk (i + 1)
    else leafS s mk i
def wholeS (s : ByteArray) (mk : List Rg → Bool → List Rg) : Option Re :=
  match patS s (fun j => unitS s mk 100 j) 0 with
  | none => none
  | some (p, j) => if cpAt s j = -1 then some p else none

end Go.Proofs.YtbjohedenfindaaGreatDoor

namespace Go.Proofs.YtbjohedenfindaaGreatDoor
open Go.Lib

/-- does the place hold a code point? -/
def okAt (s : ByteArray) (pos : Nat) : Bool := !((Utf8.decode s pos).1 == 65533 && (Utf8.decode s pos).2 == 1)

def ptsFrom (s : ByteArray) : Nat → Nat → List Int
  | 0, _ => []
  | f + 1, pos => if pos < s.size then ((Utf8.decode s pos).1 : Int) :: ptsFrom s f (pos + (Utf8.decode s pos).2) else []
def pts (s : ByteArray) : List Int := ptsFrom s s.size 0

def wholeFrom (s : ByteArray) : Nat → Nat → Bool
  | 0, _ => true
  | f + 1, pos => if pos < s.size then okAt s pos && wholeFrom s f (pos + (Utf8.decode s pos).2) else true
def whole (s : ByteArray) : Bool := wholeFrom s s.size 0

def textOf (l : List Int) : List UInt8 := l.flatMap encodeRune

theorem dec_width (s : ByteArray) (pos : Nat) : 1 ≤ (Utf8.decode s pos).2 := by
  rw [← decodeL_drop]; exact decodeL_width _

theorem dec_rune (s : ByteArray) (pos : Nat) : (Utf8.decode s pos).1 ≤ 1114111 := by
  rw [← decodeL_drop]; exact decodeL_rune _

theorem dec_le (s : ByteArray) (pos : Nat) (h : pos < s.size) : pos + (Utf8.decode s pos).2 ≤ s.size := by
  rw [← decodeL_drop]
  have hne : s.data.toList.drop pos ≠ [] := by
    intro e
    have := congrArg List.length e
    simp at this
    have h2 : s.size = s.data.size := rfl
    omega
  have := decodeL_le _ hne
  simp at this
  have h2 : s.size = s.data.size := rfl
  omega

theorem dec_four (s : ByteArray) (pos : Nat) : (Utf8.decode s pos).2 ≤ 4 := by
  rw [← decodeL_drop, decodeL_N]
  rcases decodeN_shape (s.data.toList.drop pos).length ((s.data.toList.drop pos).getD 0 0).toNat ((s.data.toList.drop pos).getD 1 0).toNat ((s.data.toList.drop pos).getD 2 0).toNat ((s.data.toList.drop pos).getD 3 0).toNat with ⟨c, e⟩ | ⟨c1, c2, c3, cv, e⟩ | ⟨c1, c2, c3, c4, cv, cs, e⟩ | ⟨c1, c2, c3, c4, c5, cv, cw, e⟩ | e
  all_goals (rw [e]; dsimp only; omega)

theorem enc_dec (s : ByteArray) (pos : Nat) (h : pos < s.size) (ho : okAt s pos = true) : encodeRune ((Utf8.decode s pos).1 : Int) = (s.data.toList.drop pos).take (Utf8.decode s pos).2 := by
  have hne : s.data.toList.drop pos ≠ [] := by
    intro e
    have := congrArg List.length e
    simp at this
    have h2 : s.size = s.data.size := rfl
    omega
  have hd := decodeL_drop s pos
  have := encode_decode _ hne (by
    rw [hd]
    intro ⟨h1, h2⟩
    simp [okAt, h1, h2] at ho)
  rw [hd] at this
  exact this

theorem ptsFrom_end (s : ByteArray) (f pos : Nat) (h : ¬ pos < s.size) : ptsFrom s f pos = [] := by
  cases f with
  | zero => rfl
  | succ f => simp [ptsFrom, h]
theorem ptsFrom_step (s : ByteArray) (f pos : Nat) (h : pos < s.size) : ptsFrom s (f + 1) pos = ((Utf8.decode s pos).1 : Int) :: ptsFrom s f (pos + (Utf8.decode s pos).2) := by
  simp [ptsFrom, h]
theorem wholeFrom_end (s : ByteArray) (f pos : Nat) (h : ¬ pos < s.size) : wholeFrom s f pos = true := by
  cases f with
  | zero => rfl
  | succ f => simp [wholeFrom, h]
theorem wholeFrom_step (s : ByteArray) (f pos : Nat) (h : pos < s.size) : wholeFrom s (f + 1) pos = (okAt s pos && wholeFrom s f (pos + (Utf8.decode s pos).2)) := by
  simp [wholeFrom, h]

theorem textOf_cons (z : Int) (l : List Int) : textOf (z :: l) = encodeRune z ++ textOf l := by simp [textOf]
theorem textOf_append (a b : List Int) : textOf (a ++ b) = textOf a ++ textOf b := by simp [textOf]

/-- A whole text is the text of its points. -/
theorem text_pts (s : ByteArray) : ∀ (f pos : Nat), s.size ≤ pos + f → wholeFrom s f pos = true → textOf (ptsFrom s f pos) = s.data.toList.drop pos
  | 0, pos, h, _ => by
    have h2 : s.size = s.data.size := rfl
    rw [List.drop_eq_nil_of_le (by simp; omega)]
    rfl
  | f + 1, pos, h, hw => by
    have h2 : s.size = s.data.size := rfl
    by_cases hp : pos < s.size
    · rw [wholeFrom_step s f pos hp, Bool.and_eq_true] at hw
      have hwd := dec_width s pos
      rw [ptsFrom_step s f pos hp, textOf_cons, enc_dec s pos hp hw.1, text_pts s f _ (by omega) hw.2, ← List.drop_drop, List.take_append_drop]
    · rw [ptsFrom_end s _ pos hp, List.drop_eq_nil_of_le (by simp; omega)]
      rfl

theorem pts_len (s : ByteArray) : ∀ (f pos : Nat), s.size ≤ pos + f → pos ≤ s.size → pos + (ptsFrom s f pos).length ≤ s.size ∧ s.size ≤ pos + 4 * (ptsFrom s f pos).length
  | 0, pos, h, hq => by simp [ptsFrom]; omega
  | f + 1, pos, h, hq => by
    by_cases hp : pos < s.size
    · have hwd := dec_width s pos
      have hw4 := dec_four s pos
      have hle := dec_le s pos hp
      have ih := pts_len s f (pos + (Utf8.decode s pos).2) (by omega) hle
      rw [ptsFrom_step s f pos hp, List.length_cons]
      omega
    · rw [ptsFrom_end s _ pos hp]
      simp; omega

theorem text_back (s : ByteArray) (h : whole s = true) : textOf (pts s) = s.data.toList := by
  have := text_pts s s.size 0 (by omega) h
  simpa [pts] using this
theorem len_back (s : ByteArray) : (pts s).length ≤ s.size ∧ s.size ≤ 4 * (pts s).length := by
  have := pts_len s s.size 0 (by omega) (by omega)
  simpa [pts] using this

theorem enc_len (z : Int) : 1 ≤ (encodeRune z).length ∧ (encodeRune z).length ≤ 4 := by
  have := encodeRuneZ_length z
  simpa [encodeRune] using this
theorem textOf_len (l : List Int) : (textOf l).length ≤ 4 * l.length := by
  induction l with
  | nil => simp [textOf]
  | cons z l ih => rw [textOf_cons, List.length_append, List.length_cons]; have := enc_len z; omega

end Go.Proofs.YtbjohedenfindaaGreatDoor

namespace Go.Proofs.YtbjohedenfindaaGreatDoor
set_option linter.unusedVariables false

theorem decN_ascii (n b0 b1 b2 b3 : Nat) (h : (Lib.decodeN n b0 b1 b2 b3).1 < 128) (h0 : b0 < 256) : (Lib.decodeN n b0 b1 b2 b3).2 = 1 ∧ (Lib.decodeN n b0 b1 b2 b3).1 = b0 := by
  unfold Lib.decodeN at *
  by_cases c0 : b0 < 128
  · simp [c0]
  · exfalso
    rw [if_neg c0] at h
    split at h
    · split at h
      · simp at h; omega
      · simp at h
    · split at h
      · split at h
        · simp at h; omega
        · simp at h
      · split at h
        · split at h
          · simp at h; omega
          · simp at h
        · simp at h
theorem cp_in {s : ByteArray} {i : Nat} (h : 0 ≤ cpAt s i) : i < s.size ∧ cpAt s i = ((Utf8.decode s i).1 : Int) ∧ szAt s i = (Utf8.decode s i).2 := by
  unfold cpAt szAt at *
  by_cases h1 : i < s.size
  · rw [if_pos h1] at h ⊢
    rw [if_pos h1]
    refine ⟨h1, ?_, rfl⟩
    split
    · rename_i h2; rw [if_pos h2] at h; omega
    · rfl
  · rw [if_neg h1] at h; omega
theorem cp_ascii {s : ByteArray} {i : Nat} (h : 0 ≤ cpAt s i) (h2 : cpAt s i < 128) : szAt s i = 1 ∧ ((s.get! i).toNat : Int) = cpAt s i := by
  obtain ⟨h1, e1, e2⟩ := cp_in h
  rw [e1] at h2 ⊢
  rw [e2]
  rw [Lib.decode_at] at h2 ⊢
  obtain ⟨a, b⟩ := decN_ascii (s.size - i) (s.get! i).toNat (s.get! (i + 1)).toNat (s.get! (i + 2)).toNat (s.get! (i + 3)).toNat (by omega) (s.get! i).toNat_lt
  exact ⟨a, by omega⟩
theorem ascii_cp {s : ByteArray} {i : Nat} (h : i < s.size) (hb : (s.get! i).toNat < 128) : cpAt s i = ((s.get! i).toNat : Int) ∧ szAt s i = 1 := by
  have hd : Utf8.decode s i = ((s.get! i).toNat, 1) := by rw [Lib.decode_at, Lib.decodeN, if_pos hb]
  unfold cpAt szAt
  rw [if_pos h, if_pos h, hd, if_neg (by simp; omega)]
  exact ⟨rfl, rfl⟩
theorem cp_eq_size {s : ByteArray} {i : Nat} {c : Int} (h : cpAt s i = c) (h0 : 0 ≤ c) (h1 : c < 128) : i + 1 ≤ s.size ∧ szAt s i = 1 := by
  subst h
  exact ⟨(cp_in h0).1, (cp_ascii h0 h1).1⟩
theorem cp_range (s : ByteArray) (i : Nat) : -2 ≤ cpAt s i ∧ cpAt s i ≤ 1114111 := by
  unfold cpAt
  have := dec_rune s i
  split
  · split <;> omega
  · omega
theorem cp_pos {s : ByteArray} {i : Nat} (h : 0 ≤ cpAt s i) : i + 1 ≤ i + szAt s i ∧ i + szAt s i ≤ s.size := by
  obtain ⟨h1, e1, e2⟩ := cp_in h
  rw [e2]
  have := dec_width s i
  have := dec_le s i h1
  omega

theorem digRun_le (s : ByteArray) : ∀ (f i : Nat), i ≤ s.size → i + digRun s f i ≤ s.size
  | 0, i, h => by simp [digRun]; exact h
  | f + 1, i, h => by
    unfold digRun
    split
    · rename_i h1
      have h2 : i < s.size := by simp [isDig] at h1; exact h1.1
      have := digRun_le s f (i + 1) (by omega)
      omega
    · omega
theorem hexRun_le (s : ByteArray) : ∀ (f i : Nat), i ≤ s.size → i + hexRun s f i ≤ s.size
  | 0, i, h => by simp [hexRun]; exact h
  | f + 1, i, h => by
    unfold hexRun
    split
    · rename_i h1
      have h2 : i < s.size := by simp [isHex] at h1; exact h1.1
      have := hexRun_le s f (i + 1) (by omega)
      omega
    · omega
theorem hexVal_pos (s : ByteArray) : ∀ (f i k : Nat), k ≤ hexRun s f i → 0 ≤ hexVal s i k := by
  intro f i k
  have hh : ∀ (f i k : Nat), k < hexRun s f i → isHex s (i + k) = true := by
    intro f
    induction f with
    | zero => intro i k h; simp [hexRun] at h
    | succ f ih =>
      intro i k h
      unfold hexRun at h
      split at h
      · rename_i h1
        cases k with
        | zero => exact h1
        | succ k =>
          have := ih (i + 1) k (by omega)
          rw [show i + (k + 1) = i + 1 + k by omega]; exact this
      · omega
  induction k with
  | zero => intro _; simp [hexVal]
  | succ k ih =>
    intro h
    have h1 := hh f i k (by omega)
    simp [isHex] at h1
    have := ih (by omega)
    simp only [hexVal]
    omega
theorem escOf_rng {c p : Int} (h : escOf c = some p) : 0 ≤ p ∧ p < 128 ∧ 0 ≤ c ∧ c < 128 := by
  unfold escOf at h
  split at h
  · rename_i e; simp at h; omega
  · split at h
    · rename_i e; simp at h; omega
    · split at h
      · rename_i e; simp at h; omega
      · split at h
        · rename_i e
          simp at h
          simp [escSign] at e
          omega
        · simp at h
theorem hexS_some {s : ByteArray} {i j : Nat} {p : Int} (hi : i ≤ s.size) (h : hexS s i = some (p, j)) : i < j ∧ j ≤ s.size ∧ 0 ≤ p ∧ p ≤ 1114111 := by
  unfold hexS at h
  split at h
  · rename_i e
    obtain ⟨e1, e2, e3, e4⟩ := e
    simp at h
    obtain ⟨rfl, rfl⟩ := h
    have := cp_eq_size e3 (by omega) (by omega)
    have := hexVal_pos s 7 i _ (Nat.le_refl _)
    omega
  · simp at h
theorem escS_some {s : ByteArray} {i j : Nat} {p : Int} (hi : i ≤ s.size) (h : escS s i = some (p, j)) : i < j ∧ j ≤ s.size ∧ 0 ≤ p ∧ p ≤ 1114111 := by
  unfold escS at h
  split at h
  · rename_i q hq
    simp at h
    obtain ⟨rfl, rfl⟩ := h
    obtain ⟨h0, h1, h2, h3⟩ := escOf_rng hq
    have := cp_in h2
    omega
  · split at h
    · rename_i e
      have h1 := cp_eq_size e.1 (by omega) (by omega)
      have h2 := cp_eq_size e.2 (by omega) (by omega)
      have := hexS_some (by omega) h
      omega
    · simp at h
theorem pointS_some {s : ByteArray} {sg : Int → Bool} {i j : Nat} {p : Int} (hi : i ≤ s.size) (h : pointS s sg i = some (p, j)) : i < j ∧ j ≤ s.size ∧ 0 ≤ p ∧ p ≤ 1114111 := by
  unfold pointS at h
  split at h
  · rename_i e
    have h1 := cp_eq_size e (by omega) (by omega)
    have := escS_some (by omega) h
    omega
  · split at h
    · simp at h
    · rename_i e
      simp at h
      obtain ⟨rfl, rfl⟩ := h
      have h0 : 0 ≤ cpAt s i := by
        rcases Int.lt_or_le (cpAt s i) 0 with h | h
        · exact absurd (Or.inl h) e
        · exact h
      have := cp_pos h0
      have := cp_range s i
      omega
theorem countS_some {s : ByteArray} {i j : Nat} {p : Int} (hi : i ≤ s.size) (h : countS s i = some (p, j)) : i < j ∧ j ≤ s.size ∧ p ≤ 50 := by
  unfold countS at h
  split at h
  · simp at h
  · rename_i e
    simp at h
    obtain ⟨rfl, rfl⟩ := h
    have := digRun_le s s.size i hi
    refine ⟨?_, by omega, ?_⟩
    · have : digRun s s.size i ≠ 0 := fun h => e (Or.inl h)
      omega
    · rcases Int.lt_or_le 50 (digVal s i (digRun s s.size i)) with h | h
      · exact absurd (Or.inr (Or.inr h)) e
      · exact h
theorem timesS_some {s : ByteArray} {i j : Nat} {p : Int × Int} (hi : i ≤ s.size) (h : timesS s i = some (p, j)) : i < j ∧ j ≤ s.size := by
  unfold timesS at h
  split at h
  · simp at h
  · rename_i a k hk
    obtain ⟨h1, h2, _⟩ := countS_some hi hk
    split at h
    · rename_i e
      have h3 := cp_eq_size e (by omega) (by omega)
      split at h
      · rename_i e2
        have h4 := cp_eq_size e2 (by omega) (by omega)
        simp at h
        omega
      · split at h
        · simp at h
        · rename_i b l hl
          obtain ⟨h5, h6, _⟩ := countS_some (by omega) hl
          split at h
          · simp at h
          · rename_i e3
            simp at h
            have h7 : cpAt s l = 125 := Decidable.byContradiction fun hh => e3 (Or.inr (Or.inr hh))
            have := cp_eq_size h7 (by omega) (by omega)
            omega
    · split at h
      · simp at h
      · rename_i e3
        simp at h
        have h7 : cpAt s k = 125 := Decidable.byContradiction fun hh => e3 (Or.inl hh)
        have := cp_eq_size h7 (by omega) (by omega)
        omega
theorem itemS_some {s : ByteArray} {i j : Nat} {p : Rg} (hi : i ≤ s.size) (h : itemS s i = some (p, j)) : i < j ∧ j ≤ s.size := by
  unfold itemS at h
  split at h
  · simp at h
  · rename_i lo k hk
    have h1 := pointS_some hi hk
    split at h
    · rename_i e
      have h2 := cp_eq_size e (by omega) (by omega)
      split at h
      · simp at h
      · rename_i hi' l hl
        have h3 := pointS_some (by omega) hl
        split at h
        · simp at h
        · simp at h; omega
    · simp at h; omega
theorem itemsS_some {s : ByteArray} : ∀ (f : Nat) {acc out : List Rg} {i j : Nat}, i ≤ s.size → itemsS s f acc i = some (out, j) → i < j ∧ j ≤ s.size
  | 0, _, _, _, _, _, h => by simp [itemsS] at h
  | f + 1, acc, out, i, j, hi, h => by
    unfold itemsS at h
    split at h
    · rename_i e
      have := cp_eq_size e (by omega) (by omega)
      simp at h; omega
    · split at h
      · simp at h
      · rename_i r k hk
        have h1 := itemS_some hi hk
        have := itemsS_some f (by omega) h
        omega
theorem partS_some {s : ByteArray} : ∀ (f : Nat) {p q : Re} {i j : Nat}, i ≤ s.size → partS s f p i = some (q, j) → i ≤ j ∧ j ≤ s.size
  | 0, _, _, _, _, _, h => by simp [partS] at h
  | f + 1, p, q, i, j, hi, h => by
    unfold partS at h
    split at h
    · rename_i e
      have := cp_eq_size e (by omega) (by omega)
      have := partS_some f (by omega) h
      omega
    · split at h
      · rename_i e
        have := cp_eq_size e (by omega) (by omega)
        have := partS_some f (by omega) h
        omega
      · split at h
        · rename_i e
          have := cp_eq_size e (by omega) (by omega)
          have := partS_some f (by omega) h
          omega
        · split at h
          · rename_i e
            have := cp_eq_size e (by omega) (by omega)
            split at h
            · simp at h
            · rename_i a b k hk
              have := timesS_some (by omega) hk
              have := partS_some f (by omega) h
              omega
          · simp at h; omega

/-- a reader of units goes on, and not too far -/
def Goes (s : ByteArray) (u : Nat → Option (Re × Nat)) : Prop := ∀ i t j, i ≤ s.size → u i = some (t, j) → i < j ∧ j ≤ s.size
def Stays (s : ByteArray) (u : Nat → Option (Re × Nat)) : Prop := ∀ i t j, i ≤ s.size → u i = some (t, j) → i ≤ j ∧ j ≤ s.size

theorem rowS_some {s : ByteArray} {u : Nat → Option (Re × Nat)} (hu : Goes s u) : ∀ (f : Nat) {acc out : List Re} {i j : Nat}, i ≤ s.size → rowS s u f acc i = some (out, j) → i ≤ j ∧ j ≤ s.size
  | 0, _, _, _, _, _, h => by simp [rowS] at h
  | f + 1, acc, out, i, j, hi, h => by
    unfold rowS at h
    split at h
    · simp at h; omega
    · split at h
      · simp at h
      · rename_i p k hk
        cases hu1 : u i with
        | none => rw [hu1] at hk; simp at hk
        | some x =>
          obtain ⟨q, m⟩ := x
          rw [hu1] at hk
          simp at hk
          have h1 := hu i q m hi hu1
          have h2 := partS_some _ (by omega) hk
          have := rowS_some hu f (by omega) h
          omega
theorem sevS_some {s : ByteArray} {c : Int} (hc : 0 ≤ c ∧ c < 128) {r : Nat → Option (Re × Nat)} (hr : Stays s r) : ∀ (f : Nat) {acc out : List Re} {i j : Nat}, i ≤ s.size → sevS s c r f acc i = some (out, j) → i ≤ j ∧ j ≤ s.size
  | 0, _, _, _, _, _, h => by simp [sevS] at h
  | f + 1, acc, out, i, j, hi, h => by
    unfold sevS at h
    split at h
    · rename_i e
      have h0 := cp_eq_size e hc.1 hc.2
      split at h
      · simp at h
      · rename_i p k hk
        have h1 := hr _ _ _ (by omega) hk
        have := sevS_some hc hr f (by omega) h
        omega
    · simp at h; omega
theorem severalS_stays {s : ByteArray} {k c : Int} (hc : 0 ≤ c ∧ c < 128) {r : Nat → Option (Re × Nat)} (hr : Stays s r) : Stays s (severalS s k c r) := by
  intro i t j hi h
  unfold severalS at h
  split at h
  · simp at h
  · rename_i p m hm
    have h1 := hr _ _ _ hi hm
    simp at h
    obtain ⟨a, h2, h3⟩ := h
    have := sevS_some hc hr _ (by omega) h2
    omega
theorem rowReS_stays {s : ByteArray} {u : Nat → Option (Re × Nat)} (hu : Goes s u) : Stays s (rowReS s u) := by
  intro i t j hi h
  unfold rowReS at h
  simp at h
  obtain ⟨a, h2, h3⟩ := h
  exact rowS_some hu _ hi h2
theorem bothS_stays {s : ByteArray} {u : Nat → Option (Re × Nat)} (hu : Goes s u) : Stays s (bothS s u) := severalS_stays (by omega) (rowReS_stays hu)
theorem patS_stays {s : ByteArray} {u : Nat → Option (Re × Nat)} (hu : Goes s u) : Stays s (patS s u) := severalS_stays (by omega) (bothS_stays hu)
theorem leafS_goes {s : ByteArray} {mk : List Rg → Bool → List Rg} : Goes s (leafS s mk) := by
  intro i t j hi h
  unfold leafS at h
  split at h
  · rename_i e
    have := cp_eq_size e (by omega) (by omega)
    simp at h; omega
  · cases h2 : pointS s outerS i with
    | none => rw [h2] at h; simp at h
    | some x =>
      obtain ⟨a, b⟩ := x
      rw [h2] at h
      simp at h
      have := pointS_some hi h2
      omega
theorem brackS_goes {s : ByteArray} {mk : List Rg → Bool → List Rg} : Goes s (brackS s mk) := by
  intro i t j hi h
  unfold brackS at h
  split at h
  · rename_i e
    have := cp_eq_size e (by omega) (by omega)
    simp at h
    obtain ⟨a, h2, h3⟩ := h
    have := itemsS_some _ (by omega) h2
    omega
  · simp at h
    obtain ⟨a, h2, h3⟩ := h
    have := itemsS_some _ hi h2
    omega
theorem unitS_goes {s : ByteArray} {mk : List Rg → Bool → List Rg} : ∀ n, Goes s (unitS s mk n)
  | 0 => fun i t j hi h => leafS_goes i t j hi h
  | n + 1 => by
    intro i t j hi h
    unfold unitS at h
    split at h
    · rename_i e
      have := cp_eq_size e (by omega) (by omega)
      simp at h
      obtain ⟨a, h2, h3⟩ := h
      have := unitS_goes n _ _ _ (by omega) h2
      omega
    · split at h
      · rename_i e
        have := cp_eq_size e (by omega) (by omega)
        split at h
        · simp at h
        · rename_i p k hk
          have h1 := patS_stays (unitS_goes n) _ _ _ (by omega) hk
          split at h
          · rename_i e2
            have := cp_eq_size e2 (by omega) (by omega)
            simp at h; omega
          · simp at h
      · split at h
        · rename_i e
          have := cp_eq_size e (by omega) (by omega)
          have := brackS_goes _ _ _ (by omega) h
          omega
        · exact leafS_goes i t j hi h

end Go.Proofs.YtbjohedenfindaaGreatDoor
