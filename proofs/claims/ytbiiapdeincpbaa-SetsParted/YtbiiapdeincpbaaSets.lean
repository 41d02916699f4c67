/- Plain facts on sets of points: canonical lists of ranges with the same points are one list; a list that is grown stretch by stretch is canonical. -/
import Derived.Lib.SpaceU
namespace Go.Proofs.Ytbiiapdeincpbaa
set_option linter.unusedVariables false

abbrev Rg := Int × Int
def inR (p : Int) (r : Rg) : Bool := decide (r.1 ≤ p) && decide (p ≤ r.2)
def hasL (l : List Rg) (p : Int) : Bool := l.any (inR p)
def hasB (l : List Rg) (p : Int) : Bool := (decide (0 ≤ p) && decide (p ≤ 1114111)) && hasL l p

theorem inR_iff (p : Int) (r : Rg) : inR p r = true ↔ r.1 ≤ p ∧ p ≤ r.2 := by simp [inR]
theorem hasL_iff (l : List Rg) (p : Int) : hasL l p = true ↔ ∃ r ∈ l, r.1 ≤ p ∧ p ≤ r.2 := by
  simp [hasL, inR_iff]
theorem hasL_cons (r : Rg) (l : List Rg) (p : Int) : hasL (r :: l) p = (inR p r || hasL l p) := by simp [hasL]
theorem hasL_append (a b : List Rg) (p : Int) : hasL (a ++ b) p = (hasL a p || hasL b p) := by simp [hasL]

/-- gaps between neighbours, no empty range -/
def Apart (l : List Rg) : Prop := l.Pairwise (fun a b => a.2 + 1 < b.1) ∧ ∀ r ∈ l, r.1 ≤ r.2

theorem Apart.tail {r : Rg} {t : List Rg} (h : Apart (r :: t)) : Apart t :=
  ⟨(List.pairwise_cons.1 h.1).2, fun x hx => h.2 x (List.mem_cons_of_mem _ hx)⟩
theorem Apart.head {r : Rg} {t : List Rg} (h : Apart (r :: t)) : ∀ x ∈ t, r.2 + 1 < x.1 := (List.pairwise_cons.1 h.1).1

theorem split_last : ∀ {l : List Rg} {r : Rg}, l.getLast? = some r → l = l.dropLast ++ [r]
  | [], r, h => by simp at h
  | [x], r, h => by simp at h; subst h; rfl
  | x :: y :: t, r, h => by
    have h2 : (y :: t).getLast? = some r := by simpa [List.getLast?_cons_cons] using h
    have := split_last (l := y :: t) h2
    rw [List.dropLast_cons_cons, List.cons_append, ← this]

theorem hasL_tail_low {r : Rg} {t : List Rg} (h : Apart (r :: t)) (p : Int) (hp : p ≤ r.2 + 1) : hasL t p = false := by
  rw [← Bool.not_eq_true, hasL_iff]
  rintro ⟨x, hx, h1, h2⟩
  have := h.head x hx
  omega

theorem apart_unique : ∀ (a b : List Rg), Apart a → Apart b → (∀ p, hasL a p = hasL b p) → a = b
  | [], [], _, _, _ => rfl
  | [], r :: t, _, hb, h => by
    have h1 := h r.1
    have : hasL (r :: t) r.1 = true := (hasL_iff _ _).2 ⟨r, by simp, by omega, hb.2 r (by simp)⟩
    rw [this] at h1
    simp [hasL] at h1
  | r :: t, [], ha, _, h => by
    have h1 := h r.1
    have : hasL (r :: t) r.1 = true := (hasL_iff _ _).2 ⟨r, by simp, by omega, ha.2 r (by simp)⟩
    rw [this] at h1
    simp [hasL] at h1
  | r :: t, s :: u, ha, hb, h => by
    have ra := ha.2 r (by simp)
    have sb := hb.2 s (by simp)
    have lo1 : s.1 ≤ r.1 := by
      have : hasL (s :: u) r.1 = true := by rw [← h]; exact (hasL_iff _ _).2 ⟨r, by simp, by omega, ra⟩
      obtain ⟨x, hx, h1, h2⟩ := (hasL_iff _ _).1 this
      rcases List.mem_cons.1 hx with rfl | hx
      · exact h1
      · have := hb.head x hx; omega
    have lo2 : r.1 ≤ s.1 := by
      have : hasL (r :: t) s.1 = true := by rw [h]; exact (hasL_iff _ _).2 ⟨s, by simp, by omega, sb⟩
      obtain ⟨x, hx, h1, h2⟩ := (hasL_iff _ _).1 this
      rcases List.mem_cons.1 hx with rfl | hx
      · exact h1
      · have := ha.head x hx; omega
    have hi1 : s.2 ≤ r.2 := by
      rcases (show r.2 < s.2 ∨ s.2 ≤ r.2 from by omega) with hlt | hge
      · exfalso
        have h1 : hasL (s :: u) (r.2 + 1) = true := (hasL_iff _ _).2 ⟨s, by simp, by omega, by omega⟩
        rw [← h, hasL_cons, hasL_tail_low ha _ (by omega)] at h1
        simp [inR] at h1
        omega
      · exact hge
    have hi2 : r.2 ≤ s.2 := by
      rcases (show s.2 < r.2 ∨ r.2 ≤ s.2 from by omega) with hlt | hge
      · exfalso
        have h1 : hasL (r :: t) (s.2 + 1) = true := (hasL_iff _ _).2 ⟨r, by simp, by omega, by omega⟩
        rw [h, hasL_cons, hasL_tail_low hb _ (by omega)] at h1
        simp [inR] at h1
        omega
      · exact hge
    have hrs : r = s := by
      obtain ⟨r1, r2⟩ := r
      obtain ⟨s1, s2⟩ := s
      simp only at lo1 lo2 hi1 hi2
      simp only [Prod.mk.injEq]
      omega
    subst hrs
    have ht : t = u := apart_unique t u ha.tail hb.tail (fun p => by
      rcases (show r.2 < p ∨ p ≤ r.2 from by omega) with hp | hp
      · have := h p
        have hn : inR p r = false := by simp [inR]; omega
        rw [hasL_cons, hasL_cons, hn] at this
        simpa using this
      · rw [hasL_tail_low ha p (by omega), hasL_tail_low hb p (by omega)])
    rw [ht]

/-- a set with a stretch more behind -/
def growL (l : List Rg) (lo hi : Int) : List Rg :=
  match l.getLast? with
  | some r => if r.2 + 1 = lo then l.dropLast ++ [(r.1, hi)] else l ++ [(lo, hi)]
  | none => [(lo, hi)]

/-- what holds of the set while all points below 'to' have been gone through -/
structure Upto (l : List Rg) (to : Int) (f : Int → Bool) : Prop where
  apart : Apart l
  low : ∀ r ∈ l, 0 ≤ r.1 ∧ r.2 < to
  has : ∀ p, 0 ≤ p → p < to → f p = hasL l p

theorem Upto.nil (f : Int → Bool) : Upto [] 0 f := ⟨⟨List.Pairwise.nil, by simp⟩, by simp, fun p h0 h1 => by omega⟩

theorem Upto.skip {l : List Rg} {lo hi : Int} {f : Int → Bool} (h : Upto l lo f) (hlh : lo ≤ hi + 1) (hf : ∀ p, lo ≤ p → p ≤ hi → f p = false) : Upto l (hi + 1) f := by
  refine ⟨h.apart, fun r hr => ⟨(h.low r hr).1, by have := (h.low r hr).2; omega⟩, fun p h0 h1 => ?_⟩
  rcases (show p < lo ∨ lo ≤ p from by omega) with hp | hp
  · exact h.has p h0 hp
  · rw [hf p hp (by omega)]
    symm
    rw [← Bool.not_eq_true, hasL_iff]
    rintro ⟨r, hr, _, h2⟩
    have := (h.low r hr).2
    omega

theorem Upto.grow {l : List Rg} {lo hi : Int} {f : Int → Bool} (h : Upto l lo f) (h0 : 0 ≤ lo) (hlh : lo ≤ hi) (hf : ∀ p, lo ≤ p → p ≤ hi → f p = true) : Upto (growL l lo hi) (hi + 1) f := by
  have key : ∀ l' : List Rg, Apart l' → (∀ r ∈ l', 0 ≤ r.1 ∧ r.2 < hi + 1) → (∀ p, hasL l' p = (hasL l p || (decide (lo ≤ p) && decide (p ≤ hi)))) → Upto l' (hi + 1) f := by
    intro l' ha hl hh
    refine ⟨ha, hl, fun p p0 p1 => ?_⟩
    rw [hh]
    rcases (show p < lo ∨ lo ≤ p from by omega) with hp | hp
    · rw [h.has p p0 hp]
      have : decide (lo ≤ p) = false := by simp; omega
      simp [this]
    · rw [hf p hp (by omega)]
      have a1 : decide (lo ≤ p) = true := by simp; omega
      have a2 : decide (p ≤ hi) = true := by simp; omega
      simp [a1, a2]
  unfold growL
  cases hg : l.getLast? with
  | none =>
    have hl : l = [] := List.getLast?_eq_none_iff.1 hg
    subst hl
    refine key _ ⟨List.pairwise_singleton _ _, by simp; omega⟩ (by simp; omega) (fun p => by simp [hasL, inR])
  | some r =>
    have hne : l ≠ [] := by rintro rfl; simp at hg
    obtain ⟨m, hm⟩ : ∃ m, l = m ++ [r] := by
      exact ⟨l.dropLast, (split_last hg)⟩
    subst hm
    have hr := h.low r (by simp)
    have hrr := h.apart.2 r (by simp)
    have hpw := List.pairwise_append.1 h.apart.1
    dsimp only
    split
    · rename_i heq
      rw [List.dropLast_concat]
      refine key _ ⟨List.pairwise_append.2 ⟨hpw.1, List.pairwise_singleton _ _, fun a ha b hb => ?_⟩, fun x hx => ?_⟩ (fun x hx => ?_) (fun p => ?_)
      · simp at hb; subst hb
        exact hpw.2.2 a ha r (by simp)
      · rcases List.mem_append.1 hx with hx | hx
        · exact h.apart.2 x (by simp [hx])
        · simp at hx; subst hx; simp; omega
      · rcases List.mem_append.1 hx with hx | hx
        · have := h.low x (by simp [hx]); omega
        · simp at hx; subst hx; simp; omega
      · rw [hasL_append, hasL_append]
        simp only [hasL, List.any_cons, List.any_nil, Bool.or_false, inR, Bool.or_assoc]
        congr 1
        rw [Bool.eq_iff_iff]
        simp
        omega
    · rename_i hneq
      refine key _ ⟨List.pairwise_append.2 ⟨h.apart.1, List.pairwise_singleton _ _, fun a ha b hb => ?_⟩, fun x hx => ?_⟩ (fun x hx => ?_) (fun p => ?_)
      · simp at hb; subst hb
        simp only
        rcases List.mem_append.1 ha with ha | ha
        · have := hpw.2.2 a ha r (by simp); omega
        · simp at ha; subst ha; omega
      · rcases List.mem_append.1 hx with hx | hx
        · exact h.apart.2 x hx
        · simp at hx; subst hx; simp; omega
      · rcases List.mem_append.1 hx with hx | hx
        · have := h.low x hx; omega
        · simp at hx; subst hx; simp; omega
      · rw [hasL_append]
        simp [hasL, inR]

/-- Two sets gone through to the end, for one question: one list. -/
theorem upto_unique {a b : List Rg} {f g : Int → Bool} (ha : Upto a 1114112 f) (hb : Upto b 1114112 g) (hfg : ∀ p, 0 ≤ p → p ≤ 1114111 → f p = g p) : a = b := by
  refine apart_unique a b ha.apart hb.apart (fun p => ?_)
  by_cases h0 : 0 ≤ p
  · by_cases h1 : p < 1114112
    · rw [← ha.has p h0 h1, ← hb.has p h0 h1, hfg p h0 (by omega)]
    · have e1 : hasL a p = false := by
        rw [← Bool.not_eq_true, hasL_iff]; rintro ⟨r, hr, _, h2⟩; have := (ha.low r hr).2; omega
      have e2 : hasL b p = false := by
        rw [← Bool.not_eq_true, hasL_iff]; rintro ⟨r, hr, _, h2⟩; have := (hb.low r hr).2; omega
      rw [e1, e2]
  · have e1 : hasL a p = false := by
      rw [← Bool.not_eq_true, hasL_iff]; rintro ⟨r, hr, h1, _⟩; have := (ha.low r hr).1; omega
    have e2 : hasL b p = false := by
      rw [← Bool.not_eq_true, hasL_iff]; rintro ⟨r, hr, h1, _⟩; have := (hb.low r hr).1; omega
    rw [e1, e2]

end Go.Proofs.Ytbiiapdeincpbaa
