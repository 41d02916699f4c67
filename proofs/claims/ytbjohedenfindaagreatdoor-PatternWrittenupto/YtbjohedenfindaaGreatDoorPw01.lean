/- Texts of the proof, put together: SortP, CmpP, Sets, SetsB. -/
import Derived.Shelf.SlGeneric
import Derived.Shelf.SlSortCmp.WholeK
import Derived.Ground.SlsfProg
import Derived.Test.YtbjohedenfindaaGreatDoorProg
import Derived.Lib.Small
import Derived.WalkKit
import Derived.Lib.SpaceU
namespace Go.Proofs
open Go.Shelf
def Tryz.sortEdge_ren : Go.Shelf.Ren := ⟨fun | 6 => 166 | 15 => 178 | 14 => 177 | 28 => 193 | 29 => 162 | 20 => 185 | 21 => 186 | 22 => 187 | 23 => 188 | 24 => 189 | 25 => 190 | 26 => 191 | 27 => 192 | 46 => 201 | 47 => 202 | 48 => 203 | 49 => 204 | 50 => 205 | 57 => 211 | n => n, fun | 22 => 204 | 24 => 207 | 25 => 220 | 3 => 3 | 39 => 197 | 0 => 0 | 53 => 216 | 55 => 119 | 4 => 4 | 46 => 235 | 45 => 234 | 50 => 225 | 5 => 5 | 9 => 9 | 66 => 246 | 70 => 250 | 76 => 257 | 77 => 57 | n => n, fun | n => n⟩
theorem Tryz.sortEdge : Go.Proofs.SlLaysF0.n6 Tryz.prog Tryz.sortEdge_ren := {
  mixed := by kernel_rfl
  f6 := ⟨Tryz.f166.name, by decide, Tryz.func166.trans (congrArg some (by kernel_rfl))⟩
  f14 := ⟨Tryz.f177.name, by decide, Tryz.func177.trans (congrArg some (by kernel_rfl))⟩
  f15 := Tryz.func178.trans (congrArg some (by kernel_rfl))
  f20 := ⟨Tryz.f185.name, by decide, Tryz.func185.trans (congrArg some (by kernel_rfl))⟩
  f21 := ⟨Tryz.f186.name, by decide, Tryz.func186.trans (congrArg some (by kernel_rfl))⟩
  f22 := ⟨Tryz.f187.name, by decide, Tryz.func187.trans (congrArg some (by kernel_rfl))⟩
  f23 := ⟨Tryz.f188.name, by decide, Tryz.func188.trans (congrArg some (by kernel_rfl))⟩
  f24 := ⟨Tryz.f189.name, by decide, Tryz.func189.trans (congrArg some (by kernel_rfl))⟩
  f25 := ⟨Tryz.f190.name, by decide, Tryz.func190.trans (congrArg some (by kernel_rfl))⟩
  f26 := ⟨Tryz.f191.name, by decide, Tryz.func191.trans (congrArg some (by kernel_rfl))⟩
  f27 := ⟨Tryz.f192.name, by decide, Tryz.func192.trans (congrArg some (by kernel_rfl))⟩
  f28 := Tryz.func193.trans (congrArg some (by kernel_rfl))
  f29 := Tryz.func162.trans (congrArg some (by kernel_rfl))
  f46 := ⟨Tryz.f201.name, by decide, Tryz.func201.trans (congrArg some (by kernel_rfl))⟩
  f47 := Tryz.func202.trans (congrArg some (by kernel_rfl))
  f48 := Tryz.func203.trans (congrArg some (by kernel_rfl))
  f49 := ⟨Tryz.f204.name, by decide, Tryz.func204.trans (congrArg some (by kernel_rfl))⟩
  f50 := ⟨Tryz.f205.name, by decide, Tryz.func205.trans (congrArg some (by kernel_rfl))⟩
  f57 := ⟨Tryz.f211.name, by decide, Tryz.func211.trans (congrArg some (by kernel_rfl))⟩
  t0 := Tryz.underlying0
  a0 := Tryz.isAgg0
  z0 := Tryz.sizeOf0
  v0 := Tryz.zeroValue0
  t3 := Tryz.underlying3
  a3 := Tryz.isAgg3
  z3 := Tryz.sizeOf3
  v3 := Tryz.zeroValue3
  t4 := Tryz.underlying4
  a4 := Tryz.isAgg4
  z4 := Tryz.sizeOf4
  v4 := Tryz.zeroValue4
  t5 := Tryz.underlying5
  a5 := Tryz.isAgg5
  z5 := Tryz.sizeOf5
  v5 := Tryz.zeroValue5
  t9 := Tryz.underlying9
  a9 := Tryz.isAgg9
  z9 := Tryz.sizeOf9
  v9 := Tryz.zeroValue9
  t22 := Tryz.underlying204
  a22 := Tryz.isAgg204
  z22 := Tryz.sizeOf204
  v22 := Tryz.zeroValue204
  t25 := Tryz.underlying220
  a25 := Tryz.isAgg220
  z25 := Tryz.sizeOf220
  v25 := Tryz.zeroValue220
  t39 := Tryz.underlying197
  a39 := Tryz.isAgg197
  z39 := Tryz.sizeOf197
  v39 := Tryz.zeroValue197
  t45 := Tryz.underlying234
  a45 := Tryz.isAgg234
  z45 := Tryz.sizeOf234
  v45 := Tryz.zeroValue234
  t46 := Tryz.underlying235
  a46 := Tryz.isAgg235
  z46 := Tryz.sizeOf235
  v46 := Tryz.zeroValue235
  t50 := Tryz.underlying225
  a50 := Tryz.isAgg225
  z50 := Tryz.sizeOf225
  v50 := Tryz.zeroValue225
  t53 := Tryz.underlying216
  a53 := Tryz.isAgg216
  z53 := Tryz.sizeOf216
  v53 := Tryz.zeroValue216
  t55 := Tryz.underlying119
  a55 := Tryz.isAgg119
  z55 := Tryz.sizeOf119
  v55 := Tryz.zeroValue119
  t66 := Tryz.underlying246
  a66 := Tryz.isAgg246
  z66 := Tryz.sizeOf246
  v66 := Tryz.zeroValue246
  t70 := Tryz.underlying250
  a70 := Tryz.isAgg250
  z70 := Tryz.sizeOf250
  v70 := Tryz.zeroValue250
  t76 := Tryz.underlying257
  a76 := Tryz.isAgg257
  z76 := Tryz.sizeOf257
  v76 := Tryz.zeroValue257
  t77 := Tryz.underlying57
  a77 := Tryz.isAgg57
  z77 := Tryz.sizeOf57
  v77 := Tryz.zeroValue57 }
end Go.Proofs

namespace Go.Proofs.YtbjohedenfindaaGreatDoor
open Go.RowKit
set_option linter.unusedVariables false
set_option maxRecDepth 100000
set_option maxHeartbeats 1000000 in
theorem isNaN_any (x : Int) (w : World) : Calls Tryz.prog 179 #[.int .i64 x] w fun e w' => e = .returned (.bool false) ∧ w' = w := by
  go_enter Tryz.func179, Tryz.ntmps179
  go_wp2
  go_ret
  exact ⟨by simp, rfl⟩
set_option maxHeartbeats 1000000 in
theorem compare_any (x y : Int) (w : World) : Calls Tryz.prog 168 #[.int .i64 x, .int .i64 y] w fun e w' => e = .returned (.int .i64 (Lib.compareInt x y)) ∧ w' = w := by
  have h : (x < y ∧ Lib.compareInt x y = -1) ∨ (¬ x < y ∧ y < x ∧ Lib.compareInt x y = 1) ∨ (¬ x < y ∧ ¬ y < x ∧ Lib.compareInt x y = 0) := by
    unfold Lib.compareInt
    by_cases h1 : x < y
    · simp [h1]
    · by_cases h2 : y < x <;> simp [h1, h2]
  generalize Lib.compareInt x y = z at *
  rcases h with ⟨h1, rfl⟩ | ⟨h1, h2, rfl⟩ | ⟨h1, h2, rfl⟩
  all_goals
    go_enter Tryz.func168, Tryz.ntmps168
    go_wp2_with (go_at_call 179; refine (isNaN_any _ _).mono ?_; rintro e w' ⟨rfl, rfl⟩)
    go_ret
    exact ⟨rfl, rfl⟩
end Go.Proofs.YtbjohedenfindaaGreatDoor
namespace Go.Proofs
theorem Tryz.cmp_Compare_int (x y : Int) (w : World) : Calls Tryz.prog 168 #[.int .i64 x, .int .i64 y] w fun e w' => e = .returned (.int .i64 (Lib.compareInt x y)) ∧ w' = w := YtbjohedenfindaaGreatDoor.compare_any x y w
end Go.Proofs

namespace Go.Proofs.YtbjohedenfindaaGreatDoor
set_option linter.unusedVariables false

abbrev Rg := Int × Int
def inR (p : Int) (r : Rg) : Bool := decide (r.1 ≤ p) && decide (p ≤ r.2)
def hasL (l : List Rg) (p : Int) : Bool := l.any (inR p)
def hasB (l : List Rg) (p : Int) : Bool := (decide (0 ≤ p) && decide (p ≤ 1114111)) && hasL l p

theorem inR_iff (p : Int) (r : Rg) : inR p r = true ↔ r.1 ≤ p ∧ p ≤ r.2 := by simp [inR]
theorem hasL_iff (l : List Rg) (p : Int) : hasL l p = true ↔ ∃ r ∈ l, r.1 ≤ p ∧ p ≤ r.2 := by
  simp [hasL, inR_iff]
theorem hasL_cons (r : Rg) (l : List Rg) (p : Int) : hasL (r :: l) p = (inR p r || hasL l p) := by simp [hasL]
theorem hasL_append (a b : List Rg) (p : Int) : hasL (a ++ b) p = (hasL a p || hasL b p) := by simp [hasL]

/-- gaps between neighbours, no empty range -/
def Apart (l : List Rg) : Prop := l.Pairwise (fun a b => a.2 + 1 < b.1) ∧ ∀ r ∈ l, r.1 ≤ r.2

theorem Apart.tail {r : Rg} {t : List Rg} (h : Apart (r :: t)) : Apart t :=
  ⟨(List.pairwise_cons.1 h.1).2, fun x hx => h.2 x (List.mem_cons_of_mem _ hx)⟩
theorem Apart.head {r : Rg} {t : List Rg} (h : Apart (r :: t)) : ∀ x ∈ t, r.2 + 1 < x.1 := (List.pairwise_cons.1 h.1).1

theorem split_last : ∀ {l : List Rg} {r : Rg}, l.getLast? = some r → l = l.dropLast ++ [r]
  | [], r, h => by simp at h
  | [x], r, h => by simp at h; subst h; rfl
  | x :: y :: t, r, h => by
    have h2 : (y :: t).getLast? = some r := by simpa [List.getLast?_cons_cons] using h
    have := split_last (l := y :: t) h2
    rw [List.dropLast_cons_cons, List.cons_append, ← this]

theorem hasL_tail_low {r : Rg} {t : List Rg} (h : Apart (r :: t)) (p : Int) (hp : p ≤ r.2 + 1) : hasL t p = false := by
  rw [← Bool.not_eq_true, hasL_iff]
  rintro ⟨x, hx, h1, h2⟩
  have := h.head x hx
  omega

theorem apart_unique : ∀ (a b : List Rg), Apart a → Apart b → (∀ p, hasL a p = hasL b p) → a = b
  | [], [], _, _, _ => rfl
  | [], r :: t, _, hb, h => by
    have h1 := h r.1
    have : hasL (r :: t) r.1 = true := (hasL_iff _ _).2 ⟨r, by simp, by omega, hb.2 r (by simp)⟩
    rw [this] at h1
    simp [hasL] at h1
  | r :: t, [], ha, _, h => by
    have h1 := h r.1
    have : hasL (r :: t) r.1 = true := (hasL_iff _ _).2 ⟨r, by simp, by omega, ha.2 r (by simp)⟩
    rw [this] at h1
    simp [hasL] at h1
  | r :: t, s :: u, ha, hb, h => by
    have ra := ha.2 r (by simp)
    have sb := hb.2 s (by simp)
    have lo1 : s.1 ≤ r.1 := by
      have : hasL (s :: u) r.1 = true := by rw [← h]; exact (hasL_iff _ _).2 ⟨r, by simp, by omega, ra⟩
      obtain ⟨x, hx, h1, h2⟩ := (hasL_iff _ _).1 this
      rcases List.mem_cons.1 hx with rfl | hx
      · exact h1
      · have := hb.head x hx; omega
    have lo2 : r.1 ≤ s.1 := by
      have : hasL (r :: t) s.1 = true := by rw [h]; exact (hasL_iff _ _).2 ⟨s, by simp, by omega, sb⟩
      obtain ⟨x, hx, h1, h2⟩ := (hasL_iff _ _).1 this
      rcases List.mem_cons.1 hx with rfl | hx
      · exact h1
      · have := ha.head x hx; omega
    have hi1 : s.2 ≤ r.2 := by
      rcases (show r.2 < s.2 ∨ s.2 ≤ r.2 from by omega) with hlt | hge
      · exfalso
        have h1 : hasL (s :: u) (r.2 + 1) = true := (hasL_iff _ _).2 ⟨s, by simp, by omega, by omega⟩
        rw [← h, hasL_cons, hasL_tail_low ha _ (by omega)] at h1
        simp [inR] at h1
        omega
      · exact hge
    have hi2 : r.2 ≤ s.2 := by
      rcases (show s.2 < r.2 ∨ r.2 ≤ s.2 from by omega) with hlt | hge
      · exfalso
        have h1 : hasL (r :: t) (s.2 + 1) = true := (hasL_iff _ _).2 ⟨r, by simp, by omega, by omega⟩
        rw [h, hasL_cons, hasL_tail_low hb _ (by omega)] at h1
        simp [inR] at h1
        omega
      · exact hge
    have hrs : r = s := by
      obtain ⟨r1, r2⟩ := r
      obtain ⟨s1, s2⟩ := s
      simp only at lo1 lo2 hi1 hi2
      simp only [Prod.mk.injEq]
      omega
    subst hrs
    have ht : t = u := apart_unique t u ha.tail hb.tail (fun p => by
      rcases (show r.2 < p ∨ p ≤ r.2 from by omega) with hp | hp
      · have := h p
        have hn : inR p r = false := by simp [inR]; omega
        rw [hasL_cons, hasL_cons, hn] at this
        simpa using this
      · rw [hasL_tail_low ha p (by omega), hasL_tail_low hb p (by omega)])
    rw [ht]

/-- a set with a stretch more behind -/
def growL (l : List Rg) (lo hi : Int) : List Rg :=
  match l.getLast? with
  | some r => if r.2 + 1 = lo then l.dropLast ++ [(r.1, hi)] else l ++ [(lo, hi)]
  | none => [(lo, hi)]

/-- what holds of the set while all points below 'to' have been gone through -/
structure Upto (l : List Rg) (to : Int) (f : Int → Bool) : Prop where
  apart : Apart l
  low : ∀ r ∈ l, 0 ≤ r.1 ∧ r.2 < to
  has : ∀ p, 0 ≤ p → p < to → f p = hasL l p

theorem Upto.nil (f : Int → Bool) : Upto [] 0 f := ⟨⟨List.Pairwise.nil, by simp⟩, by simp, fun p h0 h1 => by omega⟩

theorem Upto.skip {l : List Rg} {lo hi : Int} {f : Int → Bool} (h : Upto l lo f) (hlh : lo ≤ hi + 1) (hf : ∀ p, lo ≤ p → p ≤ hi → f p = false) : Upto l (hi + 1) f := by
  refine ⟨h.apart, fun r hr => ⟨(h.low r hr).1, by have := (h.low r hr).2; omega⟩, fun p h0 h1 => ?_⟩
  rcases (show p < lo ∨ lo ≤ p from by omega) with hp | hp
  · exact h.has p h0 hp
  · rw [hf p hp (by omega)]
    symm
    rw [← Bool.not_eq_true, hasL_iff]
    rintro ⟨r, hr, _, h2⟩
    have := (h.low r hr).2
    omega

theorem Upto.grow {l : List Rg} {lo hi : Int} {f : Int → Bool} (h : Upto l lo f) (h0 : 0 ≤ lo) (hlh : lo ≤ hi) (hf : ∀ p, lo ≤ p → p ≤ hi → f p = true) : Upto (growL l lo hi) (hi + 1) f := by
  have key : ∀ l' : List Rg, Apart l' → (∀ r ∈ l', 0 ≤ r.1 ∧ r.2 < hi + 1) → (∀ p, hasL l' p = (hasL l p || (decide (lo ≤ p) && decide (p ≤ hi)))) → Upto l' (hi + 1) f := by
    intro l' ha hl hh
    refine ⟨ha, hl, fun p p0 p1 => ?_⟩
    rw [hh]
    rcases (show p < lo ∨ lo ≤ p from by omega) with hp | hp
    · rw [h.has p p0 hp]
      have : decide (lo ≤ p) = false := by simp; omega
      simp [this]
    · rw [hf p hp (by omega)]
      have a1 : decide (lo ≤ p) = true := by simp; omega
      have a2 : decide (p ≤ hi) = true := by simp; omega
      simp [a1, a2]
  unfold growL
  cases hg : l.getLast? with
  | none =>
    have hl : l = [] := List.getLast?_eq_none_iff.1 hg
    subst hl
    refine key _ ⟨List.pairwise_singleton _ _, by simp; omega⟩ (by simp; omega) (fun p => by simp [hasL, inR])
  | some r =>
    have hne : l ≠ [] := by rintro rfl; simp at hg
    obtain ⟨m, hm⟩ : ∃ m, l = m ++ [r] := by
      exact ⟨l.dropLast, (split_last hg)⟩
    subst hm
    have hr := h.low r (by simp)
    have hrr := h.apart.2 r (by simp)
    have hpw := List.pairwise_append.1 h.apart.1
    dsimp only
    split
    · rename_i heq
      rw [List.dropLast_concat]
      refine key _ ⟨List.pairwise_append.2 ⟨hpw.1, List.pairwise_singleton _ _, fun a ha b hb => ?_⟩, fun x hx => ?_⟩ (fun x hx => ?_) (fun p => ?_)
      · simp at hb; subst hb
        exact hpw.2.2 a ha r (by simp)
      · rcases List.mem_append.1 hx with hx | hx
        · exact h.apart.2 x (by simp [hx])
        · simp at hx; subst hx; simp; omega
      · rcases List.mem_append.1 hx with hx | hx
        · have := h.low x (by simp [hx]); omega
        · simp at hx; subst hx; simp; omega
      · rw [hasL_append, hasL_append]
        simp only [hasL, List.any_cons, List.any_nil, Bool.or_false, inR, Bool.or_assoc]
        congr 1
        rw [Bool.eq_iff_iff]
        simp
        omega
    · rename_i hneq
      refine key _ ⟨List.pairwise_append.2 ⟨h.apart.1, List.pairwise_singleton _ _, fun a ha b hb => ?_⟩, fun x hx => ?_⟩ (fun x hx => ?_) (fun p => ?_)
      · simp at hb; subst hb
        simp only
        rcases List.mem_append.1 ha with ha | ha
        · have := hpw.2.2 a ha r (by simp); omega
        · simp at ha; subst ha; omega
      · rcases List.mem_append.1 hx with hx | hx
        · exact h.apart.2 x hx
        · simp at hx; subst hx; simp; omega
      · rcases List.mem_append.1 hx with hx | hx
        · have := h.low x hx; omega
        · simp at hx; subst hx; simp; omega
      · rw [hasL_append]
        simp [hasL, inR]

/-- Two sets gone through to the end, for one question: one list. -/
theorem upto_unique {a b : List Rg} {f g : Int → Bool} (ha : Upto a 1114112 f) (hb : Upto b 1114112 g) (hfg : ∀ p, 0 ≤ p → p ≤ 1114111 → f p = g p) : a = b := by
  refine apart_unique a b ha.apart hb.apart (fun p => ?_)
  by_cases h0 : 0 ≤ p
  · by_cases h1 : p < 1114112
    · rw [← ha.has p h0 h1, ← hb.has p h0 h1, hfg p h0 (by omega)]
    · have e1 : hasL a p = false := by
        rw [← Bool.not_eq_true, hasL_iff]; rintro ⟨r, hr, _, h2⟩; have := (ha.low r hr).2; omega
      have e2 : hasL b p = false := by
        rw [← Bool.not_eq_true, hasL_iff]; rintro ⟨r, hr, _, h2⟩; have := (hb.low r hr).2; omega
      rw [e1, e2]
  · have e1 : hasL a p = false := by
      rw [← Bool.not_eq_true, hasL_iff]; rintro ⟨r, hr, h1, _⟩; have := (ha.low r hr).1; omega
    have e2 : hasL b p = false := by
      rw [← Bool.not_eq_true, hasL_iff]; rintro ⟨r, hr, h1, _⟩; have := (hb.low r hr).1; omega
    rw [e1, e2]

end Go.Proofs.YtbjohedenfindaaGreatDoor

namespace Go.Proofs.YtbjohedenfindaaGreatDoor
set_option linter.unusedVariables false

abbrev Eg := Int × Int × Int
def genR (i : Int) (r : Rg) : List Eg := if max r.1 0 ≤ min r.2 1114111 then [(max r.1 0, i, 1), (min r.2 1114111 + 1, i, -1)] else []
def genS (i : Int) (s : List Rg) : List Eg := s.flatMap (genR i)
def gen : Int → List (List Rg) → List Eg
  | _, [] => []
  | i, s :: t => genS i s ++ gen (i + 1) t

def sumBy (f : Eg → Int) : List Eg → Int
  | [] => 0
  | e :: t => f e + sumBy f t
theorem sumBy_append (f : Eg → Int) (a b : List Eg) : sumBy f (a ++ b) = sumBy f a + sumBy f b := by
  induction a with
  | nil => simp [sumBy]
  | cons e t ih => simp only [List.cons_append, sumBy, ih]; omega
theorem sumBy_perm (f : Eg → Int) {a b : List Eg} (h : a.Perm b) : sumBy f a = sumBy f b := by
  induction h with
  | nil => rfl
  | cons x _ ih => simp only [sumBy, ih]
  | swap x y l => simp only [sumBy]; omega
  | trans _ _ h1 h2 => rw [h1, h2]
theorem sumBy_congr (f g : Eg → Int) : ∀ (a : List Eg), (∀ e ∈ a, f e = g e) → sumBy f a = sumBy g a
  | [], _ => rfl
  | e :: t, h => by
    simp only [sumBy, h e (by simp), sumBy_congr f g t (fun x hx => h x (by simp [hx]))]
theorem sumBy_zero (f : Eg → Int) (a : List Eg) (h : ∀ e ∈ a, f e = 0) : sumBy f a = 0 := by
  induction a with
  | nil => rfl
  | cons e t ih => simp only [sumBy, h e (by simp), ih (fun x hx => h x (by simp [hx]))]; omega

def dep (E : List Eg) (p s : Int) : Int := sumBy (fun e => if e.1 ≤ p ∧ e.2.1 = s then e.2.2 else 0) E
def sumS (E : List Eg) (s : Int) : Int := sumBy (fun e => if e.2.1 = s then e.2.2 else 0) E

theorem dep_split (A B : List Eg) (p s : Int) (hA : ∀ e ∈ A, e.1 ≤ p) (hB : ∀ e ∈ B, p < e.1) : dep (A ++ B) p s = sumS A s := by
  unfold dep sumS
  rw [sumBy_append, sumBy_zero _ B, sumBy_congr _ (fun e => if e.2.1 = s then e.2.2 else 0) A]
  · omega
  · intro e he; simp [hA e he]
  · intro e he
    have := hB e he
    rw [if_neg (by omega)]

def cnt (l : List Rg) (p : Int) : Int := (l.countP (inR p) : Nat)

theorem dep_genR (i : Int) (r : Rg) (p s : Int) (h0 : 0 ≤ p) (h1 : p ≤ 1114111) : dep (genR i r) p s = if i = s then (if inR p r then 1 else 0) else 0 := by
  unfold genR
  split
  · rename_i h
    simp only [dep, sumBy]
    by_cases his : i = s
    · subst his
      simp only [and_true, if_true]
      by_cases hin : inR p r = true
      · have := (inR_iff p r).1 hin
        rw [if_pos hin, if_pos (by omega), if_neg (by omega)]
        omega
      · rw [if_neg hin]
        rw [inR_iff] at hin
        by_cases hlo : max r.1 0 ≤ p
        · rw [if_pos hlo, if_pos (by omega)]
          omega
        · rw [if_neg hlo, if_neg (by omega)]
          omega
    · simp [his]
  · rename_i h
    simp only [dep, sumBy]
    split
    · by_cases hin : inR p r = true
      · have := (inR_iff p r).1 hin
        exfalso; omega
      · rw [if_neg hin]
    · rfl

theorem dep_append (a b : List Eg) (p s : Int) : dep (a ++ b) p s = dep a p s + dep b p s := sumBy_append _ _ _

theorem dep_genS (i : Int) (l : List Rg) (p s : Int) (h0 : 0 ≤ p) (h1 : p ≤ 1114111) : dep (genS i l) p s = if i = s then cnt l p else 0 := by
  induction l with
  | nil => simp [genS, dep, sumBy, cnt]
  | cons r t ih =>
    have e : genS i (r :: t) = genR i r ++ genS i t := by simp [genS]
    rw [e, dep_append, ih, dep_genR i r p s h0 h1]
    by_cases his : i = s
    · simp only [his, if_true, cnt, List.countP_cons]
      by_cases hin : inR p r = true <;> simp [hin] <;> omega
    · simp [his]

theorem dep_gen_low : ∀ (sets : List (List Rg)) (i p s : Int), 0 ≤ p → p ≤ 1114111 → s < i → dep (gen i sets) p s = 0
  | [], _, _, _, _, _, _ => rfl
  | l :: t, i, p, s, h0, h1, hs => by
    rw [gen, dep_append, dep_genS i l p s h0 h1, dep_gen_low t (i + 1) p s h0 h1 (by omega), if_neg (by omega)]
    rfl

theorem dep_gen : ∀ (sets : List (List Rg)) (i p : Int) (j : Nat), 0 ≤ p → p ≤ 1114111 → j < sets.length → dep (gen i sets) p (i + j) = cnt (sets.getD j []) p
  | [], _, _, _, _, _, h => by simp at h
  | l :: t, i, p, 0, h0, h1, _ => by
    rw [gen, dep_append, dep_genS i l p _ h0 h1, dep_gen_low t (i + 1) p _ h0 h1 (by omega), if_pos (by omega)]
    simp
  | l :: t, i, p, j + 1, h0, h1, h => by
    have ih := dep_gen t (i + 1) p j h0 h1 (by simpa using h)
    have e : i + ((j + 1 : Nat) : Int) = i + 1 + (j : Int) := by omega
    rw [gen, dep_append, dep_genS i l p _ h0 h1, if_neg (by omega), e, ih]
    simp

theorem cnt_pos (l : List Rg) (p : Int) : decide (0 < cnt l p) = hasL l p := by
  unfold cnt hasL
  rw [Bool.eq_iff_iff]
  simp only [decide_eq_true_eq, List.any_eq_true]
  constructor
  · intro h
    have : 0 < l.countP (inR p) := by omega
    obtain ⟨x, hx, hp⟩ := List.countP_pos_iff.1 this
    exact ⟨x, hx, hp⟩
  · rintro ⟨x, hx, hp⟩
    have := List.countP_pos_iff.2 ⟨x, hx, hp⟩
    omega

theorem gen_bd : ∀ (sets : List (List Rg)) (i : Int), ∀ e ∈ gen i sets, 0 ≤ e.1 ∧ e.1 ≤ 1114112 ∧ i ≤ e.2.1 ∧ e.2.1 < i + sets.length ∧ (e.2.2 = 1 ∨ e.2.2 = -1)
  | [], _, e, h => by simp [gen] at h
  | l :: t, i, e, h => by
    rw [gen, List.mem_append] at h
    rcases h with h | h
    · simp only [genS, List.mem_flatMap] at h
      obtain ⟨r, _, hr⟩ := h
      unfold genR at hr
      split at hr
      · simp at hr
        rcases hr with rfl | rfl <;> simp <;> omega
      · simp at hr
    · have := gen_bd t (i + 1) e h
      simp only [List.length_cons]
      omega

theorem genR_len (i : Int) (r : Rg) : (genR i r).length ≤ 2 := by unfold genR; split <;> simp
theorem genS_len (i : Int) (l : List Rg) : (genS i l).length ≤ 2 * l.length := by
  induction l with
  | nil => simp [genS]
  | cons r t ih =>
    have e : genS i (r :: t) = genR i r ++ genS i t := by simp [genS]
    have := genR_len i r
    rw [e, List.length_append, List.length_cons]; omega

/-- sorted by place -/
def Asc (E : List Eg) : Prop := E.Pairwise fun a b => a.1 ≤ b.1

/-- what holds of the sweep when the edges A are behind it and B ahead -/
structure Swept (A B : List Eg) (fr : Int) (out : List Rg) (f : Int → Bool) : Prop where
  upto : Upto out fr f
  behind : ∀ e ∈ A, e.1 ≤ fr
  ahead : ∀ e ∈ B, fr ≤ e.1
  low : 0 ≤ fr
  high : fr ≤ 1114112

def askD (want : Bool → Bool → Bool) (E : List Eg) (p : Int) : Bool := want (decide (0 < dep E p 0)) (decide (0 < dep E p 1))

theorem swept_ask {A B : List Eg} {want : Bool → Bool → Bool} {p fr hi : Int} (hA : ∀ e ∈ A, e.1 ≤ fr) (hB : ∀ e ∈ B, hi < e.1) (h1 : fr ≤ p) (h2 : p ≤ hi) :
    askD want (A ++ B) p = want (decide (0 < sumS A 0)) (decide (0 < sumS A 1)) := by
  unfold askD
  rw [dep_split A B p 0 (fun e he => by have := hA e he; omega) (fun e he => by have := hB e he; omega), dep_split A B p 1 (fun e he => by have := hA e he; omega) (fun e he => by have := hB e he; omega)]

theorem swept_take {A B : List Eg} {fr : Int} {out : List Rg} {want : Bool → Bool → Bool} {e : Eg} (h : Swept A (e :: B) fr out (askD want (A ++ e :: B))) (hs : Asc (A ++ e :: B)) (hlt : fr < e.1) (hb : e.1 ≤ 1114112) :
    Swept A (e :: B) e.1 (if want (decide (0 < sumS A 0)) (decide (0 < sumS A 1)) then growL out fr (e.1 - 1) else out) (askD want (A ++ e :: B)) := by
  have hpw := (List.pairwise_append.1 hs).2.1
  have hB : ∀ x ∈ e :: B, e.1 - 1 < x.1 := by
    intro x hx
    rcases List.mem_cons.1 hx with rfl | hx
    · omega
    · have := (List.pairwise_cons.1 hpw).1 x hx; omega
  have hask : ∀ p, fr ≤ p → p ≤ e.1 - 1 → askD want (A ++ e :: B) p = want (decide (0 < sumS A 0)) (decide (0 < sumS A 1)) := fun p h1 h2 => swept_ask h.behind hB h1 h2
  have e1 : e.1 - 1 + 1 = e.1 := by omega
  refine ⟨?_, fun x hx => by have := h.behind x hx; omega, fun x hx => by have := hB x hx; omega, by have := h.low; omega, hb⟩
  split
  · rename_i hw
    have := h.upto.grow h.low (hi := e.1 - 1) (by omega) (fun p h1 h2 => by rw [hask p h1 h2, hw])
    rw [e1] at this
    exact this
  · rename_i hw
    have := h.upto.skip (hi := e.1 - 1) (by omega) (fun p h1 h2 => by rw [hask p h1 h2]; simpa using hw)
    rw [e1] at this
    exact this

theorem swept_turn {A B : List Eg} {fr : Int} {out : List Rg} {f : Int → Bool} {e : Eg} (h : Swept A (e :: B) fr out f) (hle : e.1 ≤ fr) : Swept (A ++ [e]) B fr out f := by
  refine ⟨h.upto, fun x hx => ?_, fun x hx => h.ahead x (by simp [hx]), h.low, h.high⟩
  rcases List.mem_append.1 hx with hx | hx
  · exact h.behind x hx
  · simp at hx; subst hx; exact hle

theorem swept_end {A : List Eg} {fr : Int} {out : List Rg} {want : Bool → Bool → Bool} (h : Swept A [] fr out (askD want A)) (hle : fr ≤ 1114111) :
    Upto (if want (decide (0 < sumS A 0)) (decide (0 < sumS A 1)) then growL out fr 1114111 else out) 1114112 (askD want A) := by
  have hask : ∀ p, fr ≤ p → p ≤ 1114111 → askD want A p = want (decide (0 < sumS A 0)) (decide (0 < sumS A 1)) := fun p h1 h2 => by
    have := swept_ask (A := A) (B := []) (want := want) h.behind (hi := 1114111) (by simp) h1 h2
    simpa using this
  split
  · rename_i hw
    exact h.upto.grow h.low (hi := 1114111) hle (fun p h1 h2 => by rw [hask p h1 h2, hw])
  · rename_i hw
    exact h.upto.skip (hi := 1114111) (by omega) (fun p h1 h2 => by rw [hask p h1 h2]; simpa using hw)

theorem swept_done {A : List Eg} {fr : Int} {out : List Rg} {f : Int → Bool} (h : Swept A [] fr out f) (hle : ¬ fr ≤ 1114111) : Upto out 1114112 f := by
  have e : fr = 1114112 := by have := h.high; omega
  rw [← e]; exact h.upto

/-- what the sweep asks is what the sets have -/
theorem ask_sets {E : List Eg} {a b : List Rg} {want : Bool → Bool → Bool} (h : E.Perm (gen 0 [a, b])) (p : Int) (h0 : 0 ≤ p) (h1 : p ≤ 1114111) : askD want E p = want (hasL a p) (hasL b p) := by
  unfold askD
  have d0 : dep E p 0 = cnt a p := by
    unfold dep
    rw [sumBy_perm _ h]
    have := dep_gen [a, b] 0 p 0 h0 h1 (by simp)
    simpa [dep] using this
  have d1 : dep E p 1 = cnt b p := by
    unfold dep
    rw [sumBy_perm _ h]
    have := dep_gen [a, b] 0 p 1 h0 h1 (by simp)
    simpa [dep] using this
  rw [d0, d1, cnt_pos, cnt_pos]

end Go.Proofs.YtbjohedenfindaaGreatDoor
