/- Plain facts on the edges of sets: how many ranges hold a point is told by the edges up to it, in whatever order edges of one place stand. -/
import Derived.Test.YtbiiapdeincpbaaSets
namespace Go.Proofs.Ytbiiapdeincpbaa
set_option linter.unusedVariables false

abbrev Eg := Int × Int × Int
def genR (i : Int) (r : Rg) : List Eg := if max r.1 0 ≤ min r.2 1114111 then [(max r.1 0, i, 1), (min r.2 1114111 + 1, i, -1)] else []
def genS (i : Int) (s : List Rg) : List Eg := s.flatMap (genR i)
def gen : Int → List (List Rg) → List Eg
  | _, [] => []
  | i, s :: t => genS i s ++ gen (i + 1) t

def sumBy (f : Eg → Int) : List Eg → Int
  | [] => 0
  | e :: t => f e + sumBy f t
theorem sumBy_append (f : Eg → Int) (a b : List Eg) : sumBy f (a ++ b) = sumBy f a + sumBy f b := by
  induction a with
  | nil => simp [sumBy]
  | cons e t ih => simp only [List.cons_append, sumBy, ih]; omega
theorem sumBy_perm (f : Eg → Int) {a b : List Eg} (h : a.Perm b) : sumBy f a = sumBy f b := by
  induction h with
  | nil => rfl
  | cons x _ ih => simp only [sumBy, ih]
  | swap x y l => simp only [sumBy]; omega
  | trans _ _ h1 h2 => rw [h1, h2]
theorem sumBy_congr (f g : Eg → Int) : ∀ (a : List Eg), (∀ e ∈ a, f e = g e) → sumBy f a = sumBy g a
  | [], _ => rfl
  | e :: t, h => by
    simp only [sumBy, h e (by simp), sumBy_congr f g t (fun x hx => h x (by simp [hx]))]
theorem sumBy_zero (f : Eg → Int) (a : List Eg) (h : ∀ e ∈ a, f e = 0) : sumBy f a = 0 := by
  induction a with
  | nil => rfl
  | cons e t ih => simp only [sumBy, h e (by simp), ih (fun x hx => h x (by simp [hx]))]; omega

def dep (E : List Eg) (p s : Int) : Int := sumBy (fun e => if e.1 ≤ p ∧ e.2.1 = s then e.2.2 else 0) E
def sumS (E : List Eg) (s : Int) : Int := sumBy (fun e => if e.2.1 = s then e.2.2 else 0) E

theorem dep_split (A B : List Eg) (p s : Int) (hA : ∀ e ∈ A, e.1 ≤ p) (hB : ∀ e ∈ B, p < e.1) : dep (A ++ B) p s = sumS A s := by
  unfold dep sumS
  rw [sumBy_append, sumBy_zero _ B, sumBy_congr _ (fun e => if e.2.1 = s then e.2.2 else 0) A]
  · omega
  · intro e he; simp [hA e he]
  · intro e he
    have := hB e he
    rw [if_neg (by omega)]

def cnt (l : List Rg) (p : Int) : Int := (l.countP (inR p) : Nat)

theorem dep_genR (i : Int) (r : Rg) (p s : Int) (h0 : 0 ≤ p) (h1 : p ≤ 1114111) : dep (genR i r) p s = if i = s then (if inR p r then 1 else 0) else 0 := by
  unfold genR
  split
  · rename_i h
    simp only [dep, sumBy]
    by_cases his : i = s
    · subst his
      simp only [and_true, if_true]
      by_cases hin : inR p r = true
      · have := (inR_iff p r).1 hin
        rw [if_pos hin, if_pos (by omega), if_neg (by omega)]
        omega
      · rw [if_neg hin]
        rw [inR_iff] at hin
        by_cases hlo : max r.1 0 ≤ p
        · rw [if_pos hlo, if_pos (by omega)]
          omega
        · rw [if_neg hlo, if_neg (by omega)]
          omega
    · simp [his]
  · rename_i h
    simp only [dep, sumBy]
    split
    · by_cases hin : inR p r = true
      · have := (inR_iff p r).1 hin
        exfalso; omega
      · rw [if_neg hin]
    · rfl

theorem dep_append (a b : List Eg) (p s : Int) : dep (a ++ b) p s = dep a p s + dep b p s := sumBy_append _ _ _

theorem dep_genS (i : Int) (l : List Rg) (p s : Int) (h0 : 0 ≤ p) (h1 : p ≤ 1114111) : dep (genS i l) p s = if i = s then cnt l p else 0 := by
  induction l with
  | nil => simp [genS, dep, sumBy, cnt]
  | cons r t ih =>
    have e : genS i (r :: t) = genR i r ++ genS i t := by simp [genS]
    rw [e, dep_append, ih, dep_genR i r p s h0 h1]
    by_cases his : i = s
    · simp only [his, if_true, cnt, List.countP_cons]
      by_cases hin : inR p r = true <;> simp [hin] <;> omega
    · simp [his]

theorem dep_gen_low : ∀ (sets : List (List Rg)) (i p s : Int), 0 ≤ p → p ≤ 1114111 → s < i → dep (gen i sets) p s = 0
  | [], _, _, _, _, _, _ => rfl
  | l :: t, i, p, s, h0, h1, hs => by
    rw [gen, dep_append, dep_genS i l p s h0 h1, dep_gen_low t (i + 1) p s h0 h1 (by omega), if_neg (by omega)]
    rfl

theorem dep_gen : ∀ (sets : List (List Rg)) (i p : Int) (j : Nat), 0 ≤ p → p ≤ 1114111 → j < sets.length → dep (gen i sets) p (i + j) = cnt (sets.getD j []) p
  | [], _, _, _, _, _, h => by simp at h
  | l :: t, i, p, 0, h0, h1, _ => by
    rw [gen, dep_append, dep_genS i l p _ h0 h1, dep_gen_low t (i + 1) p _ h0 h1 (by omega), if_pos (by omega)]
    simp
  | l :: t, i, p, j + 1, h0, h1, h => by
    have ih := dep_gen t (i + 1) p j h0 h1 (by simpa using h)
    have e : i + ((j + 1 : Nat) : Int) = i + 1 + (j : Int) := by omega
    rw [gen, dep_append, dep_genS i l p _ h0 h1, if_neg (by omega), e, ih]
    simp

theorem cnt_pos (l : List Rg) (p : Int) : decide (0 < cnt l p) = hasL l p := by
  unfold cnt hasL
  rw [Bool.eq_iff_iff]
  simp only [decide_eq_true_eq, List.any_eq_true]
  constructor
  · intro h
    have : 0 < l.countP (inR p) := by omega
    obtain ⟨x, hx, hp⟩ := List.countP_pos_iff.1 this
    exact ⟨x, hx, hp⟩
  · rintro ⟨x, hx, hp⟩
    have := List.countP_pos_iff.2 ⟨x, hx, hp⟩
    omega

theorem gen_bd : ∀ (sets : List (List Rg)) (i : Int), ∀ e ∈ gen i sets, 0 ≤ e.1 ∧ e.1 ≤ 1114112 ∧ i ≤ e.2.1 ∧ e.2.1 < i + sets.length ∧ (e.2.2 = 1 ∨ e.2.2 = -1)
  | [], _, e, h => by simp [gen] at h
  | l :: t, i, e, h => by
    rw [gen, List.mem_append] at h
    rcases h with h | h
    · simp only [genS, List.mem_flatMap] at h
      obtain ⟨r, _, hr⟩ := h
      unfold genR at hr
      split at hr
      · simp at hr
        rcases hr with rfl | rfl <;> simp <;> omega
      · simp at hr
    · have := gen_bd t (i + 1) e h
      simp only [List.length_cons]
      omega

theorem genR_len (i : Int) (r : Rg) : (genR i r).length ≤ 2 := by unfold genR; split <;> simp
theorem genS_len (i : Int) (l : List Rg) : (genS i l).length ≤ 2 * l.length := by
  induction l with
  | nil => simp [genS]
  | cons r t ih =>
    have e : genS i (r :: t) = genR i r ++ genS i t := by simp [genS]
    have := genR_len i r
    rw [e, List.length_append, List.length_cons]; omega

/-- sorted by place -/
def Asc (E : List Eg) : Prop := E.Pairwise fun a b => a.1 ≤ b.1

/-- what holds of the sweep when the edges A are behind it and B ahead -/
structure Swept (A B : List Eg) (fr : Int) (out : List Rg) (f : Int → Bool) : Prop where
  upto : Upto out fr f
  behind : ∀ e ∈ A, e.1 ≤ fr
  ahead : ∀ e ∈ B, fr ≤ e.1
  low : 0 ≤ fr
  high : fr ≤ 1114112

def askD (want : Bool → Bool → Bool) (E : List Eg) (p : Int) : Bool := want (decide (0 < dep E p 0)) (decide (0 < dep E p 1))

theorem swept_ask {A B : List Eg} {want : Bool → Bool → Bool} {p fr hi : Int} (hA : ∀ e ∈ A, e.1 ≤ fr) (hB : ∀ e ∈ B, hi < e.1) (h1 : fr ≤ p) (h2 : p ≤ hi) :
    askD want (A ++ B) p = want (decide (0 < sumS A 0)) (decide (0 < sumS A 1)) := by
  unfold askD
  rw [dep_split A B p 0 (fun e he => by have := hA e he; omega) (fun e he => by have := hB e he; omega), dep_split A B p 1 (fun e he => by have := hA e he; omega) (fun e he => by have := hB e he; omega)]

theorem swept_take {A B : List Eg} {fr : Int} {out : List Rg} {want : Bool → Bool → Bool} {e : Eg} (h : Swept A (e :: B) fr out (askD want (A ++ e :: B))) (hs : Asc (A ++ e :: B)) (hlt : fr < e.1) (hb : e.1 ≤ 1114112) :
    Swept A (e :: B) e.1 (if want (decide (0 < sumS A 0)) (decide (0 < sumS A 1)) then growL out fr (e.1 - 1) else out) (askD want (A ++ e :: B)) := by
  have hpw := (List.pairwise_append.1 hs).2.1
  have hB : ∀ x ∈ e :: B, e.1 - 1 < x.1 := by
    intro x hx
    rcases List.mem_cons.1 hx with rfl | hx
    · omega
    · have := (List.pairwise_cons.1 hpw).1 x hx; omega
  have hask : ∀ p, fr ≤ p → p ≤ e.1 - 1 → askD want (A ++ e :: B) p = want (decide (0 < sumS A 0)) (decide (0 < sumS A 1)) := fun p h1 h2 => swept_ask h.behind hB h1 h2
  have e1 : e.1 - 1 + 1 = e.1 := by omega
  refine ⟨?_, fun x hx => by have := h.behind x hx; omega, fun x hx => by have := hB x hx; omega, by have := h.low; omega, hb⟩
  split
  · rename_i hw
    have := h.upto.grow h.low (hi := e.1 - 1) (by omega) (fun p h1 h2 => by rw [hask p h1 h2, hw])
    rw [e1] at this
    exact this
  · rename_i hw
    have := h.upto.skip (hi := e.1 - 1) (by omega) (fun p h1 h2 => by rw [hask p h1 h2]; simpa using hw)
    rw [e1] at this
    exact this

theorem swept_turn {A B : List Eg} {fr : Int} {out : List Rg} {f : Int → Bool} {e : Eg} (h : Swept A (e :: B) fr out f) (hle : e.1 ≤ fr) : Swept (A ++ [e]) B fr out f := by
  refine ⟨h.upto, fun x hx => ?_, fun x hx => h.ahead x (by simp [hx]), h.low, h.high⟩
  rcases List.mem_append.1 hx with hx | hx
  · exact h.behind x hx
  · simp at hx; subst hx; exact hle

theorem swept_end {A : List Eg} {fr : Int} {out : List Rg} {want : Bool → Bool → Bool} (h : Swept A [] fr out (askD want A)) (hle : fr ≤ 1114111) :
    Upto (if want (decide (0 < sumS A 0)) (decide (0 < sumS A 1)) then growL out fr 1114111 else out) 1114112 (askD want A) := by
  have hask : ∀ p, fr ≤ p → p ≤ 1114111 → askD want A p = want (decide (0 < sumS A 0)) (decide (0 < sumS A 1)) := fun p h1 h2 => by
    have := swept_ask (A := A) (B := []) (want := want) h.behind (hi := 1114111) (by simp) h1 h2
    simpa using this
  split
  · rename_i hw
    exact h.upto.grow h.low (hi := 1114111) hle (fun p h1 h2 => by rw [hask p h1 h2, hw])
  · rename_i hw
    exact h.upto.skip (hi := 1114111) (by omega) (fun p h1 h2 => by rw [hask p h1 h2]; simpa using hw)

theorem swept_done {A : List Eg} {fr : Int} {out : List Rg} {f : Int → Bool} (h : Swept A [] fr out f) (hle : ¬ fr ≤ 1114111) : Upto out 1114112 f := by
  have e : fr = 1114112 := by have := h.high; omega
  rw [← e]; exact h.upto

/-- what the sweep asks is what the sets have -/
theorem ask_sets {E : List Eg} {a b : List Rg} {want : Bool → Bool → Bool} (h : E.Perm (gen 0 [a, b])) (p : Int) (h0 : 0 ≤ p) (h1 : p ≤ 1114111) : askD want E p = want (hasL a p) (hasL b p) := by
  unfold askD
  have d0 : dep E p 0 = cnt a p := by
    unfold dep
    rw [sumBy_perm _ h]
    have := dep_gen [a, b] 0 p 0 h0 h1 (by simp)
    simpa [dep] using this
  have d1 : dep E p 1 = cnt b p := by
    unfold dep
    rw [sumBy_perm _ h]
    have := dep_gen [a, b] 0 p 1 h0 h1 (by simp)
    simpa [dep] using this
  rw [d0, d1, cnt_pos, cnt_pos]

end Go.Proofs.Ytbiiapdeincpbaa
