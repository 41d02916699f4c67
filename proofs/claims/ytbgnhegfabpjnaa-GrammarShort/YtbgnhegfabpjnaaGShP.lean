/- Lengths as rows of numbers, as the document's Short keeps them. No program. -/
import Derived.Test.YtbgnhegfabpjnaaGStab
import Derived.Test.YtbgnhegfabpjnaaGMem
namespace Go.Proofs.Ytbgnhegfabpjnaa
set_option linter.unusedVariables false

def optI (z : Int) : Option Nat := if z < 0 then none else some z.toNat
def codeO : Option Nat → Int
  | none => -1
  | some x => x
def factO (L : List Int) (n : Nat) : Option Nat := optI (L.getD n (-1))
def prS (p : PdR) : PrS := ⟨p.left.toNat, p.right⟩
def prsS (ps : List PdR) : List PrS := ps.map prS
theorem rowL_snoc (f : Nat → Option Nat) (s : Int) : ∀ r, rowL f (r ++ [s]) = match rowL f r, (if s < 0 then f (-1 - s).toNat else some 1) with
    | some a, some b => some (a + b)
    | _, _ => none
  | [] => by
    simp only [List.nil_append, rowL]
    generalize (if s < 0 then f (-1 - s).toNat else some 1) = a
    cases a <;> simp
  | q :: r => by
    have ih := rowL_snoc f s r
    simp only [List.cons_append, rowL, ih]
    generalize (if s < 0 then f (-1 - s).toNat else some 1) = a
    generalize (if q < 0 then f (-1 - q).toNat else some 1) = b
    generalize rowL f r = c
    cases a <;> cases b <;> cases c <;> simp <;> omega
theorem rowL_none (f : Nat → Option Nat) (r' : List Int) : ∀ r, rowL f r = none → rowL f (r ++ r') = none
  | [], h => by simp [rowL] at h
  | s :: r, h => by
    simp only [List.cons_append, rowL] at *
    generalize (if s < 0 then f (-1 - s).toNat else some 1) = a at *
    cases hr : rowL f r with
    | none => rw [rowL_none f r' r hr]; cases a <;> rfl
    | some c => rw [hr] at h; cases a <;> simp at h ⊢
/-- so far along a row -/
def rowZ (L : List Int) (r : List Int) (k : Nat) : Int := codeO (capO (rowL (factO L) (r.take k)))
theorem rowZ_zero (L r : List Int) : rowZ L r 0 = 0 := by simp [rowZ, rowL, capO, codeO]
theorem rowZ_range (L r : List Int) (k : Nat) : -1 ≤ rowZ L r k ∧ rowZ L r k ≤ 1000000 := by
  unfold rowZ capO codeO
  cases rowL (factO L) (r.take k) <;> simp <;> omega
theorem rowZ_end (L r : List Int) (k : Nat) (h : rowZ L r k < 0) : rowZ L r r.length = -1 := by
  have h0 : rowL (factO L) (r.take k) = none := by
    unfold rowZ capO codeO at h
    cases e : rowL (factO L) (r.take k) with
    | none => rfl
    | some x => rw [e] at h; simp at h; omega
  have := rowL_none (factO L) (r.drop k) _ h0
  rw [List.take_append_drop] at this
  unfold rowZ
  rw [List.take_length, this]; rfl
theorem rowZ_step (L r : List Int) (k : Nat) (hk : k < r.length) (h : 0 ≤ rowZ L r k) : rowZ L r (k + 1) = (let m := if r.getD k 0 < 0 then (L.getD (-1 - r.getD k 0).toNat (-1)) else 1; if m < 0 then -1 else min (rowZ L r k + m) 1000000) := by
  unfold rowZ at *
  rw [List.take_succ_eq_append_getElem hk, rowL_snoc]
  have e : r.getD k 0 = r[k] := by simp [List.getD, hk]
  rw [e]
  cases hx : rowL (factO L) (r.take k) with
  | none => rw [hx] at h; simp [capO, codeO] at h
  | some x =>
    by_cases hs : r[k] < 0
    · simp only [hs, if_true]
      unfold factO optI
      generalize L.getD (-1 - r[k]).toNat (-1) = z
      by_cases hz : z < 0
      · simp [hz, capO, codeO]
      · simp [hz, capO, codeO]; omega
    · simp [hs, capO, codeO]; omega

/-- what holds of the lengths within a round -/
structure ShI (ps : List PrS) (N r i : Nat) (L : List Int) : Prop where
  len : L.length = N
  lo : ∀ n, -1 ≤ L.getD n (-1)
  hi : ∀ n, L.getD n (-1) ≤ 1000000
  sound : SoundL ps (factO L)
  le : ∀ n, leO (factO L n) (bestH ps r n)
  done : ∀ p ∈ ps.take i, leO (factO L p.left) (capO (rowL (bestH ps r) p.right))
theorem ShI.start (ps : List PrS) (N : Nat) (L : List Int) (hl : L.length = N) (h : ∀ j, j < N → L.getD j 0 = -1) : ShI ps N 0 0 L := by
  have h' : ∀ n, L.getD n (-1) = -1 := fun n => by
    by_cases hn : n < L.length
    · have := h n (by omega)
      simp [List.getD, hn] at this ⊢; exact this
    · simp [List.getD, List.getElem?_eq_none (Nat.le_of_not_lt hn)]
  have hf : ∀ n, factO L n = none := fun n => by unfold factO; rw [h']; rfl
  exact ⟨hl, fun n => by rw [h']; omega, fun n => by rw [h']; omega, fun n => ⟨0, by rw [hf]; cases bestH ps 0 n <;> simp [leO]⟩, fun n => by rw [hf]; exact leO.refl _, fun p hp => by simp at hp⟩
theorem ShI.next {ps : List PrS} {N r : Nat} {L : List Int} (h : ShI ps N r ps.length L) : ShI ps N (r + 1) 0 L := by
  refine ⟨h.len, h.lo, h.hi, h.sound, fun n => ?_, fun p hp => by simp at hp⟩
  show leO (factO L n) (saysL ps (bestH ps r) n)
  rcases saysL_of ps (bestH ps r) n with e | ⟨p, hp, rfl, e⟩
  · rw [e]; cases factO L n <;> simp [leO]
  · rw [e]; exact h.done p (by rw [List.take_length]; exact hp)
theorem codeO_opt (a : Option Nat) : optI (codeO a) = a := by
  cases a with
  | none => simp [codeO, optI]
  | some x => show (if (x : Int) < 0 then none else some (x : Int).toNat) = some x; rw [if_neg (by omega)]; simp
/-- the production's own length, where it is no better -/
theorem ShI.stay {ps : List PrS} {N r i : Nat} {L : List Int} (h : ShI ps N r i L) {p : PrS} (hp : ps[i]? = some p) (hno : leO (factO L p.left) (capO (rowL (factO L) p.right))) : ShI ps N r (i + 1) L := by
  have hi : i < ps.length := (List.getElem?_eq_some_iff.1 hp).1
  refine ⟨h.len, h.lo, h.hi, h.sound, h.le, fun q hq => ?_⟩
  rw [List.take_succ_eq_append_getElem hi] at hq
  rcases List.mem_append.1 hq with hq | hq
  · exact h.done q hq
  · have e : q = p := by
      have h1 := (List.getElem?_eq_some_iff.1 hp).2
      simp at hq; rw [hq, h1]
    subst e
    exact hno.trans (capO_mono (rowL_mono h.le _))
/-- .. and where it is better -/
theorem ShI.set {ps : List PrS} {N r i : Nat} {L : List Int} (h : ShI ps N r i L) {p : PrS} (hp : ps[i]? = some p) (hl : p.left < N) (hbet : leO (capO (rowL (factO L) p.right)) (factO L p.left)) : ShI ps N r (i + 1) (L.set p.left (codeO (capO (rowL (factO L) p.right)))) := by
  have hi : i < ps.length := (List.getElem?_eq_some_iff.1 hp).1
  have hpm : p ∈ ps := List.mem_of_getElem? hp
  have hg : ∀ n, (L.set p.left (codeO (capO (rowL (factO L) p.right)))).getD n (-1) = if n = p.left then codeO (capO (rowL (factO L) p.right)) else L.getD n (-1) := fun n => by
    by_cases e : n = p.left
    · subst e; simp [List.getD, h.len, hl]
    · rw [if_neg e]
      simp only [List.getD]
      rw [List.getElem?_set_ne (Ne.symm e)]
  have hf : ∀ n, factO (L.set p.left (codeO (capO (rowL (factO L) p.right)))) n = if n = p.left then capO (rowL (factO L) p.right) else factO L n := fun n => by
    show optI _ = _
    rw [hg]
    split
    · rw [codeO_opt]
    · rfl
  have hrange : -1 ≤ codeO (capO (rowL (factO L) p.right)) ∧ codeO (capO (rowL (factO L) p.right)) ≤ 1000000 := by
    unfold capO codeO; cases rowL (factO L) p.right <;> simp <;> omega
  have hle : ∀ n, leO (factO (L.set p.left (codeO (capO (rowL (factO L) p.right)))) n) (factO L n) := fun n => by
    rw [hf]
    split
    · rename_i e; subst e; exact hbet
    · exact leO.refl _
  refine ⟨by simp [h.len], fun n => ?_, fun n => ?_, fun n => ?_, fun n => (hle n).trans (h.le n), fun q hq => ?_⟩
  · rw [hg]; split
    · exact hrange.1
    · exact h.lo n
  · rw [hg]; split
    · exact hrange.2
    · exact h.hi n
  · rw [hf]; split
    · rename_i e; subst e; exact h.sound.step hpm
    · exact h.sound n
  · rw [List.take_succ_eq_append_getElem hi] at hq
    rcases List.mem_append.1 hq with hq | hq
    · exact (hle q.left).trans (h.done q hq)
    · have e : q = p := by
        have h1 := (List.getElem?_eq_some_iff.1 hp).2
        simp at hq; rw [hq, h1]
      subst e
      rw [hf, if_pos rfl]
      exact capO_mono (rowL_mono h.le _)
/-- at the end: what no more rounds would better -/
theorem ShI.final {ps : List PrS} {N : Nat} {L : List Int} (h : ShI ps N (N + 1) 0 L) (hN : ∀ p ∈ ps, p.left < N) (n : Nat) : factO L n = bestH ps N n := by
  have hf := fin_all ps N hN n
  obtain ⟨k, hk⟩ := h.sound n
  refine leO.antisymm ?_ ?_
  · have := h.le n
    rw [hf (N + 1) (by omega)] at this
    exact this
  · have h1 := bestH_le ps (Nat.le_max_left k N) n
    rw [hf (max k N) (Nat.le_max_right _ _)] at h1
    exact h1.trans hk

end Go.Proofs.Ytbgnhegfabpjnaa
