/- Texts of the proof, put together: GShP, GLiv, GRow, GLvR. -/
import Derived.Test.YtkdoghaoijdedaaGreatDoorGt05
import Derived.Test.YtkdoghaoijdedaaGreatDoorGt01
import Derived.Laws.MakeOwn
namespace Go.Proofs.YtkdoghaoijdedaaGreatDoor
set_option linter.unusedVariables false

def optI (z : Int) : Option Nat := if z < 0 then none else some z.toNat
def codeO : Option Nat → Int
  | none => -1
  | some x => x
def factO (L : List Int) (n : Nat) : Option Nat := optI (L.getD n (-1))
def prS (p : PdR) : PrS := ⟨p.left.toNat, p.right⟩
def prsS (ps : List PdR) : List PrS := ps.map prS
theorem rowL_snoc (f : Nat → Option Nat) (s : Int) : ∀ r, rowL f (r ++ [s]) = match rowL f r, (if s < 0 then f (-1 - s).toNat else some 1) with
    | some a, some b => some (a + b)
    | _, _ => none
  | [] => by
    simp only [List.nil_append, rowL]
    generalize (if s < 0 then f (-1 - s).toNat else some 1) = a
    cases a <;> simp
  | q :: r => by
    have ih := rowL_snoc f s r
    simp only [List.cons_append, rowL, ih]
    generalize (if s < 0 then f (-1 - s).toNat else some 1) = a
    generalize (if q < 0 then f (-1 - q).toNat else some 1) = b
    generalize rowL f r = c
    cases a <;> cases b <;> cases c <;> simp <;> omega
theorem rowL_none (f : Nat → Option Nat) (r' : List Int) : ∀ r, rowL f r = none → rowL f (r ++ r') = none
  | [], h => by simp [rowL] at h
  | s :: r, h => by
    simp only [List.cons_append, rowL] at *
    generalize (if s < 0 then f (-1 - s).toNat else some 1) = a at *
    cases hr : rowL f r with
    | none => rw [rowL_none f r' r hr]; cases a <;> rfl
    | some c => rw [hr] at h; cases a <;> simp at h ⊢
/-- so far along a row -/
def rowZ (L : List Int) (r : List Int) (k : Nat) : Int := codeO (capO (rowL (factO L) (r.take k)))
theorem rowZ_zero (L r : List Int) : rowZ L r 0 = 0 := by simp [rowZ, rowL, capO, codeO]
theorem rowZ_range (L r : List Int) (k : Nat) : -1 ≤ rowZ L r k ∧ rowZ L r k ≤ 1000000 := by
  unfold rowZ capO codeO
  cases rowL (factO L) (r.take k) <;> simp <;> omega
theorem rowZ_end (L r : List Int) (k : Nat) (h : rowZ L r k < 0) : rowZ L r r.length = -1 := by
  have h0 : rowL (factO L) (r.take k) = none := by
    unfold rowZ capO codeO at h
    cases e : rowL (factO L) (r.take k) with
    | none => rfl
    | some x => rw [e] at h; simp at h; omega
  have := rowL_none (factO L) (r.drop k) _ h0
  rw [List.take_append_drop] at this
  unfold rowZ
  rw [List.take_length, this]; rfl
theorem rowZ_step (L r : List Int) (k : Nat) (hk : k < r.length) (h : 0 ≤ rowZ L r k) : rowZ L r (k + 1) = (let m := if r.getD k 0 < 0 then (L.getD (-1 - r.getD k 0).toNat (-1)) else 1; if m < 0 then -1 else min (rowZ L r k + m) 1000000) := by
  unfold rowZ at *
  rw [List.take_succ_eq_append_getElem hk, rowL_snoc]
  have e : r.getD k 0 = r[k] := by simp [List.getD, hk]
  rw [e]
  cases hx : rowL (factO L) (r.take k) with
  | none => rw [hx] at h; simp [capO, codeO] at h
  | some x =>
    by_cases hs : r[k] < 0
    · simp only [hs, if_true]
      unfold factO optI
      generalize L.getD (-1 - r[k]).toNat (-1) = z
      by_cases hz : z < 0
      · simp [hz, capO, codeO]
      · simp [hz, capO, codeO]; omega
    · simp [hs, capO, codeO]; omega

/-- what holds of the lengths within a round -/
structure ShI (ps : List PrS) (N r i : Nat) (L : List Int) : Prop where
  len : L.length = N
  lo : ∀ n, -1 ≤ L.getD n (-1)
  hi : ∀ n, L.getD n (-1) ≤ 1000000
  sound : SoundL ps (factO L)
  le : ∀ n, leO (factO L n) (bestH ps r n)
  done : ∀ p ∈ ps.take i, leO (factO L p.left) (capO (rowL (bestH ps r) p.right))
theorem ShI.start (ps : List PrS) (N : Nat) (L : List Int) (hl : L.length = N) (h : ∀ j, j < N → L.getD j 0 = -1) : ShI ps N 0 0 L := by
  have h' : ∀ n, L.getD n (-1) = -1 := fun n => by
    by_cases hn : n < L.length
    · have := h n (by omega)
      simp [List.getD, hn] at this ⊢; exact this
    · simp [List.getD, List.getElem?_eq_none (Nat.le_of_not_lt hn)]
  have hf : ∀ n, factO L n = none := fun n => by unfold factO; rw [h']; rfl
  exact ⟨hl, fun n => by rw [h']; omega, fun n => by rw [h']; omega, fun n => ⟨0, by rw [hf]; cases bestH ps 0 n <;> simp [leO]⟩, fun n => by rw [hf]; exact leO.refl _, fun p hp => by simp at hp⟩
theorem ShI.next {ps : List PrS} {N r : Nat} {L : List Int} (h : ShI ps N r ps.length L) : ShI ps N (r + 1) 0 L := by
  refine ⟨h.len, h.lo, h.hi, h.sound, fun n => ?_, fun p hp => by simp at hp⟩
  show leO (factO L n) (saysL ps (bestH ps r) n)
  rcases saysL_of ps (bestH ps r) n with e | ⟨p, hp, rfl, e⟩
  · rw [e]; cases factO L n <;> simp [leO]
  · rw [e]; exact h.done p (by rw [List.take_length]; exact hp)
theorem codeO_opt (a : Option Nat) : optI (codeO a) = a := by
  cases a with
  | none => simp [codeO, optI]
  | some x => show (if (x : Int) < 0 then none else some (x : Int).toNat) = some x; rw [if_neg (by omega)]; simp
/-- the production's own length, where it is no better -/
theorem ShI.stay {ps : List PrS} {N r i : Nat} {L : List Int} (h : ShI ps N r i L) {p : PrS} (hp : ps[i]? = some p) (hno : leO (factO L p.left) (capO (rowL (factO L) p.right))) : ShI ps N r (i + 1) L := by
  have hi : i < ps.length := (List.getElem?_eq_some_iff.1 hp).1
  refine ⟨h.len, h.lo, h.hi, h.sound, h.le, fun q hq => ?_⟩
  rw [List.take_succ_eq_append_getElem hi] at hq
  rcases List.mem_append.1 hq with hq | hq
  · exact h.done q hq
  · have e : q = p := by
      have h1 := (List.getElem?_eq_some_iff.1 hp).2
      simp at hq; rw [hq, h1]
    subst e
    exact hno.trans (capO_mono (rowL_mono h.le _))
/-- .. and where it is better -/
theorem ShI.set {ps : List PrS} {N r i : Nat} {L : List Int} (h : ShI ps N r i L) {p : PrS} (hp : ps[i]? = some p) (hl : p.left < N) (hbet : leO (capO (rowL (factO L) p.right)) (factO L p.left)) : ShI ps N r (i + 1) (L.set p.left (codeO (capO (rowL (factO L) p.right)))) := by
  have hi : i < ps.length := (List.getElem?_eq_some_iff.1 hp).1
  have hpm : p ∈ ps := List.mem_of_getElem? hp
  have hg : ∀ n, (L.set p.left (codeO (capO (rowL (factO L) p.right)))).getD n (-1) = if n = p.left then codeO (capO (rowL (factO L) p.right)) else L.getD n (-1) := fun n => by
    by_cases e : n = p.left
    · subst e; simp [List.getD, h.len, hl]
    · rw [if_neg e]
      simp only [List.getD]
      rw [List.getElem?_set_ne (Ne.symm e)]
  have hf : ∀ n, factO (L.set p.left (codeO (capO (rowL (factO L) p.right)))) n = if n = p.left then capO (rowL (factO L) p.right) else factO L n := fun n => by
    show optI _ = _
    rw [hg]
    split
    · rw [codeO_opt]
    · rfl
  have hrange : -1 ≤ codeO (capO (rowL (factO L) p.right)) ∧ codeO (capO (rowL (factO L) p.right)) ≤ 1000000 := by
    unfold capO codeO; cases rowL (factO L) p.right <;> simp <;> omega
  have hle : ∀ n, leO (factO (L.set p.left (codeO (capO (rowL (factO L) p.right)))) n) (factO L n) := fun n => by
    rw [hf]
    split
    · rename_i e; subst e; exact hbet
    · exact leO.refl _
  refine ⟨by simp [h.len], fun n => ?_, fun n => ?_, fun n => ?_, fun n => (hle n).trans (h.le n), fun q hq => ?_⟩
  · rw [hg]; split
    · exact hrange.1
    · exact h.lo n
  · rw [hg]; split
    · exact hrange.2
    · exact h.hi n
  · rw [hf]; split
    · rename_i e; subst e; exact h.sound.step hpm
    · exact h.sound n
  · rw [List.take_succ_eq_append_getElem hi] at hq
    rcases List.mem_append.1 hq with hq | hq
    · exact (hle q.left).trans (h.done q hq)
    · have e : q = p := by
        have h1 := (List.getElem?_eq_some_iff.1 hp).2
        simp at hq; rw [hq, h1]
      subst e
      rw [hf, if_pos rfl]
      exact capO_mono (rowL_mono h.le _)
/-- at the end: what no more rounds would better -/
theorem ShI.final {ps : List PrS} {N : Nat} {L : List Int} (h : ShI ps N (N + 1) 0 L) (hN : ∀ p ∈ ps, p.left < N) (n : Nat) : factO L n = bestH ps N n := by
  have hf := fin_all ps N hN n
  obtain ⟨k, hk⟩ := h.sound n
  refine leO.antisymm ?_ ?_
  · have := h.le n
    rw [hf (N + 1) (by omega)] at this
    exact this
  · have h1 := bestH_le ps (Nat.le_max_left k N) n
    rw [hf (max k N) (Nat.le_max_right _ _)] at h1
    exact h1.trans hk

end Go.Proofs.YtkdoghaoijdedaaGreatDoor

namespace Go.Proofs.YtkdoghaoijdedaaGreatDoor
set_option linter.unusedVariables false

/-- each symbol of a row has a tree -/
def hasB (leaf : Bool) (f : Nat → Bool) (r : List Int) : Bool := r.all fun s => if s < 0 then f (-1 - s).toNat else leaf
theorem hasB_mono {leaf : Bool} {f g : Nat → Bool} (h : ∀ n, f n = true → g n = true) (r : List Int) (hf : hasB leaf f r = true) : hasB leaf g r = true := by
  unfold hasB at *
  rw [List.all_eq_true] at *
  intro s hs
  have := hf s hs
  by_cases h0 : s < 0
  · rw [if_pos h0] at this ⊢; exact h _ this
  · rw [if_neg h0] at this ⊢; exact this
/-- what the productions of a name say -/
def saysB (leaf : Bool) (ps : List PrS) (f : Nat → Bool) (n : Nat) : Bool := ps.any fun p => decide (p.left = n) && hasB leaf f p.right
theorem saysB_iff (leaf : Bool) (ps : List PrS) (f : Nat → Bool) (n : Nat) : saysB leaf ps f n = true ↔ ∃ p ∈ ps, p.left = n ∧ hasB leaf f p.right = true := by
  unfold saysB
  rw [List.any_eq_true]
  constructor
  · rintro ⟨p, hp, h⟩
    rw [Bool.and_eq_true, decide_eq_true_eq] at h
    exact ⟨p, hp, h.1, h.2⟩
  · rintro ⟨p, hp, h1, h2⟩
    exact ⟨p, hp, by rw [Bool.and_eq_true, decide_eq_true_eq]; exact ⟨h1, h2⟩⟩
theorem saysB_mono {leaf : Bool} {ps : List PrS} {f g : Nat → Bool} (h : ∀ n, f n = true → g n = true) (n : Nat) (hf : saysB leaf ps f n = true) : saysB leaf ps g n = true := by
  rw [saysB_iff] at *
  obtain ⟨p, hp, h1, h2⟩ := hf
  exact ⟨p, hp, h1, hasB_mono h _ h2⟩
/-- .. by trees of so great a height -/
def hgtB (leaf : Bool) (ps : List PrS) : Nat → Nat → Bool
  | 0, _ => false
  | h + 1, n => saysB leaf ps (hgtB leaf ps h) n
theorem hgtB_up (leaf : Bool) (ps : List PrS) : ∀ (h n : Nat), hgtB leaf ps h n = true → hgtB leaf ps (h + 1) n = true
  | 0, n, h => by simp [hgtB] at h
  | h + 1, n, hh => saysB_mono (fun m hm => hgtB_up leaf ps h m hm) n hh
theorem hgtB_le (leaf : Bool) (ps : List PrS) {h k : Nat} (hk : h ≤ k) (n : Nat) (hh : hgtB leaf ps h n = true) : hgtB leaf ps k n = true := by
  induction k with
  | zero => obtain rfl : h = 0 := by omega
            exact hh
  | succ k ih =>
    by_cases e : h = k + 1
    · subst e; exact hh
    · exact hgtB_up leaf ps k n (ih (by omega))
/-- facts that follow from trees, and facts from which nothing more follows -/
def SoundB (leaf : Bool) (ps : List PrS) (f : Nat → Bool) : Prop := ∀ n, f n = true → ∃ h, hgtB leaf ps h n = true
def ClosedB (leaf : Bool) (ps : List PrS) (f : Nat → Bool) : Prop := ∀ p ∈ ps, hasB leaf f p.right = true → f p.left = true
theorem ClosedB.le {leaf : Bool} {ps : List PrS} {f : Nat → Bool} (hc : ClosedB leaf ps f) : ∀ h n, hgtB leaf ps h n = true → f n = true
  | 0, n, h => by simp [hgtB] at h
  | h + 1, n, hh => by
    have hh' : saysB leaf ps (hgtB leaf ps h) n = true := hh
    rw [saysB_iff] at hh'
    obtain ⟨p, hp, rfl, h2⟩ := hh'
    exact hc p hp (hasB_mono (hc.le h) _ h2)
theorem bools_unique {leaf : Bool} {ps : List PrS} {f g : Nat → Bool} (cf : ClosedB leaf ps f) (sf : SoundB leaf ps f) (cg : ClosedB leaf ps g) (sg : SoundB leaf ps g) : ∀ n, f n = g n := fun n => by
  rw [Bool.eq_iff_iff]
  constructor
  · intro h
    obtain ⟨k, hk⟩ := sf n h
    exact cg.le k n hk
  · intro h
    obtain ⟨k, hk⟩ := sg n h
    exact cf.le k n hk
theorem SoundB.step {leaf : Bool} {ps : List PrS} {f : Nat → Bool} (hs : SoundB leaf ps f) {p : PrS} (hp : p ∈ ps) (h : hasB leaf f p.right = true) : ∃ k, hgtB leaf ps k p.left = true := by
  have hrow : ∀ r : List Int, hasB leaf f r = true → ∃ k, hasB leaf (hgtB leaf ps k) r = true := by
    intro r
    induction r with
    | nil => intro _; exact ⟨0, rfl⟩
    | cons s r ih =>
      intro hr
      have hr' : ((if s < 0 then f (-1 - s).toNat else leaf) && hasB leaf f r) = true := by simpa [hasB] using hr
      rw [Bool.and_eq_true] at hr'
      obtain ⟨k1, h1⟩ := ih hr'.2
      by_cases h0 : s < 0
      · have h2 := hr'.1
        rw [if_pos h0] at h2
        obtain ⟨k2, h2⟩ := hs _ h2
        refine ⟨max k1 k2, ?_⟩
        show (s :: r).all _ = true
        rw [List.all_cons, Bool.and_eq_true, if_pos h0]
        exact ⟨hgtB_le leaf ps (Nat.le_max_right k1 k2) _ h2, hasB_mono (fun m hm => hgtB_le leaf ps (Nat.le_max_left k1 k2) m hm) r h1⟩
      · have h2 := hr'.1
        rw [if_neg h0] at h2
        refine ⟨k1, ?_⟩
        show (s :: r).all _ = true
        rw [List.all_cons, Bool.and_eq_true, if_neg h0]
        exact ⟨h2, h1⟩
  obtain ⟨k, hk⟩ := hrow p.right h
  exact ⟨k + 1, (saysB_iff _ _ _ _).2 ⟨p, hp, rfl, hk⟩⟩
/-- the productions that matter -/
def leafP (leaf : Bool) (ps : List PrS) : List PrS := ps.filter fun p => leaf || p.right.all fun s => decide (s < 0)
theorem rowL_has (f : Nat → Option Nat) : ∀ (r : List Int), (rowL f r).isSome = r.all fun s => if s < 0 then (f (-1 - s).toNat).isSome else true
  | [] => rfl
  | s :: r => by
    rw [List.all_cons, ← rowL_has f r]
    have e : rowL f (s :: r) = (match (if s < 0 then f (-1 - s).toNat else some 1), rowL f r with
      | some a, some b => some (a + b)
      | _, _ => none) := rfl
    rw [e]
    generalize rowL f r = c
    by_cases h0 : s < 0
    · simp only [if_pos h0]
      generalize f (-1 - s).toNat = d
      cases d <;> cases c <;> rfl
    · simp only [if_neg h0]
      cases c <;> rfl
/-- trees by heights, told by lengths -/
theorem hgtB_best (leaf : Bool) (ps : List PrS) : ∀ (h n : Nat), hgtB leaf ps h n = (bestH (leafP leaf ps) h n).isSome
  | 0, n => rfl
  | h + 1, n => by
    have ih := hgtB_best leaf ps h
    rw [Bool.eq_iff_iff]
    show saysB leaf ps (hgtB leaf ps h) n = true ↔ (saysL (leafP leaf ps) (bestH (leafP leaf ps) h) n).isSome = true
    have hcap : ∀ a : Option Nat, (capO a).isSome = a.isSome := fun a => by cases a <;> rfl
    have hrow : ∀ p : PrS, (hasB leaf (hgtB leaf ps h) p.right = true) ↔ ((leaf || p.right.all fun s => decide (s < 0)) = true ∧ (rowL (bestH (leafP leaf ps) h) p.right).isSome = true) := fun p => by
      rw [rowL_has]
      unfold hasB
      simp only [Bool.or_eq_true, List.all_eq_true, decide_eq_true_eq]
      constructor
      · intro hh
        refine ⟨?_, fun s hs => ?_⟩
        · cases leaf with
          | true => exact .inl rfl
          | false =>
            refine .inr fun s hs => ?_
            have := hh s hs
            by_cases h0 : s < 0
            · exact h0
            · rw [if_neg h0] at this; cases this
        · have := hh s hs
          by_cases h0 : s < 0
          · rw [if_pos h0] at this ⊢; rw [← ih]; exact this
          · rw [if_neg h0]
      · rintro ⟨h1, h2⟩ s hs
        have := h2 s hs
        by_cases h0 : s < 0
        · rw [if_pos h0] at this ⊢; rw [ih]; exact this
        · rw [if_neg h0]
          rcases h1 with h1 | h1
          · exact h1
          · exact absurd (h1 s hs) h0
    rw [saysB_iff]
    constructor
    · rintro ⟨p, hp, rfl, h2⟩
      have h3 := (hrow p).1 h2
      have hm : p ∈ leafP leaf ps := List.mem_filter.2 ⟨hp, h3.1⟩
      have hle := saysL_le (f := bestH (leafP leaf ps) h) hm
      cases e : saysL (leafP leaf ps) (bestH (leafP leaf ps) h) p.left with
      | some x => rfl
      | none =>
        rw [e] at hle
        cases e2 : rowL (bestH (leafP leaf ps) h) p.right with
        | none => rw [e2] at h3; simp at h3
        | some y => rw [e2] at hle; exact hle.elim
    · intro hh
      rcases saysL_of (leafP leaf ps) (bestH (leafP leaf ps) h) n with e | ⟨p, hp, hl, e⟩
      · rw [e] at hh; simp at hh
      · obtain ⟨hp1, hp2⟩ := List.mem_filter.1 hp
        refine ⟨p, hp1, hl, (hrow p).2 ⟨hp2, ?_⟩⟩
        rw [e, hcap] at hh
        exact hh
/-- as many rounds as there are names are enough -/
theorem hgtB_fin (leaf : Bool) (ps : List PrS) (N : Nat) (hN : ∀ p ∈ ps, p.left < N) (k n : Nat) (hk : N ≤ k) : hgtB leaf ps k n = hgtB leaf ps N n := by
  rw [hgtB_best, hgtB_best, fin_all (leafP leaf ps) N (fun p hp => hN p (List.mem_filter.1 hp).1) n k hk]
theorem hgtB_closed (leaf : Bool) (ps : List PrS) (N : Nat) (hN : ∀ p ∈ ps, p.left < N) : ClosedB leaf ps (hgtB leaf ps N) := fun p hp h => by
  rw [← hgtB_fin leaf ps N hN (N + 1) p.left (by omega)]
  exact (saysB_iff _ _ _ _).2 ⟨p, hp, rfl, h⟩

end Go.Proofs.YtkdoghaoijdedaaGreatDoor

namespace Go.Proofs.YtkdoghaoijdedaaGreatDoor
open Go.RowKit
set_option linter.unusedVariables false
set_option maxRecDepth 100000

theorem Tryz.infoInt : (Tryz.prog.info? 3).map (fun i => (i.zero, i.size, i.bytes)) = some (some (.int .i64 0), 1, 8) := by kernel_rfl
theorem infoParts {o : Option TypeInfo} {z : Option Value} {n b : Nat} (h : o.map (fun i => (i.zero, i.size, i.bytes)) = some (z, n, b)) : ∃ i, o = some i ∧ i.zero = z ∧ i.size = n ∧ i.bytes = b := by
  cases o with
  | none => simp at h
  | some i => simp at h; exact ⟨i, rfl, h.1, h.2.1, h.2.2⟩
def intsA (l : List Int) : Array Value := (l.map fun z => Value.int .i64 z).toArray
theorem intsA_get (l : List Int) (j : Nat) (h : j < l.length) : (intsA l)[j]? = some (.int .i64 (l.getD j 0)) := by simp [intsA, h]
theorem intsA_set (l : List Int) (j : Nat) (x : Int) : (intsA l).setIfInBounds j (.int .i64 x) = intsA (l.set j x) := by simp [intsA, List.map_set]
theorem zerosA (m : Nat) : madeCells (Value.int .i64 0).cells m = intsA (List.replicate m 0) := by
  apply Array.ext
  · simp [madeCells, intsA]
  · intro i h1 h2
    simp [madeCells, intsA, Value.cells, Nat.mod_one]
theorem makeInts (m : Nat) (hm : m ≤ 1000000) (W : World) : (Instr.makeSlice 23 (.int .i64 m) (.int .i64 m)).run Tryz.prog W = .ok (.slice (some ⟨W.heap.size, 0, none⟩) m m) (W.alloc (.cells (intsA (List.replicate m 0)) 3)) := by
  obtain ⟨i0, hi, hz0, hz1, hz2⟩ := infoParts Tryz.infoInt
  have := run_make W 23 3 i0 (.int .i64 0) Tryz.underlying23 hi hz0 .i64 .i64 m m (by omega) (by omega) (by rw [hz2]; omega) (by omega)
  rw [this, hz1, zerosA]
  simp
/-- a row of numbers that fills a block -/
def Row (w : World) (D : Nat) (L : List Int) : Prop := w.heap[D]? = some (.cells (intsA L) 3 (0, 0))
theorem Row.cell {w : World} {D : Nat} {L : List Int} (h : Row w D L) {j : Nat} (hj : j < L.length) : w.cell? ⟨D, j, none⟩ = some (.int .i64 (L.getD j 0)) := by
  unfold Row at h
  simp only [World.cell?, h]
  exact intsA_get L j hj
theorem Row.lt {w : World} {D : Nat} {L : List Int} (h : Row w D L) : D < w.heap.size := (Array.getElem?_eq_some_iff.1 h).1
theorem Row.fz {w : World} {D : Nat} {L : List Int} (h : Row w D L) (j : Nat) : w.frozen? ⟨D, j, none⟩ = false := by
  unfold Row at h
  simp [World.frozen?, h]
theorem heap_setC (w : World) (b o : Nat) (cs : Array Value) (t : TypeId) (u : Value) (h : w.heap[b]? = some (.cells cs t (0, 0))) : (w.setCell ⟨b, o, none⟩ u).heap[b]? = some (.cells (cs.setIfInBounds o u) t (0, 0)) := by
  simp [World.setCell, Array.getElem?_modify, h]
theorem Row.set {w : World} {D : Nat} {L : List Int} (h : Row w D L) (j : Nat) (x : Int) : Row (w.setCell ⟨D, j, none⟩ (.int .i64 x)) D (L.set j x) := by
  unfold Row at *
  rw [heap_setC _ _ _ _ _ _ h, intsA_set]
theorem below_set {B : Nat} {w w' : World} (h : Below B w w') {D : Nat} (hD : B ≤ D) (o : Nat) (v : Value) : Below B w (w'.setCell ⟨D, o, none⟩ v) :=
  ⟨h.os, h.tape, h.output, by simpa using h.size, fun k hk => (Below.heap_setCell _ _ _ _ (by simp; omega)).trans (h.block k hk)⟩
theorem Row.ints {w : World} {D : Nat} {L : List Int} (h : Row w D L) : IntsR w (.slice (some ⟨D, 0, none⟩) L.length L.length) L :=
  ⟨_, _, rfl, Nat.le_refl _, .inr ⟨D, 0, rfl, h.lt, fun j hj => by rw [Nat.zero_add]; exact h.cell hj⟩⟩

/-- the productions of a name -/
def ownL (ps : List PdR) (n : Nat) : List PdR := ps.filter fun p => decide (p.left = (n : Int))
def PdOk (N : Nat) (p : PdR) : Prop := 0 ≤ p.left ∧ p.left < N ∧ p.right.length ≤ 20 ∧ ∀ j, j < p.right.length → -(N : Int) ≤ p.right.getD j 0

/-- the productions of each name in memory, by a variable -/
def OwnM (w : World) (O N : Nat) (own : Nat → List PdR) : Prop :=
  ∃ D, O < w.heap.size ∧ D < w.heap.size ∧ w.cell? ⟨O, 0, none⟩ = some (.slice (some ⟨D, 0, none⟩) N N) ∧ ∀ n, n < N → ∃ v, w.cell? ⟨D, n, none⟩ = some v ∧ PdsM w v (own n)
theorem OwnM.below {w w' : World} {O N : Nat} {own : Nat → List PdR} (h : OwnM w O N own) (hb : Below w.heap.size w w') : OwnM w' O N own := by
  obtain ⟨D, h1, h2, h3, h4⟩ := h
  refine ⟨D, Nat.lt_of_lt_of_le h1 hb.size, Nat.lt_of_lt_of_le h2 hb.size, (hb.cell (p := ⟨O, 0, none⟩) h1).trans h3, fun n hn => ?_⟩
  obtain ⟨v, h5, h6⟩ := h4 n hn
  exact ⟨v, (hb.cell (p := ⟨D, n, none⟩) h2).trans h5, h6.below hb⟩

end Go.Proofs.YtkdoghaoijdedaaGreatDoor

namespace Go.Proofs.YtkdoghaoijdedaaGreatDoor
open Go.RowKit
set_option linter.unusedVariables false
set_option maxRecDepth 100000

def factB (L : List Bool) (n : Nat) : Bool := L.getD n false
theorem factB_set {N : Nat} {L : List Bool} (hl : L.length = N) {n : Nat} (hn : n < N) (a : Bool) (m : Nat) : factB (L.set n a) m = if m = n then a else factB L m := by
  unfold factB
  by_cases e : m = n
  · rw [if_pos e, e]; simp [List.getD, hl, hn]
  · rw [if_neg e]
    simp only [List.getD]
    rw [List.getElem?_set_ne (Ne.symm e)]
/-- what holds within a round -/
structure LvI (leaf : Bool) (ps : List PrS) (N r i : Nat) (L : List Bool) : Prop where
  len : L.length = N
  sound : SoundB leaf ps (factB L)
  le : ∀ n, hgtB leaf ps r n = true → factB L n = true
  done : ∀ p ∈ ps.take i, hasB leaf (hgtB leaf ps r) p.right = true → factB L p.left = true
theorem LvI.start (leaf : Bool) (ps : List PrS) (N : Nat) : LvI leaf ps N 0 0 (List.replicate N false) := by
  have hf : ∀ n, factB (List.replicate N false) n = false := fun n => by
    unfold factB
    by_cases hn : n < N
    · simp [List.getD, hn]
    · simp [List.getD, List.getElem?_eq_none (show (List.replicate N false).length ≤ n by simp; omega)]
  refine ⟨by simp, fun n h => ?_, fun n h => ?_, fun p hp => ?_⟩
  · rw [hf] at h; cases h
  · simp [hgtB] at h
  · simp at hp
theorem LvI.next {leaf : Bool} {ps : List PrS} {N r : Nat} {L : List Bool} (h : LvI leaf ps N r ps.length L) : LvI leaf ps N (r + 1) 0 L := by
  refine ⟨h.len, h.sound, fun n hn => ?_, fun p hp => by simp at hp⟩
  have hn' : saysB leaf ps (hgtB leaf ps r) n = true := hn
  rw [saysB_iff] at hn'
  obtain ⟨p, hp, rfl, h2⟩ := hn'
  exact h.done p (by rw [List.take_length]; exact hp) h2
theorem LvI.step {leaf : Bool} {ps : List PrS} {N r i : Nat} {L : List Bool} (h : LvI leaf ps N r i L) {p : PrS} (hp : ps[i]? = some p) (hl : p.left < N) : LvI leaf ps N r (i + 1) (L.set p.left (factB L p.left || hasB leaf (factB L) p.right)) := by
  have hi : i < ps.length := (List.getElem?_eq_some_iff.1 hp).1
  have hpm : p ∈ ps := List.mem_of_getElem? hp
  have hf := factB_set h.len hl (factB L p.left || hasB leaf (factB L) p.right)
  have hge : ∀ n, factB L n = true → factB (L.set p.left (factB L p.left || hasB leaf (factB L) p.right)) n = true := fun n hn => by
    rw [hf]; split
    · rename_i e; rw [← e, hn]; rfl
    · exact hn
  refine ⟨by rw [List.length_set]; exact h.len, fun n hn => ?_, fun n hn => hge n (h.le n hn), fun q hq h2 => ?_⟩
  · rw [hf] at hn
    split at hn
    · rename_i e
      rw [Bool.or_eq_true] at hn
      rcases hn with hn | hn
      · rw [e]; exact h.sound _ hn
      · rw [e]; exact h.sound.step hpm hn
    · exact h.sound n hn
  · rw [List.take_succ_eq_append_getElem hi] at hq
    rcases List.mem_append.1 hq with hq | hq
    · exact hge _ (h.done q hq h2)
    · have e : q = p := by
        have h1 := (List.getElem?_eq_some_iff.1 hp).2
        simp at hq; rw [hq, h1]
      subst e
      rw [hf, if_pos rfl, hasB_mono h.le _ h2, Bool.or_true]
theorem LvI.final {leaf : Bool} {ps : List PrS} {N : Nat} {L : List Bool} (h : LvI leaf ps N N 0 L) (hN : ∀ p ∈ ps, p.left < N) (n : Nat) : factB L n = hgtB leaf ps N n := by
  rw [Bool.eq_iff_iff]
  constructor
  · intro hn
    obtain ⟨k, hk⟩ := h.sound n hn
    have := hgtB_le leaf ps (Nat.le_max_left k N) n hk
    rw [hgtB_fin leaf ps N hN (max k N) n (Nat.le_max_right _ _)] at this
    exact this
  · exact h.le n
theorem hasB_take (leaf : Bool) (f : Nat → Bool) (r : List Int) (k : Nat) (hk : k < r.length) : hasB leaf f (r.take (k + 1)) = (hasB leaf f (r.take k) && (if r.getD k 0 < 0 then f (-1 - r.getD k 0).toNat else leaf)) := by
  unfold hasB
  rw [List.take_succ_eq_append_getElem hk, List.all_append]
  simp [List.getD, hk]

end Go.Proofs.YtkdoghaoijdedaaGreatDoor
