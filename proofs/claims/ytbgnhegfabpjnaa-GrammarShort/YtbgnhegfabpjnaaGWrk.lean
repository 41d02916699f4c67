/- The least lengths by rounds of names that wait, as plain data. No program. -/
import Derived.Test.YtbgnhegfabpjnaaGLenC
namespace Go.Proofs.Ytbgnhegfabpjnaa
set_option linter.unusedVariables false

theorem rowL_same {f g : Nat → Option Nat} : ∀ (r : List Int), (∀ s ∈ r, s < 0 → f (-1 - s).toNat = g (-1 - s).toNat) → rowL f r = rowL g r
  | [], _ => rfl
  | s :: r, h => by
    have ih := rowL_same r fun x hx => h x (by simp [hx])
    have e : (if s < 0 then f (-1 - s).toNat else some 1) = (if s < 0 then g (-1 - s).toNat else some 1) := by
      by_cases hs : s < 0
      · rw [if_pos hs, if_pos hs]; exact h s (by simp) hs
      · rw [if_neg hs, if_neg hs]
    unfold rowL
    rw [ih, e]
theorem saysL_same {f g : Nat → Option Nat} {n : Nat} : ∀ (ps : List PrS), (∀ p ∈ ps, p.left = n → ∀ s ∈ p.right, s < 0 → f (-1 - s).toNat = g (-1 - s).toNat) → saysL ps f n = saysL ps g n
  | [], _ => rfl
  | q :: ps, h => by
    have ih := saysL_same ps fun p hp => h p (by simp [hp])
    show (if q.left = n then minO (capO (rowL f q.right)) (saysL ps f n) else saysL ps f n) = (if q.left = n then minO (capO (rowL g q.right)) (saysL ps g n) else saysL ps g n)
    by_cases e : q.left = n
    · rw [if_pos e, if_pos e, ih, rowL_same q.right (h q (by simp) e)]
    · rw [if_neg e, if_neg e, ih]
/-- a name stands in a production of another -/
def Dep (ps : List PrS) (m n : Nat) : Prop := ∃ p ∈ ps, p.left = m ∧ ∃ s ∈ p.right, s < 0 ∧ (-1 - s).toNat = n
/-- what holds while names wait -/
structure WkI (ps : List PrS) (N : Nat) (L : List Int) (opn : Nat → Prop) : Prop where
  lens : LenL N L
  sound : SoundL ps (factO L)
  mono : ∀ n, n < N → leO (saysL ps (factO L) n) (factO L n)
  closed : ∀ n, n < N → ¬ opn n → factO L n = saysL ps (factO L) n
theorem WkI.weaken {ps : List PrS} {N : Nat} {L : List Int} {o o' : Nat → Prop} (h : WkI ps N L o) (hw : ∀ n, n < N → o n → o' n) : WkI ps N L o' :=
  ⟨h.lens, h.sound, h.mono, fun n hn ho => h.closed n hn fun h' => ho (hw n hn h')⟩
theorem WkI.start (ps : List PrS) (N : Nat) (L : List Int) (hl : L.length = N) (h : ∀ j, j < N → L.getD j 0 = -1) (o : Nat → Prop) (ho : ∀ n, n < N → o n) : WkI ps N L o := by
  have hs := ShI.start ps N L hl h
  have h' : ∀ n, L.getD n (-1) = -1 := fun n => by
    by_cases hn : n < L.length
    · have := h n (by omega)
      simp [List.getD, hn] at this ⊢; exact this
    · simp [List.getD, List.getElem?_eq_none (Nat.le_of_not_lt hn)]
  have hf : ∀ n, factO L n = none := fun n => by unfold factO; rw [h']; rfl
  exact ⟨⟨hl, hs.lo, hs.hi⟩, hs.sound, fun n _ => by rw [hf]; cases saysL ps (factO L) n <;> trivial, fun n hn hno => absurd (ho n hn) hno⟩
/-- a name that says nothing new -/
theorem WkI.same {ps : List PrS} {N : Nat} {L : List Int} {o o' : Nat → Prop} (h : WkI ps N L o) {n : Nat} (he : factO L n = saysL ps (factO L) n) (hw : ∀ m, m < N → o m → m ≠ n → o' m) : WkI ps N L o' :=
  ⟨h.lens, h.sound, h.mono, fun m hm ho => by
    by_cases e : m = n
    · rw [e]; exact he
    · exact h.closed m hm fun h' => ho (hw m hm h' e)⟩
theorem says_range (ps : List PrS) (f : Nat → Option Nat) (n : Nat) : -1 ≤ codeO (saysL ps f n) ∧ codeO (saysL ps f n) ≤ 1000000 := by
  rcases saysL_of ps f n with e | ⟨p, _, _, e⟩
  · rw [e]; exact ⟨by show (-1 : Int) ≤ -1; omega, by show (-1 : Int) ≤ 1000000; omega⟩
  · rw [e]; exact capO_range _
theorem factO_set {N : Nat} {L : List Int} (hl : L.length = N) {n : Nat} (hn : n < N) (a : Option Nat) (m : Nat) : factO (L.set n (codeO a)) m = if m = n then a else factO L m := by
  unfold factO
  by_cases e : m = n
  · rw [if_pos e, e]
    have : (L.set n (codeO a)).getD n (-1) = codeO a := by simp [List.getD, hl, hn]
    rw [this, codeO_opt]
  · rw [if_neg e]
    have : (L.set n (codeO a)).getD m (-1) = L.getD m (-1) := by
      simp only [List.getD]
      rw [List.getElem?_set_ne (Ne.symm e)]
    rw [this]
theorem sound_says {ps : List PrS} {f : Nat → Option Nat} (hs : SoundL ps f) (n : Nat) : ∃ h, leO (bestH ps h n) (saysL ps f n) := by
  rcases saysL_of ps f n with e | ⟨p, hp, rfl, e⟩
  · exact ⟨0, by rw [e]; cases bestH ps 0 n <;> trivial⟩
  · rw [e]; exact hs.step hp
/-- a name that says something new -/
theorem WkI.set {ps : List PrS} {N : Nat} {L : List Int} {o o' : Nat → Prop} (h : WkI ps N L o) {n : Nat} (hn : n < N) (hw : ∀ m, m < N → o m → m ≠ n → o' m) (hd : ∀ m, m < N → Dep ps m n → o' m) : WkI ps N (L.set n (codeO (saysL ps (factO L) n))) o' := by
  have hf := factO_set h.lens.len hn (saysL ps (factO L) n)
  have hle : ∀ m, leO (factO (L.set n (codeO (saysL ps (factO L) n))) m) (factO L m) := fun m => by
    rw [hf]
    split
    · rename_i e; rw [e]; exact h.mono n hn
    · exact leO.refl _
  have hg : ∀ m, (L.set n (codeO (saysL ps (factO L) n))).getD m (-1) = if m = n then codeO (saysL ps (factO L) n) else L.getD m (-1) := fun m => by
    by_cases e : m = n
    · rw [if_pos e, e]; simp [List.getD, h.lens.len, hn]
    · rw [if_neg e]
      simp only [List.getD]
      rw [List.getElem?_set_ne (Ne.symm e)]
  have hr := says_range ps (factO L) n
  refine ⟨⟨by rw [List.length_set]; exact h.lens.len, fun m => ?_, fun m => ?_⟩, fun m => ?_, fun m hm => ?_, fun m hm ho => ?_⟩
  · rw [hg]; split
    · exact hr.1
    · exact h.lens.lo m
  · rw [hg]; split
    · exact hr.2
    · exact h.lens.hi m
  · rw [hf]; split
    · rename_i e; rw [e]; exact sound_says h.sound n
    · exact h.sound m
  · have h1 := saysL_mono (ps := ps) hle m
    rw [hf]; split
    · rename_i e; rw [e] at h1 ⊢; exact h1
    · exact h1.trans (h.mono m hm)
  · have hsame : saysL ps (factO (L.set n (codeO (saysL ps (factO L) n)))) m = saysL ps (factO L) m := by
      apply saysL_same
      intro p hp hpl s hs hs0
      rw [hf]
      rw [if_neg]
      intro e
      exact ho (hd m hm ⟨p, hp, hpl, s, hs, hs0, e⟩)
    rw [hsame, hf]
    split
    · rename_i e; rw [e]
    · rename_i e
      exact h.closed m hm fun h' => ho (hw m hm h' e)
/-- where nothing waits any more -/
theorem WkI.final {ps : List PrS} {N : Nat} {L : List Int} (h : WkI ps N L fun _ => False) (hN : ∀ p ∈ ps, p.left < N) (n : Nat) : factO L n = bestH ps N n := by
  refine facts_unique (ps := ps) (fun p hp => ?_) h.sound (fun p hp => ?_) (fun m => ⟨N, leO.refl _⟩) n
  · rw [h.closed p.left (hN p hp) (fun h' => h')]
    exact saysL_le hp
  · have e : bestH ps N p.left = saysL ps (bestH ps N) p.left := ((fin_all ps N hN p.left) (N + 1) (by omega)).symm
    rw [e]
    exact saysL_le hp
/-- how much may still be found -/
def rkZ (z : Int) : Nat := if z < 0 then 1000001 else z.toNat
def rkL (L : List Int) : Nat := (L.map rkZ).sum
theorem rkL_set : ∀ (L : List Int) (n : Nat) (z : Int), n < L.length → rkZ z < rkZ (L.getD n (-1)) → rkL (L.set n z) < rkL L
  | [], n, z, hn, _ => by simp at hn
  | x :: L, 0, z, _, h => by
    have : rkZ z < rkZ x := by simpa using h
    show rkZ z + rkL L < rkZ x + rkL L
    omega
  | x :: L, n + 1, z, hn, h => by
    have := rkL_set L n z (by simpa using hn) (by simpa using h)
    show rkZ x + rkL (L.set n z) < rkZ x + rkL L
    omega
theorem rk_less {L : List Int} {n : Nat} {a : Option Nat} (hlo : -1 ≤ L.getD n (-1)) (hhi : L.getD n (-1) ≤ 1000000) (ha : codeO a ≤ 1000000) (h : leO a (factO L n)) (hne : codeO a ≠ L.getD n (-1)) : rkZ (codeO a) < rkZ (L.getD n (-1)) := by
  unfold factO optI at h
  unfold rkZ
  generalize L.getD n (-1) = z at *
  cases a with
  | none =>
    by_cases hz : z < 0
    · exact absurd (show (-1 : Int) = z by omega) hne
    · rw [if_neg hz] at h; exact h.elim
  | some x =>
    have h0 : ¬ (codeO (some x) < 0) := by show ¬ ((x : Int) < 0); omega
    rw [if_neg h0]
    by_cases hz : z < 0
    · rw [if_pos hz]
      have : (codeO (some x)).toNat = x := by show ((x : Int)).toNat = x; simp
      have h2 : (x : Int) ≤ 1000000 := ha
      omega
    · rw [if_neg hz] at h ⊢
      have h2 : x ≤ z.toNat := h
      have h3 : (x : Int) ≠ z := hne
      show ((x : Int)).toNat < z.toNat
      omega

end Go.Proofs.Ytbgnhegfabpjnaa
