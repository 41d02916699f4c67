/- Texts of the proof, put together: GPur, GStab. -/
import Derived.Test.YtkdoghaoijdedaaGreatDoorProg
namespace Go.Proofs.YtkdoghaoijdedaaGreatDoor
set_option linter.unusedVariables false

/-- a production: its name, and its symbols (a name n is -1 - n) -/
structure PrS where
  left : Nat
  right : List Int
/-- how good: none is worst -/
def leO : Option Nat → Option Nat → Prop
  | _, none => True
  | some x, some y => x ≤ y
  | none, some _ => False
theorem leO.refl (a : Option Nat) : leO a a := by cases a <;> simp [leO]
theorem leO.trans {a b c : Option Nat} (h : leO a b) (h' : leO b c) : leO a c := by
  cases a <;> cases b <;> cases c <;> simp [leO] at * <;> omega
theorem leO.antisymm {a b : Option Nat} (h : leO a b) (h' : leO b a) : a = b := by
  cases a <;> cases b <;> simp [leO] at * <;> omega
theorem leO.total (a b : Option Nat) : leO a b ∨ leO b a := by
  cases a <;> cases b <;> simp [leO] <;> omega
/-- the lengths of a row's symbols, added up -/
def rowL (f : Nat → Option Nat) : List Int → Option Nat
  | [] => some 0
  | s :: r =>
    match (if s < 0 then f (-1 - s).toNat else some 1), rowL f r with
    | some a, some b => some (a + b)
    | _, _ => none
def capO (a : Option Nat) : Option Nat := a.map (min · 1000000)
theorem rowL_mono {f g : Nat → Option Nat} (h : ∀ n, leO (f n) (g n)) : ∀ r, leO (rowL f r) (rowL g r)
  | [] => leO.refl _
  | s :: r => by
    have ih := rowL_mono h r
    unfold rowL
    have h1 : leO (if s < 0 then f (-1 - s).toNat else some 1) (if s < 0 then g (-1 - s).toNat else some 1) := by
      split
      · exact h _
      · exact leO.refl _
    generalize (if s < 0 then f (-1 - s).toNat else some 1) = a at *
    generalize (if s < 0 then g (-1 - s).toNat else some 1) = b at *
    generalize rowL f r = c at *
    generalize rowL g r = d at *
    cases a <;> cases b <;> cases c <;> cases d <;> simp [leO] at * <;> omega
theorem capO_mono {a b : Option Nat} (h : leO a b) : leO (capO a) (capO b) := by
  cases a <;> cases b <;> simp [leO, capO] at * <;> omega
/-- the better of two -/
def minO (a b : Option Nat) : Option Nat :=
  match a, b with
  | none, b => b
  | a, none => a
  | some x, some y => some (min x y)
theorem minO_left (a b : Option Nat) : leO (minO a b) a := by cases a <;> cases b <;> simp [leO, minO] <;> omega
theorem minO_right (a b : Option Nat) : leO (minO a b) b := by cases a <;> cases b <;> simp [leO, minO] <;> omega
theorem minO_eq (a b : Option Nat) : minO a b = a ∨ minO a b = b := by
  cases a <;> cases b <;> simp [minO] <;> omega
/-- the best that the productions of a name give -/
def saysL (ps : List PrS) (f : Nat → Option Nat) (n : Nat) : Option Nat :=
  ps.foldr (fun p acc => if p.left = n then minO (capO (rowL f p.right)) acc else acc) none
theorem saysL_le {ps : List PrS} {f : Nat → Option Nat} {p : PrS} (hp : p ∈ ps) : leO (saysL ps f p.left) (capO (rowL f p.right)) := by
  induction ps with
  | nil => cases hp
  | cons q ps ih =>
    show leO (if q.left = p.left then minO (capO (rowL f q.right)) (saysL ps f p.left) else saysL ps f p.left) _
    rcases List.mem_cons.1 hp with rfl | hp
    · rw [if_pos rfl]; exact minO_left _ _
    · split
      · exact (minO_right _ _).trans (ih hp)
      · exact ih hp
theorem saysL_of (ps : List PrS) (f : Nat → Option Nat) (n : Nat) : saysL ps f n = none ∨ ∃ p ∈ ps, p.left = n ∧ saysL ps f n = capO (rowL f p.right) := by
  induction ps with
  | nil => exact .inl rfl
  | cons q ps ih =>
    have e : saysL (q :: ps) f n = if q.left = n then minO (capO (rowL f q.right)) (saysL ps f n) else saysL ps f n := rfl
    have hcase : saysL (q :: ps) f n = saysL ps f n ∨ (q.left = n ∧ saysL (q :: ps) f n = capO (rowL f q.right)) := by
      rw [e]
      split
      · rcases minO_eq (capO (rowL f q.right)) (saysL ps f n) with h | h
        · exact .inr ⟨by assumption, h⟩
        · exact .inl h
      · exact .inl rfl
    rcases hcase with h | ⟨h1, h2⟩
    · rcases ih with ih | ⟨p, hp, hl, he⟩
      · exact .inl (h.trans ih)
      · exact .inr ⟨p, by simp [hp], hl, h.trans he⟩
    · exact .inr ⟨q, by simp, h1, h2⟩
theorem saysL_mono {ps : List PrS} {f g : Nat → Option Nat} (h : ∀ n, leO (f n) (g n)) (n : Nat) : leO (saysL ps f n) (saysL ps g n) := by
  rcases saysL_of ps g n with e | ⟨p, hp, rfl, e⟩
  · rw [e]; cases saysL ps f n <;> simp [leO]
  · rw [e]
    exact (saysL_le hp).trans (capO_mono (rowL_mono h _))
/-- .. by trees of so great a height -/
def bestH (ps : List PrS) : Nat → Nat → Option Nat
  | 0, _ => none
  | h + 1, n => saysL ps (bestH ps h) n
theorem bestH_down (ps : List PrS) : ∀ (h n : Nat), leO (bestH ps (h + 1) n) (bestH ps h n)
  | 0, n => by simp only [bestH]; cases saysL ps (bestH ps 0) n <;> simp [leO]
  | h + 1, n => saysL_mono (fun m => bestH_down ps h m) n
theorem bestH_le (ps : List PrS) {h k : Nat} (hk : h ≤ k) (n : Nat) : leO (bestH ps k n) (bestH ps h n) := by
  induction k with
  | zero => obtain rfl : h = 0 := by omega
            exact leO.refl _
  | succ k ih =>
    by_cases e : h = k + 1
    · subst e; exact leO.refl _
    · exact (bestH_down ps k n).trans (ih (by omega))
/-- facts that follow from trees -/
def SoundL (ps : List PrS) (f : Nat → Option Nat) : Prop := ∀ n, ∃ h, leO (bestH ps h n) (f n)
/-- facts from which nothing better follows -/
def ClosedL (ps : List PrS) (f : Nat → Option Nat) : Prop := ∀ p ∈ ps, leO (f p.left) (capO (rowL f p.right))
theorem ClosedL.le {ps : List PrS} {f : Nat → Option Nat} (hc : ClosedL ps f) : ∀ h n, leO (f n) (bestH ps h n)
  | 0, n => by simp only [bestH]; cases f n <;> simp [leO]
  | h + 1, n => by
    have ih := hc.le h
    show leO (f n) (saysL ps (bestH ps h) n)
    rcases saysL_of ps (bestH ps h) n with e | ⟨p, hp, rfl, e⟩
    · rw [e]; cases f n <;> simp [leO]
    · rw [e]
      exact (hc p hp).trans (capO_mono (rowL_mono ih _))
/-- there is one such list of facts alone -/
theorem facts_unique {ps : List PrS} {f g : Nat → Option Nat} (cf : ClosedL ps f) (sf : SoundL ps f) (cg : ClosedL ps g) (sg : SoundL ps g) : ∀ n, f n = g n := fun n => by
  obtain ⟨h1, e1⟩ := sf n
  obtain ⟨h2, e2⟩ := sg n
  exact leO.antisymm ((cf.le h2 n).trans e2) ((cg.le h1 n).trans e1)
/-- one fact more, out of sound ones -/
theorem SoundL.step {ps : List PrS} {f : Nat → Option Nat} (hs : SoundL ps f) {p : PrS} (hp : p ∈ ps) : ∃ h, leO (bestH ps h p.left) (capO (rowL f p.right)) := by
  have hrow : ∀ r : List Int, ∃ h, leO (rowL (bestH ps h) r) (rowL f r) := by
    intro r
    induction r with
    | nil => exact ⟨0, leO.refl _⟩
    | cons s r ih =>
      obtain ⟨h1, e1⟩ := ih
      obtain ⟨h2, e2⟩ := hs (-1 - s).toNat
      refine ⟨max h1 h2, ?_⟩
      have a1 : leO (rowL (bestH ps (max h1 h2)) r) (rowL f r) := (rowL_mono (fun n => bestH_le ps (Nat.le_max_left h1 h2) n) r).trans e1
      have a2 : leO (if s < 0 then bestH ps (max h1 h2) (-1 - s).toNat else some 1) (if s < 0 then f (-1 - s).toNat else some 1) := by
        split
        · exact (bestH_le ps (Nat.le_max_right h1 h2) _).trans e2
        · exact leO.refl _
      unfold rowL
      generalize (if s < 0 then bestH ps (max h1 h2) (-1 - s).toNat else some 1) = a at *
      generalize (if s < 0 then f (-1 - s).toNat else some 1) = b at *
      generalize rowL (bestH ps (max h1 h2)) r = c at *
      generalize rowL f r = d at *
      cases a <;> cases b <;> cases c <;> cases d <;> simp [leO] at * <;> omega
  obtain ⟨h, e⟩ := hrow p.right
  exact ⟨h + 1, (saysL_le hp).trans (capO_mono e)⟩

end Go.Proofs.YtkdoghaoijdedaaGreatDoor

namespace Go.Proofs.YtkdoghaoijdedaaGreatDoor
set_option linter.unusedVariables false

theorem exists_min (P : Nat → Prop) (f : Nat → Nat) (h : ∃ n, P n) : ∃ n, P n ∧ ∀ m, P m → f n ≤ f m := by
  obtain ⟨n, hn⟩ := h
  have key : ∀ k n, f n = k → P n → ∃ n, P n ∧ ∀ m, P m → f n ≤ f m := by
    intro k
    induction k using Nat.strongRecOn with
    | ind k ih =>
      intro n hk hP
      by_cases hall : ∀ m, P m → f n ≤ f m
      · exact ⟨n, hP, hall⟩
      · have : ∃ m, P m ∧ f m < f n := by
          apply Classical.byContradiction
          intro hno
          exact hall fun m hm => by
            rcases Nat.lt_or_ge (f m) (f n) with hl | hl
            · exact (hno ⟨m, hm, hl⟩).elim
            · exact hl
        obtain ⟨m, hm, hl⟩ := this
        exact ih (f m) (by omega) m rfl hm
  exact key _ n rfl hn
theorem count_less {p q : Nat → Bool} : ∀ (l : List Nat), (∀ x ∈ l, p x = true → q x = true) → (∃ x ∈ l, q x = true ∧ p x = false) → l.countP p + 1 ≤ l.countP q
  | [], _, h => by obtain ⟨x, hx, _⟩ := h; cases hx
  | a :: l, hm, h => by
    have hle : l.countP p ≤ l.countP q := List.countP_mono_left fun x hx hp => hm x (by simp [hx]) hp
    rw [List.countP_cons, List.countP_cons]
    obtain ⟨x, hx, h1, h2⟩ := h
    rcases List.mem_cons.1 hx with rfl | hx
    · rw [h1, h2]; simp; omega
    · have ih := count_less l (fun x hx => hm x (by simp [hx])) ⟨x, hx, h1, h2⟩
      cases hpa : p a
      · simp; split <;> omega
      · rw [hm a (by simp) hpa]; simp; omega
theorem count_all {p : Nat → Bool} : ∀ (l : List Nat), l.length ≤ l.countP p → ∀ x ∈ l, p x = true
  | [], _, x, hx => by cases hx
  | a :: l, h, x, hx => by
    rw [List.countP_cons] at h
    have hl : l.countP p ≤ l.length := List.countP_le_length
    have ha : p a = true := by
      cases hpa : p a
      · rw [hpa] at h; simp at h; omega
      · rfl
    rcases List.mem_cons.1 hx with rfl | hx
    · exact ha
    · exact count_all l (by rw [ha] at h; simp at h; omega) x hx

def keyO : Option Nat → Nat
  | none => 1000001
  | some x => x
theorem bestH_cap (ps : List PrS) : ∀ (h n x : Nat), bestH ps h n = some x → x ≤ 1000000
  | 0, n, x, e => by cases e
  | h + 1, n, x, e => by
    rcases saysL_of ps (bestH ps h) n with e' | ⟨p, _, _, e'⟩
    · rw [show bestH ps (h + 1) n = saysL ps (bestH ps h) n from rfl, e'] at e; cases e
    · rw [show bestH ps (h + 1) n = saysL ps (bestH ps h) n from rfl, e'] at e
      cases hr : rowL (bestH ps h) p.right with
      | none => rw [hr] at e; cases e
      | some y => rw [hr] at e; simp [capO] at e; omega
theorem key_le {ps : List PrS} {h k n m : Nat} : leO (bestH ps h n) (bestH ps k m) → keyO (bestH ps h n) ≤ keyO (bestH ps k m) := fun hl => by
  have h1 := bestH_cap ps h n
  have h2 := bestH_cap ps k m
  cases ha : bestH ps h n <;> cases hb : bestH ps k m <;> rw [ha, hb] at hl <;> simp [leO, keyO] at *
  · exact Nat.le_succ_of_le (h1 _ ha)
  · exact hl
theorem key_eq {ps : List PrS} {h k n m : Nat} (hk : keyO (bestH ps h n) = keyO (bestH ps k m)) : bestH ps h n = bestH ps k m := by
  have h1 := bestH_cap ps h n
  have h2 := bestH_cap ps k m
  cases ha : bestH ps h n <;> cases hb : bestH ps k m <;> rw [ha, hb] at hk <;> simp [keyO] at *
  · have := h2 _ hb; omega
  · have := h1 _ ha; omega
  · exact hk

/-- nothing better comes of greater trees -/
def Fin_ (ps : List PrS) (h n : Nat) : Prop := ∀ k, h ≤ k → bestH ps k n = bestH ps h n
theorem Fin_.more {ps : List PrS} {h k n : Nat} (hf : Fin_ ps h n) (hk : h ≤ k) : Fin_ ps k n := fun j hj => (hf j (by omega)).trans (hf k hk).symm
theorem fin_some (ps : List PrS) (n : Nat) : ∃ h, Fin_ ps h n := by
  obtain ⟨h, _, hm⟩ := exists_min (fun _ => True) (fun h => keyO (bestH ps h n)) ⟨0, trivial⟩
  refine ⟨h, fun k hk => key_eq (Nat.le_antisymm (key_le (bestH_le ps hk n)) (hm k trivial))⟩
theorem fin_least (ps : List PrS) (n : Nat) : ∃ h, Fin_ ps h n ∧ ∀ k, Fin_ ps k n → h ≤ k := exists_min (fun h => Fin_ ps h n) id (fin_some ps n)
theorem rowL_part {f : Nat → Option Nat} : ∀ (r : List Int) (x : Nat), rowL f r = some x → ∀ s ∈ r, s < 0 → ∃ y, f (-1 - s).toNat = some y ∧ y ≤ x
  | [], x, _, s, hs, _ => by cases hs
  | a :: r, x, e, s, hs, hn => by
    unfold rowL at e
    generalize hA : (if a < 0 then f (-1 - a).toNat else some 1) = A at e
    cases A with
    | none => cases e
    | some y =>
      cases hR : rowL f r with
      | none => rw [hR] at e; cases e
      | some z =>
        rw [hR] at e
        simp only [Option.some.injEq] at e
        rcases List.mem_cons.1 hs with rfl | hs
        · rw [if_pos hn] at hA
          exact ⟨y, hA, by omega⟩
        · obtain ⟨w, h1, h2⟩ := rowL_part r z hR s hs hn
          exact ⟨w, h1, by omega⟩
theorem rowL_congr {f g : Nat → Option Nat} : ∀ (r : List Int), (∀ s ∈ r, s < 0 → leO (f (-1 - s).toNat) (g (-1 - s).toNat)) → leO (rowL f r) (rowL g r)
  | [], _ => leO.refl _
  | s :: r, h => by
    have ih := rowL_congr r fun x hx => h x (by simp [hx])
    unfold rowL
    have h1 : leO (if s < 0 then f (-1 - s).toNat else some 1) (if s < 0 then g (-1 - s).toNat else some 1) := by
      split
      · exact h s (by simp) (by assumption)
      · exact leO.refl _
    generalize (if s < 0 then f (-1 - s).toNat else some 1) = a at *
    generalize (if s < 0 then g (-1 - s).toNat else some 1) = b at *
    generalize rowL f r = c at *
    generalize rowL g r = d at *
    cases a <;> cases b <;> cases c <;> cases d <;> simp [leO] at * <;> omega

/-- where something is still to come, one name more is at its end in the next round -/
theorem fin_next (ps : List PrS) (h : Nat) (hno : ∃ n, ¬ Fin_ ps h n) : ∃ n, ¬ Fin_ ps h n ∧ Fin_ ps (h + 1) n := by
  obtain ⟨τ, hτ⟩ := Classical.axiomOfChoice (fin_least ps)
  obtain ⟨n0, hn0, hm0⟩ := exists_min (fun n => ¬ Fin_ ps h n) (fun n => keyO (bestH ps (τ n) n)) hno
  obtain ⟨n, ⟨hn, hkn⟩, hmn⟩ := exists_min (fun n => ¬ Fin_ ps h n ∧ keyO (bestH ps (τ n) n) = keyO (bestH ps (τ n0) n0)) τ ⟨n0, hn0, rfl⟩
  refine ⟨n, hn, ?_⟩
  have hτh : h < τ n := by
    rcases Nat.lt_or_ge h (τ n) with hl | hl
    · exact hl
    · exact (hn ((hτ n).1.more hl)).elim
  obtain ⟨t, ht⟩ : ∃ t, τ n = t + 1 := ⟨τ n - 1, by omega⟩
  have hval : bestH ps (τ n) n = saysL ps (bestH ps t) n := by rw [ht]; rfl
  have hlast : leO (bestH ps (h + 1) n) (bestH ps (τ n) n) := by
    rw [hval]
    rcases saysL_of ps (bestH ps t) n with e | ⟨p, hp, rfl, e⟩
    · rw [e]; cases bestH ps (h + 1) n <;> simp [leO]
    · rw [e]
      refine (saysL_le hp).trans (capO_mono (rowL_congr _ fun s hs hs0 => ?_))
      -- a name of the row
      cases hr : rowL (bestH ps t) p.right with
      | none =>
        -- then nothing is told of n at all, so it was at its end from the first
        exfalso
        rw [hr] at e
        have hnone : bestH ps (τ p.left) p.left = none := by rw [hval, e]; rfl
        refine hn fun k hk => ?_
        have h1 : bestH ps h p.left = none := by
          have := bestH_le ps (show h ≤ τ p.left by omega) p.left
          rw [hnone] at this
          cases hb : bestH ps h p.left with
          | none => rfl
          | some x => rw [hb] at this; simp [leO] at this
        have h2 : bestH ps k p.left = none := by
          by_cases hkt : k ≤ τ p.left
          · have := bestH_le ps hkt p.left
            rw [hnone] at this
            cases hb : bestH ps k p.left with
            | none => rfl
            | some x => rw [hb] at this; simp [leO] at this
          · rw [(hτ p.left).1 k (by omega), hnone]
        rw [h1, h2]
      | some x =>
        obtain ⟨y, hy, hyx⟩ := rowL_part p.right x hr s hs hs0
        generalize hm : (-1 - s).toNat = m at *
        -- either it is at its end, or it is as good and came earlier
        by_cases hfm : Fin_ ps h m
        · have : bestH ps (max h t) m = bestH ps h m := hfm _ (Nat.le_max_left _ _)
          rw [← this]
          exact bestH_le ps (Nat.le_max_right _ _) m
        · exfalso
          have hcapy := bestH_cap ps t m y hy
          have hve : bestH ps (τ p.left) p.left = some (min x 1000000) := by rw [hval, e, hr]; rfl
          have hkm : keyO (bestH ps (τ m) m) ≤ y := by
            have h1 : leO (bestH ps (τ m) m) (bestH ps t m) := by
              have : bestH ps (max (τ m) t) m = bestH ps (τ m) m := (hτ m).1 _ (Nat.le_max_left _ _)
              rw [← this]
              exact bestH_le ps (Nat.le_max_right _ _) m
            have := key_le h1
            rw [hy] at this
            exact this
          have hmin := hm0 m hfm
          rw [← hkn, hve] at hmin
          have hk1 : keyO (some (min x 1000000)) = min x 1000000 := rfl
          rw [hk1] at hmin
          have hkeq : keyO (bestH ps (τ m) m) = keyO (bestH ps (τ n0) n0) := by rw [← hkn, hve, hk1]; omega
          have hτm := hmn m ⟨hfm, hkeq⟩
          -- but the value was there at t
          have hft : Fin_ ps t m := fun k hk => by
            have h1 : keyO (bestH ps t m) = y := by rw [hy]; rfl
            have h2 : y = keyO (bestH ps (τ m) m) := by
              have := hkeq.trans (by rw [← hkn, hve, hk1] : keyO (bestH ps (τ n0) n0) = min x 1000000)
              omega
            have h3 : bestH ps t m = bestH ps (τ m) m := key_eq (by omega)
            have h4 := bestH_le ps hk m
            have h5 : leO (bestH ps (τ m) m) (bestH ps k m) := by
              have : bestH ps (max (τ m) k) m = bestH ps (τ m) m := (hτ m).1 _ (Nat.le_max_left _ _)
              rw [← this]
              exact bestH_le ps (Nat.le_max_right _ _) m
            exact leO.antisymm h4 (h3 ▸ h5)
          have := (hτ m).2 t hft
          omega
  intro k hk
  have h1 : leO (bestH ps (τ n) n) (bestH ps k n) := by
    have : bestH ps (max (τ n) k) n = bestH ps (τ n) n := (hτ n).1 _ (Nat.le_max_left _ _)
    rw [← this]
    exact bestH_le ps (Nat.le_max_right _ _) n
  exact leO.antisymm (bestH_le ps hk n) (hlast.trans h1)

/-- as many rounds as there are names -/
theorem fin_all (ps : List PrS) (N : Nat) (hN : ∀ p ∈ ps, p.left < N) : ∀ n, Fin_ ps N n := by
  classical
  have hout : ∀ h n, N ≤ n → bestH ps h n = none := by
    intro h n hn
    cases h with
    | zero => rfl
    | succ h =>
      rcases saysL_of ps (bestH ps h) n with e | ⟨p, hp, hl, _⟩
      · exact e
      · have := hN p hp; omega
  have hge : ∀ h, (∀ n, Fin_ ps h n) ∨ h ≤ (List.range N).countP fun n => decide (Fin_ ps h n) := by
    intro h
    induction h with
    | zero => exact .inr (Nat.zero_le _)
    | succ h ih =>
      by_cases hall : ∀ n, Fin_ ps h n
      · exact .inl fun n => (hall n).more (by omega)
      · right
        have hno : ∃ n, ¬ Fin_ ps h n := Classical.not_forall.1 hall
        obtain ⟨n, h1, h2⟩ := fin_next ps h hno
        have hn : n < N := by
          rcases Nat.lt_or_ge n N with hl | hl
          · exact hl
          · exact (h1 fun k _ => (hout k n hl).trans (hout h n hl).symm).elim
        have h3 := ih.resolve_left hall
        have := count_less (p := fun n => decide (Fin_ ps h n)) (q := fun n => decide (Fin_ ps (h + 1) n)) (List.range N) (fun x _ hx => by simpa using (of_decide_eq_true hx : Fin_ ps h x).more (by omega)) ⟨n, by simp [hn], by simpa using h2, by simpa using h1⟩
        omega
  intro n
  rcases hge N with h | h
  · exact h n
  · rcases Nat.lt_or_ge n N with hl | hl
    · have := count_all (List.range N) (by simpa using h) n (by simp [hl])
      simpa using this
    · exact fun k _ => (hout k n hl).trans (hout N n hl).symm

end Go.Proofs.YtkdoghaoijdedaaGreatDoor
