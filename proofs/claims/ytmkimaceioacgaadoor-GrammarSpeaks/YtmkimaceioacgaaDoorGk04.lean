/- Texts of the proof, put together: GStab, GShP. -/
import Derived.Test.YtmkimaceioacgaaDoorGk03
import Derived.Test.YtmkimaceioacgaaDoorGk01
namespace Go.Proofs.YtmkimaceioacgaaDoor
set_option linter.unusedVariables false

theorem exists_min (P : Nat → Prop) (f : Nat → Nat) (h : ∃ n, P n) : ∃ n, P n ∧ ∀ m, P m → f n ≤ f m := by
  obtain ⟨n, hn⟩ := h
  have key : ∀ k n, f n = k → P n → ∃ n, P n ∧ ∀ m, P m → f n ≤ f m := by
    intro k
    induction k using Nat.strongRecOn with
    | ind k ih =>
      intro n hk hP
      by_cases hall : ∀ m, P m → f n ≤ f m
      · exact ⟨n, hP, hall⟩
      · have : ∃ m, P m ∧ f m < f n := by
          apply Classical.byContradiction
          intro hno
          exact hall fun m hm => by
            rcases Nat.lt_or_ge (f m) (f n) with hl | hl
            · exact (hno ⟨m, hm, hl⟩).elim
            · exact hl
        obtain ⟨m, hm, hl⟩ := this
        exact ih (f m) (by omega) m rfl hm
  exact key _ n rfl hn
theorem count_less {p q : Nat → Bool} : ∀ (l : List Nat), (∀ x ∈ l, p x = true → q x = true) → (∃ x ∈ l, q x = true ∧ p x = false) → l.countP p + 1 ≤ l.countP q
  | [], _, h => by obtain ⟨x, hx, _⟩ := h; cases hx
  | a :: l, hm, h => by
    have hle : l.countP p ≤ l.countP q := List.countP_mono_left fun x hx hp => hm x (by simp [hx]) hp
    rw [List.countP_cons, List.countP_cons]
    obtain ⟨x, hx, h1, h2⟩ := h
    rcases List.mem_cons.1 hx with rfl | hx
    · rw [h1, h2]; simp; omega
    · have ih := count_less l (fun x hx => hm x (by simp [hx])) ⟨x, hx, h1, h2⟩
      cases hpa : p a
      · simp; split <;> omega
      · rw [hm a (by simp) hpa]; simp; omega
theorem count_all {p : Nat → Bool} : ∀ (l : List Nat), l.length ≤ l.countP p → ∀ x ∈ l, p x = true
  | [], _, x, hx => by cases hx
  | a :: l, h, x, hx => by
    rw [List.countP_cons] at h
    have hl : l.countP p ≤ l.length := List.countP_le_length
    have ha : p a = true := by
      cases hpa : p a
      · rw [hpa] at h; simp at h; omega
      · rfl
    rcases List.mem_cons.1 hx with rfl | hx
    · exact ha
    · exact count_all l (by rw [ha] at h; simp at h; omega) x hx

def keyO : Option Nat → Nat
  | none => 1000001
  | some x => x
theorem bestH_cap (ps : List PrS) : ∀ (h n x : Nat), bestH ps h n = some x → x ≤ 1000000
  | 0, n, x, e => by cases e
  | h + 1, n, x, e => by
    rcases saysL_of ps (bestH ps h) n with e' | ⟨p, _, _, e'⟩
    · rw [show bestH ps (h + 1) n = saysL ps (bestH ps h) n from rfl, e'] at e; cases e
    · rw [show bestH ps (h + 1) n = saysL ps (bestH ps h) n from rfl, e'] at e
      cases hr : rowL (bestH ps h) p.right with
      | none => rw [hr] at e; cases e
      | some y => rw [hr] at e; simp [capO] at e; omega
theorem key_le {ps : List PrS} {h k n m : Nat} : leO (bestH ps h n) (bestH ps k m) → keyO (bestH ps h n) ≤ keyO (bestH ps k m) := fun hl => by
  have h1 := bestH_cap ps h n
  have h2 := bestH_cap ps k m
  cases ha : bestH ps h n <;> cases hb : bestH ps k m <;> rw [ha, hb] at hl <;> simp [leO, keyO] at *
  · exact Nat.le_succ_of_le (h1 _ ha)
  · exact hl
theorem key_eq {ps : List PrS} {h k n m : Nat} (hk : keyO (bestH ps h n) = keyO (bestH ps k m)) : bestH ps h n = bestH ps k m := by
  have h1 := bestH_cap ps h n
  have h2 := bestH_cap ps k m
  cases ha : bestH ps h n <;> cases hb : bestH ps k m <;> rw [ha, hb] at hk <;> simp [keyO] at *
  · have := h2 _ hb; omega
  · have := h1 _ ha; omega
  · exact hk

/-- nothing better comes of greater trees -/
def Fin_ (ps : List PrS) (h n : Nat) : Prop := ∀ k, h ≤ k → bestH ps k n = bestH ps h n
theorem Fin_.more {ps : List PrS} {h k n : Nat} (hf : Fin_ ps h n) (hk : h ≤ k) : Fin_ ps k n := fun j hj => (hf j (by omega)).trans (hf k hk).symm
theorem fin_some (ps : List PrS) (n : Nat) : ∃ h, Fin_ ps h n := by
  obtain ⟨h, _, hm⟩ := exists_min (fun _ => True) (fun h => keyO (bestH ps h n)) ⟨0, trivial⟩
  refine ⟨h, fun k hk => key_eq (Nat.le_antisymm (key_le (bestH_le ps hk n)) (hm k trivial))⟩
theorem fin_least (ps : List PrS) (n : Nat) : ∃ h, Fin_ ps h n ∧ ∀ k, Fin_ ps k n → h ≤ k := exists_min (fun h => Fin_ ps h n) id (fin_some ps n)
theorem rowL_part {f : Nat → Option Nat} : ∀ (r : List Int) (x : Nat), rowL f r = some x → ∀ s ∈ r, s < 0 → ∃ y, f (-1 - s).toNat = some y ∧ y ≤ x
  | [], x, _, s, hs, _ => by cases hs
  | a :: r, x, e, s, hs, hn => by
    unfold rowL at e
    generalize hA : (if a < 0 then f (-1 - a).toNat else some 1) = A at e
    cases A with
    | none => cases e
    | some y =>
      cases hR : rowL f r with
      | none => rw [hR] at e; cases e
      | some z =>
        rw [hR] at e
        simp only [Option.some.injEq] at e
        rcases List.mem_cons.1 hs with rfl | hs
        · rw [if_pos hn] at hA
          exact ⟨y, hA, by omega⟩
        · obtain ⟨w, h1, h2⟩ := rowL_part r z hR s hs hn
          exact ⟨w, h1, by omega⟩
theorem rowL_congr {f g : Nat → Option Nat} : ∀ (r : List Int), (∀ s ∈ r, s < 0 → leO (f (-1 - s).toNat) (g (-1 - s).toNat)) → leO (rowL f r) (rowL g r)
  | [], _ => leO.refl _
  | s :: r, h => by
    have ih := rowL_congr r fun x hx => h x (by simp [hx])
    unfold rowL
    have h1 : leO (if s < 0 then f (-1 - s).toNat else some 1) (if s < 0 then g (-1 - s).toNat else some 1) := by
      split
      · exact h s (by simp) (by assumption)
      · exact leO.refl _
    generalize (if s < 0 then f (-1 - s).toNat else some 1) = a at *
    generalize (if s < 0 then g (-1 - s).toNat else some 1) = b at *
    generalize rowL f r = c at *
    generalize rowL g r = d at *
    cases a <;> cases b <;> cases c <;> cases d <;> simp [leO] at * <;> omega

/-- where something is still to come, one name more is at its end in the next round -/
theorem fin_next (ps : List PrS) (h : Nat) (hno : ∃ n, ¬ Fin_ ps h n) : ∃ n, ¬ Fin_ ps h n ∧ Fin_ ps (h + 1) n := by
  obtain ⟨τ, hτ⟩ := Classical.axiomOfChoice (fin_least ps)
  obtain ⟨n0, hn0, hm0⟩ := exists_min (fun n => ¬ Fin_ ps h n) (fun n => keyO (bestH ps (τ n) n)) hno
  obtain ⟨n, ⟨hn, hkn⟩, hmn⟩ := exists_min (fun n => ¬ Fin_ ps h n ∧ keyO (bestH ps (τ n) n) = keyO (bestH ps (τ n0) n0)) τ ⟨n0, hn0, rfl⟩
  refine ⟨n, hn, ?_⟩
  have hτh : h < τ n := by
    rcases Nat.lt_or_ge h (τ n) with hl | hl
    · exact hl
    · exact (hn ((hτ n).1.more hl)).elim
  obtain ⟨t, ht⟩ : ∃ t, τ n = t + 1 := ⟨τ n - 1, by omega⟩
  have hval : bestH ps (τ n) n = saysL ps (bestH ps t) n := by rw [ht]; rfl
  have hlast : leO (bestH ps (h + 1) n) (bestH ps (τ n) n) := by
    rw [hval]
    rcases saysL_of ps (bestH ps t) n with e | ⟨p, hp, rfl, e⟩
    · rw [e]; cases bestH ps (h + 1) n <;> simp [leO]
    · rw [e]
      refine (saysL_le hp).trans (capO_mono (rowL_congr _ fun s hs hs0 => ?_))
      -- a name of the row
      cases hr : rowL (bestH ps t) p.right with
      | none =>
        -- then nothing is told of n at all, so it was at its end from the first
        exfalso
        rw [hr] at e
        have hnone : bestH ps (τ p.left) p.left = none := by rw [hval, e]; rfl
        refine hn fun k hk => ?_
        have h1 : bestH ps h p.left = none := by
          have := bestH_le ps (show h ≤ τ p.left by omega) p.left
          rw [hnone] at this
          cases hb : bestH ps h p.left with
          | none => rfl
          | some x => rw [hb] at this; simp [leO] at this
        have h2 : bestH ps k p.left = none := by
          by_cases hkt : k ≤ τ p.left
          · have := bestH_le ps hkt p.left
            rw [hnone] at this
            cases hb : bestH ps k p.left with
            | none => rfl
            | some x => rw [hb] at this; simp [leO] at this
          · rw [(hτ p.left).1 k (by omega), hnone]
        rw [h1, h2]
      | some x =>
        obtain ⟨y, hy, hyx⟩ := rowL_part p.right x hr s hs hs0
        generalize hm : (-1 - s).toNat = m at *
        -- either it is at its end, or it is as good and came earlier
        by_cases hfm : Fin_ ps h m
        · have : bestH ps (max h t) m = bestH ps h m := hfm _ (Nat.le_max_left _ _)
          rw [← this]
          exact bestH_le ps (Nat.le_max_right _ _) m
        · exfalso
          have hcapy := bestH_cap ps t m y hy
          have hve : bestH ps (τ p.left) p.left = some (min x 1000000) := by rw [hval, e, hr]; rfl
          have hkm : keyO (bestH ps (τ m) m) ≤ y := by
            have h1 : leO (bestH ps (τ m) m) (bestH ps t m) := by
              have : bestH ps (max (τ m) t) m = bestH ps (τ m) m := (hτ m).1 _ (Nat.le_max_left _ _)
              rw [← this]
              exact bestH_le ps (Nat.le_max_right _ _) m
            have := key_le h1
            rw [hy] at this
            exact this
          have hmin := hm0 m hfm
          rw [← hkn, hve] at hmin
          have hk1 : keyO (some (min x 1000000)) = min x 1000000 := rfl
          rw [hk1] at hmin
          have hkeq : keyO (bestH ps (τ m) m) = keyO (bestH ps (τ n0) n0) := by rw [← hkn, hve, hk1]; omega
          have hτm := hmn m ⟨hfm, hkeq⟩
          -- but the value was there at t
          have hft : Fin_ ps t m := fun k hk => by
            have h1 : keyO (bestH ps t m) = y := by rw [hy]; rfl
            have h2 : y = keyO (bestH ps (τ m) m) := by
              have := hkeq.trans (by rw [← hkn, hve, hk1] : keyO (bestH ps (τ n0) n0) = min x 1000000)
              omega
            have h3 : bestH ps t m = bestH ps (τ m) m := key_eq (by omega)
            have h4 := bestH_le ps hk m
            have h5 : leO (bestH ps (τ m) m) (bestH ps k m) := by
              have : bestH ps (max (τ m) k) m = bestH ps (τ m) m := (hτ m).1 _ (Nat.le_max_left _ _)
              rw [← this]
              exact bestH_le ps (Nat.le_max_right _ _) m
            exact leO.antisymm h4 (h3 ▸ h5)
          have := (hτ m).2 t hft
          omega
  intro k hk
  have h1 : leO (bestH ps (τ n) n) (bestH ps k n) := by
    have : bestH ps (max (τ n) k) n = bestH ps (τ n) n := (hτ n).1 _ (Nat.le_max_left _ _)
    rw [← this]
    exact bestH_le ps (Nat.le_max_right _ _) n
  exact leO.antisymm (bestH_le ps hk n) (hlast.trans h1)

/-- as many rounds as there are names -/
theorem fin_all (ps : List PrS) (N : Nat) (hN : ∀ p ∈ ps, p.left < N) : ∀ n, Fin_ ps N n := by
  classical
  have hout : ∀ h n, N ≤ n → bestH ps h n = none := by
    intro h n hn
    cases h with
    | zero => rfl
    | succ h =>
      rcases saysL_of ps (bestH ps h) n with e | ⟨p, hp, hl, _⟩
      · exact e
      · have := hN p hp; omega
  have hge : ∀ h, (∀ n, Fin_ ps h n) ∨ h ≤ (List.range N).countP fun n => decide (Fin_ ps h n) := by
    intro h
    induction h with
    | zero => exact .inr (Nat.zero_le _)
    | succ h ih =>
      by_cases hall : ∀ n, Fin_ ps h n
      · exact .inl fun n => (hall n).more (by omega)
      · right
        have hno : ∃ n, ¬ Fin_ ps h n := Classical.not_forall.1 hall
        obtain ⟨n, h1, h2⟩ := fin_next ps h hno
        have hn : n < N := by
          rcases Nat.lt_or_ge n N with hl | hl
          · exact hl
          · exact (h1 fun k _ => (hout k n hl).trans (hout h n hl).symm).elim
        have h3 := ih.resolve_left hall
        have := count_less (p := fun n => decide (Fin_ ps h n)) (q := fun n => decide (Fin_ ps (h + 1) n)) (List.range N) (fun x _ hx => by simpa using (of_decide_eq_true hx : Fin_ ps h x).more (by omega)) ⟨n, by simp [hn], by simpa using h2, by simpa using h1⟩
        omega
  intro n
  rcases hge N with h | h
  · exact h n
  · rcases Nat.lt_or_ge n N with hl | hl
    · have := count_all (List.range N) (by simpa using h) n (by simp [hl])
      simpa using this
    · exact fun k _ => (hout k n hl).trans (hout N n hl).symm

end Go.Proofs.YtmkimaceioacgaaDoor

namespace Go.Proofs.YtmkimaceioacgaaDoor
set_option linter.unusedVariables false

def optI (z : Int) : Option Nat := if z < 0 then none else some z.toNat
def codeO : Option Nat → Int
  | none => -1
  | some x => x
def factO (L : List Int) (n : Nat) : Option Nat := optI (L.getD n (-1))
def prS (p : PdR) : PrS := ⟨p.left.toNat, p.right⟩
def prsS (ps : List PdR) : List PrS := ps.map prS
theorem rowL_snoc (f : Nat → Option Nat) (s : Int) : ∀ r, rowL f (r ++ [s]) = match rowL f r, (if s < 0 then f (-1 - s).toNat else some 1) with
    | some a, some b => some (a + b)
    | _, _ => none
  | [] => by
    simp only [List.nil_append, rowL]
    generalize (if s < 0 then f (-1 - s).toNat else some 1) = a
    cases a <;> simp
  | q :: r => by
    have ih := rowL_snoc f s r
    simp only [List.cons_append, rowL, ih]
    generalize (if s < 0 then f (-1 - s).toNat else some 1) = a
    generalize (if q < 0 then f (-1 - q).toNat else some 1) = b
    generalize rowL f r = c
    cases a <;> cases b <;> cases c <;> simp <;> omega
theorem rowL_none (f : Nat → Option Nat) (r' : List Int) : ∀ r, rowL f r = none → rowL f (r ++ r') = none
  | [], h => by simp [rowL] at h
  | s :: r, h => by
    simp only [List.cons_append, rowL] at *
    generalize (if s < 0 then f (-1 - s).toNat else some 1) = a at *
    cases hr : rowL f r with
    | none => rw [rowL_none f r' r hr]; cases a <;> rfl
    | some c => rw [hr] at h; cases a <;> simp at h ⊢
/-- so far along a row -/
def rowZ (L : List Int) (r : List Int) (k : Nat) : Int := codeO (capO (rowL (factO L) (r.take k)))
theorem rowZ_zero (L r : List Int) : rowZ L r 0 = 0 := by simp [rowZ, rowL, capO, codeO]
theorem rowZ_range (L r : List Int) (k : Nat) : -1 ≤ rowZ L r k ∧ rowZ L r k ≤ 1000000 := by
  unfold rowZ capO codeO
  cases rowL (factO L) (r.take k) <;> simp <;> omega
theorem rowZ_end (L r : List Int) (k : Nat) (h : rowZ L r k < 0) : rowZ L r r.length = -1 := by
  have h0 : rowL (factO L) (r.take k) = none := by
    unfold rowZ capO codeO at h
    cases e : rowL (factO L) (r.take k) with
    | none => rfl
    | some x => rw [e] at h; simp at h; omega
  have := rowL_none (factO L) (r.drop k) _ h0
  rw [List.take_append_drop] at this
  unfold rowZ
  rw [List.take_length, this]; rfl
theorem rowZ_step (L r : List Int) (k : Nat) (hk : k < r.length) (h : 0 ≤ rowZ L r k) : rowZ L r (k + 1) = (let m := if r.getD k 0 < 0 then (L.getD (-1 - r.getD k 0).toNat (-1)) else 1; if m < 0 then -1 else min (rowZ L r k + m) 1000000) := by
  unfold rowZ at *
  rw [List.take_succ_eq_append_getElem hk, rowL_snoc]
  have e : r.getD k 0 = r[k] := by simp [List.getD, hk]
  rw [e]
  cases hx : rowL (factO L) (r.take k) with
  | none => rw [hx] at h; simp [capO, codeO] at h
  | some x =>
    by_cases hs : r[k] < 0
    · simp only [hs, if_true]
      unfold factO optI
      generalize L.getD (-1 - r[k]).toNat (-1) = z
      by_cases hz : z < 0
      · simp [hz, capO, codeO]
      · simp [hz, capO, codeO]; omega
    · simp [hs, capO, codeO]; omega

/-- what holds of the lengths within a round -/
structure ShI (ps : List PrS) (N r i : Nat) (L : List Int) : Prop where
  len : L.length = N
  lo : ∀ n, -1 ≤ L.getD n (-1)
  hi : ∀ n, L.getD n (-1) ≤ 1000000
  sound : SoundL ps (factO L)
  le : ∀ n, leO (factO L n) (bestH ps r n)
  done : ∀ p ∈ ps.take i, leO (factO L p.left) (capO (rowL (bestH ps r) p.right))
theorem ShI.start (ps : List PrS) (N : Nat) (L : List Int) (hl : L.length = N) (h : ∀ j, j < N → L.getD j 0 = -1) : ShI ps N 0 0 L := by
  have h' : ∀ n, L.getD n (-1) = -1 := fun n => by
    by_cases hn : n < L.length
    · have := h n (by omega)
      simp [List.getD, hn] at this ⊢; exact this
    · simp [List.getD, List.getElem?_eq_none (Nat.le_of_not_lt hn)]
  have hf : ∀ n, factO L n = none := fun n => by unfold factO; rw [h']; rfl
  exact ⟨hl, fun n => by rw [h']; omega, fun n => by rw [h']; omega, fun n => ⟨0, by rw [hf]; cases bestH ps 0 n <;> simp [leO]⟩, fun n => by rw [hf]; exact leO.refl _, fun p hp => by simp at hp⟩
theorem ShI.next {ps : List PrS} {N r : Nat} {L : List Int} (h : ShI ps N r ps.length L) : ShI ps N (r + 1) 0 L := by
  refine ⟨h.len, h.lo, h.hi, h.sound, fun n => ?_, fun p hp => by simp at hp⟩
  show leO (factO L n) (saysL ps (bestH ps r) n)
  rcases saysL_of ps (bestH ps r) n with e | ⟨p, hp, rfl, e⟩
  · rw [e]; cases factO L n <;> simp [leO]
  · rw [e]; exact h.done p (by rw [List.take_length]; exact hp)
theorem codeO_opt (a : Option Nat) : optI (codeO a) = a := by
  cases a with
  | none => simp [codeO, optI]
  | some x => show (if (x : Int) < 0 then none else some (x : Int).toNat) = some x; rw [if_neg (by omega)]; simp
/-- the production's own length, where it is no better -/
theorem ShI.stay {ps : List PrS} {N r i : Nat} {L : List Int} (h : ShI ps N r i L) {p : PrS} (hp : ps[i]? = some p) (hno : leO (factO L p.left) (capO (rowL (factO L) p.right))) : ShI ps N r (i + 1) L := by
  have hi : i < ps.length := (List.getElem?_eq_some_iff.1 hp).1
  refine ⟨h.len, h.lo, h.hi, h.sound, h.le, fun q hq => ?_⟩
  rw [List.take_succ_eq_append_getElem hi] at hq
  rcases List.mem_append.1 hq with hq | hq
  · exact h.done q hq
  · have e : q = p := by
      have h1 := (List.getElem?_eq_some_iff.1 hp).2
      simp at hq; rw [hq, h1]
    subst e
    exact hno.trans (capO_mono (rowL_mono h.le _))
/-- .. and where it is better -/
theorem ShI.set {ps : List PrS} {N r i : Nat} {L : List Int} (h : ShI ps N r i L) {p : PrS} (hp : ps[i]? = some p) (hl : p.left < N) (hbet : leO (capO (rowL (factO L) p.right)) (factO L p.left)) : ShI ps N r (i + 1) (L.set p.left (codeO (capO (rowL (factO L) p.right)))) := by
  have hi : i < ps.length := (List.getElem?_eq_some_iff.1 hp).1
  have hpm : p ∈ ps := List.mem_of_getElem? hp
  have hg : ∀ n, (L.set p.left (codeO (capO (rowL (factO L) p.right)))).getD n (-1) = if n = p.left then codeO (capO (rowL (factO L) p.right)) else L.getD n (-1) := fun n => by
    by_cases e : n = p.left
    · subst e; simp [List.getD, h.len, hl]
    · rw [if_neg e]
      simp only [List.getD]
      rw [List.getElem?_set_ne (Ne.symm e)]
  have hf : ∀ n, factO (L.set p.left (codeO (capO (rowL (factO L) p.right)))) n = if n = p.left then capO (rowL (factO L) p.right) else factO L n := fun n => by
    show optI _ = _
    rw [hg]
    split
    · rw [codeO_opt]
    · rfl
  have hrange : -1 ≤ codeO (capO (rowL (factO L) p.right)) ∧ codeO (capO (rowL (factO L) p.right)) ≤ 1000000 := by
    unfold capO codeO; cases rowL (factO L) p.right <;> simp <;> omega
  have hle : ∀ n, leO (factO (L.set p.left (codeO (capO (rowL (factO L) p.right)))) n) (factO L n) := fun n => by
    rw [hf]
    split
    · rename_i e; subst e; exact hbet
    · exact leO.refl _
  refine ⟨by simp [h.len], fun n => ?_, fun n => ?_, fun n => ?_, fun n => (hle n).trans (h.le n), fun q hq => ?_⟩
  · rw [hg]; split
    · exact hrange.1
    · exact h.lo n
  · rw [hg]; split
    · exact hrange.2
    · exact h.hi n
  · rw [hf]; split
    · rename_i e; subst e; exact h.sound.step hpm
    · exact h.sound n
  · rw [List.take_succ_eq_append_getElem hi] at hq
    rcases List.mem_append.1 hq with hq | hq
    · exact (hle q.left).trans (h.done q hq)
    · have e : q = p := by
        have h1 := (List.getElem?_eq_some_iff.1 hp).2
        simp at hq; rw [hq, h1]
      subst e
      rw [hf, if_pos rfl]
      exact capO_mono (rowL_mono h.le _)
/-- at the end: what no more rounds would better -/
theorem ShI.final {ps : List PrS} {N : Nat} {L : List Int} (h : ShI ps N (N + 1) 0 L) (hN : ∀ p ∈ ps, p.left < N) (n : Nat) : factO L n = bestH ps N n := by
  have hf := fin_all ps N hN n
  obtain ⟨k, hk⟩ := h.sound n
  refine leO.antisymm ?_ ?_
  · have := h.le n
    rw [hf (N + 1) (by omega)] at this
    exact this
  · have h1 := bestH_le ps (Nat.le_max_left k N) n
    rw [hf (max k N) (Nat.le_max_right _ _)] at h1
    exact h1.trans hk

end Go.Proofs.YtmkimaceioacgaaDoor
