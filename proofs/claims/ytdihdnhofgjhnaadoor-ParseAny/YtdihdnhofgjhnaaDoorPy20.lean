/- Texts of the proof, put together: YPPur. -/
import Derived.Test.YtdihdnhofgjhnaaDoorPy19
namespace Go.Proofs.YtdihdnhofgjhnaaDoor
set_option linter.unusedVariables false

/-- the terminal ahead -/
def termAt (g : Gm) (inp : List Int) (a : Nat) : Int := if a < inp.length then inp.getD a 0 else g.terms
def oobB (g : Gm) (inp : List Int) (a : Nat) : Bool := decide (a < inp.length) && (decide (inp.getD a 0 < 0) || decide (g.terms ≤ inp.getD a 0))
/-- one step: a code (0: done; else an error), the place, the reductions, the trees, accepted -/
structure Stp where
  code : Int
  at_ : Nat
  red : Nat
  pl : Pl
  acc : Bool
def stepS (g : Gm) (tb : Tb) (inp : List Int) (a r : Nat) (σ : Pl) : Stp :=
  if oobB g inp a then ⟨7, a, r, σ, false⟩ else
  if (actOf tb (topS σ) (termAt g inp a)).kind = 0 then ⟨7, a, r, σ, false⟩ else
  if (actOf tb (topS σ) (termAt g inp a)).kind = 1 then ⟨0, a + 1, 0, (leafT a, (actOf tb (topS σ) (termAt g inp a)).to) :: σ, false⟩ else
  if (actOf tb (topS σ) (termAt g inp a)).kind = 3 then (if accB g σ then ⟨0, a, r, σ, true⟩ else ⟨3, a, r, σ, false⟩) else
  if r = 10000 then ⟨2, a, r, σ, false⟩ else match redS g tb (actOf tb (topS σ) (termAt g inp a)).to σ with
    | none => ⟨3, a, r, σ, false⟩
    | some σ' => ⟨0, a, r + 1, σ', false⟩
/-- what reading from here on gives -/
def readR (g : Gm) (tb : Tb) (inp : List Int) (a r : Nat) (σ : Pl) : Int × Nat × Pl :=
  if a < inp.length then (if inp.getD a 0 < 0 ∨ g.terms ≤ inp.getD a 0 then (7, a, σ) else if (setS g tb (inp.getD a 0) (10000 - r) σ).1 = 0 then readS g tb (inp.drop (a + 1)) (a + 1) ((leafT a, (setS g tb (inp.getD a 0) (10000 - r) σ).2.1) :: (setS g tb (inp.getD a 0) (10000 - r) σ).2.2) else ((setS g tb (inp.getD a 0) (10000 - r) σ).1, a, (setS g tb (inp.getD a 0) (10000 - r) σ).2.2))
  else (0, a, σ)
theorem readR_zero (g : Gm) (tb : Tb) (inp : List Int) (a : Nat) (σ : Pl) (h : a ≤ inp.length) : readR g tb inp a 0 σ = readS g tb (inp.drop a) a σ := by
  unfold readR
  by_cases hl : a < inp.length
  · rw [if_pos hl, List.drop_eq_getElem_cons hl, readS]
    simp [List.getD, hl]
  · rw [if_neg hl, List.drop_eq_nil_of_le (by omega)]
    rfl
theorem setS_eqn (g : Gm) (tb : Tb) (t : Int) (m : Nat) (σ : Pl) : setS g tb t m σ = if (actOf tb (topS σ) t).kind = 0 then (7, 0, σ) else if (actOf tb (topS σ) t).kind = 1 then (0, (actOf tb (topS σ) t).to, σ) else if (actOf tb (topS σ) t).kind = 3 then (if accB g σ then (0, 0, σ) else (3, 0, σ)) else if m = 0 then (2, 0, σ) else match redS g tb (actOf tb (topS σ) t).to σ with | none => (3, 0, σ) | some σ' => setS g tb t (m - 1) σ' := by
  cases m with
  | zero => rw [setS]; simp
  | succ m =>
    rw [setS]
    simp only [Nat.succ_ne_zero, if_false, Nat.add_sub_cancel]
    rfl
/-- the whole from here on -/
def finS (g : Gm) (n : Nat) (q : Int × Int × Pl) : Int × Nat × Tr := if q.1 = 0 then (0, 0, (q.2.2.headD (nilT, 0)).1) else (q.1, n, nilT)
def parseR (g : Gm) (tb : Tb) (inp : List Int) (a r : Nat) (σ : Pl) : Int × Nat × Tr :=
  if a < inp.length then (if (readR g tb inp a r σ).1 = 0 then finS g inp.length (setS g tb g.terms 10000 (readR g tb inp a r σ).2.2) else ((readR g tb inp a r σ).1, (readR g tb inp a r σ).2.1, nilT))
  else finS g inp.length (setS g tb g.terms (10000 - r) σ)
theorem parseR_start (g : Gm) (tb : Tb) (inp : List Int) : parseR g tb inp 0 0 [] = parseS g tb inp := by
  unfold parseR parseS
  rw [readR_zero g tb inp 0 [] (by omega), List.drop_zero]
  by_cases hl : 0 < inp.length
  · rw [if_pos hl]
    unfold finS
    rfl
  · have e : inp = [] := List.eq_nil_of_length_eq_zero (by omega)
    subst e
    rfl
/-- a place at which reading ends -/
theorem readS_at_end (g : Gm) (tb : Tb) (inp : List Int) (σ : Pl) : readR g tb inp inp.length 0 σ = (0, inp.length, σ) := by
  unfold readR; rw [if_neg (by omega)]
theorem parseR_next (g : Gm) (tb : Tb) (inp : List Int) (a : Nat) (σ : Pl) (h : a ≤ inp.length) : parseR g tb inp a 0 σ = (if (readR g tb inp a 0 σ).1 = 0 then finS g inp.length (setS g tb g.terms 10000 (readR g tb inp a 0 σ).2.2) else ((readR g tb inp a 0 σ).1, (readR g tb inp a 0 σ).2.1, nilT)) := by
  unfold parseR
  by_cases hl : a < inp.length
  · rw [if_pos hl]
  · rw [if_neg hl]
    obtain rfl : a = inp.length := by omega
    rw [readS_at_end]
    rfl
/-- an error of a step is the answer -/
theorem step_err {g : Gm} {tb : Tb} {inp : List Int} {a r : Nat} {σ : Pl} (ha : a ≤ inp.length) (hr : r ≤ 10000) (h : (stepS g tb inp a r σ).code ≠ 0) : parseR g tb inp a r σ = ((stepS g tb inp a r σ).code, a, nilT) ∧ (a < inp.length → (readR g tb inp a r σ).1 = (stepS g tb inp a r σ).code) := by
  have hS := setS_eqn g tb (termAt g inp a) (10000 - r) σ
  unfold stepS at h ⊢
  by_cases ho : oobB g inp a = true
  · rw [if_pos ho] at h ⊢
    unfold oobB at ho
    simp only [Bool.and_eq_true, Bool.or_eq_true, decide_eq_true_eq] at ho
    have hrr : readR g tb inp a r σ = (7, a, σ) := by unfold readR; rw [if_pos ho.1, if_pos ho.2]
    refine ⟨?_, fun _ => by rw [hrr]⟩
    unfold parseR
    rw [if_pos ho.1, hrr]
    rfl
  · rw [if_neg ho] at h ⊢
    have hkey : ∀ c, c ≠ 0 → (setS g tb (termAt g inp a) (10000 - r) σ).1 = c → parseR g tb inp a r σ = (c, a, nilT) ∧ (a < inp.length → (readR g tb inp a r σ).1 = c) := fun c hc hs => by
      by_cases hl : a < inp.length
      · have hno : ¬ (inp.getD a 0 < 0 ∨ g.terms ≤ inp.getD a 0) := fun e => ho (by unfold oobB; simp only [Bool.and_eq_true, Bool.or_eq_true, decide_eq_true_eq]; exact ⟨hl, e⟩)
        have ht : termAt g inp a = inp.getD a 0 := by unfold termAt; rw [if_pos hl]
        rw [ht] at hs
        have hrr : readR g tb inp a r σ = (c, a, (setS g tb (inp.getD a 0) (10000 - r) σ).2.2) := by
          unfold readR
          rw [if_pos hl, if_neg hno, if_neg (by rw [hs]; exact hc), hs]
        refine ⟨?_, fun _ => by rw [hrr]⟩
        unfold parseR
        rw [if_pos hl, hrr, if_neg (by exact hc)]
      · have ht : termAt g inp a = g.terms := by unfold termAt; rw [if_neg hl]
        rw [ht] at hs
        refine ⟨?_, fun e => absurd e hl⟩
        unfold parseR finS
        rw [if_neg hl, if_neg (by rw [hs]; exact hc), hs]
        rw [show inp.length = a by omega]
    by_cases h0 : (actOf tb (topS σ) (termAt g inp a)).kind = 0
    · rw [if_pos h0] at h hS ⊢
      exact hkey 7 (by decide) (by rw [hS])
    · rw [if_neg h0] at h hS ⊢
      by_cases h1 : (actOf tb (topS σ) (termAt g inp a)).kind = 1
      · rw [if_pos h1] at h; exact absurd rfl h
      · rw [if_neg h1] at h hS ⊢
        by_cases h3 : (actOf tb (topS σ) (termAt g inp a)).kind = 3
        · rw [if_pos h3] at h hS ⊢
          by_cases hA : accB g σ = true
          · rw [if_pos hA] at h; exact absurd rfl h
          · rw [if_neg hA] at h hS ⊢
            exact hkey 3 (by decide) (by rw [hS])
        · rw [if_neg h3] at h hS ⊢
          by_cases hr0 : r = 10000
          · rw [if_pos hr0] at h ⊢
            rw [if_pos (by omega)] at hS
            exact hkey 2 (by decide) (by rw [hS])
          · rw [if_neg hr0] at h ⊢
            rw [if_neg (by omega)] at hS
            cases hq : redS g tb (actOf tb (topS σ) (termAt g inp a)).to σ with
            | none =>
              rw [hq] at hS
              exact hkey 3 (by decide) (by rw [hS])
            | some σ' => rw [hq] at h; exact absurd rfl h
/-- what a step that is done leaves to do -/
theorem step_ok {g : Gm} {tb : Tb} {inp : List Int} {a r : Nat} {σ : Pl} (hf : fitsB g tb = true) (hok : PlOk g tb σ) (ha : a ≤ inp.length) (hr : r ≤ 10000) (h : (stepS g tb inp a r σ).code = 0) :
    PlOk g tb (stepS g tb inp a r σ).pl ∧ (stepS g tb inp a r σ).at_ ≤ inp.length ∧ a ≤ (stepS g tb inp a r σ).at_ ∧ (stepS g tb inp a r σ).red ≤ 10000 ∧ (stepS g tb inp a r σ).pl.length ≤ σ.length + 1 ∧
    ((stepS g tb inp a r σ).acc = true → a = inp.length ∧ (stepS g tb inp a r σ).at_ = a ∧ (stepS g tb inp a r σ).pl = σ ∧ parseR g tb inp a r σ = (0, 0, (σ.headD (nilT, 0)).1) ∧ (setS g tb (termAt g inp a) (10000 - r) σ).1 = 0) ∧
    ((stepS g tb inp a r σ).acc = false → parseR g tb inp (stepS g tb inp a r σ).at_ (stepS g tb inp a r σ).red (stepS g tb inp a r σ).pl = parseR g tb inp a r σ ∧ (a < inp.length → readR g tb inp (stepS g tb inp a r σ).at_ (stepS g tb inp a r σ).red (stepS g tb inp a r σ).pl = readR g tb inp a r σ) ∧
      ((stepS g tb inp a r σ).at_ = a + 1 ∧ (stepS g tb inp a r σ).red = 0 ∧ (setS g tb (termAt g inp a) (10000 - r) σ).1 = 0 ∨ (stepS g tb inp a r σ).at_ = a ∧ (stepS g tb inp a r σ).red = r + 1 ∧ setS g tb (termAt g inp a) (10000 - (r + 1)) (stepS g tb inp a r σ).pl = setS g tb (termAt g inp a) (10000 - r) σ)) := by
  have hS := setS_eqn g tb (termAt g inp a) (10000 - r) σ
  obtain ⟨hf1, hf2, _⟩ := fits_parts hf
  have hT0 : 0 ≤ g.terms := by
    unfold gOkB at hf1
    simp only [Bool.and_eq_true, decide_eq_true_eq] at hf1
    exact hf1.1.1
  unfold stepS at h ⊢
  by_cases ho : oobB g inp a = true
  · rw [if_pos ho] at h; simp at h
  · rw [if_neg ho] at h ⊢
    have hno : a < inp.length → ¬ (inp.getD a 0 < 0 ∨ g.terms ≤ inp.getD a 0) := fun hl e => ho (by unfold oobB; simp only [Bool.and_eq_true, Bool.or_eq_true, decide_eq_true_eq]; exact ⟨hl, e⟩)
    have htm : 0 ≤ termAt g inp a ∧ termAt g inp a ≤ g.terms := by
      unfold termAt
      by_cases hl : a < inp.length
      · rw [if_pos hl]; have := hno hl; omega
      · rw [if_neg hl]; omega
    have hact := (act_ok hf (topS_ok hok hf2) htm).2
    by_cases h0 : (actOf tb (topS σ) (termAt g inp a)).kind = 0
    · rw [if_pos h0] at h; simp at h
    · rw [if_neg h0] at h hS ⊢
      by_cases h1 : (actOf tb (topS σ) (termAt g inp a)).kind = 1
      · rw [if_pos h1] at h hS ⊢
        have hl : a < inp.length := by
          unfold actB at hact
          simp [h1] at hact
          have hne := hact.2
          apply Classical.byContradiction
          intro hl
          exact hne (by unfold termAt; rw [if_neg hl])
        have hto : 0 ≤ (actOf tb (topS σ) (termAt g inp a)).to ∧ (actOf tb (topS σ) (termAt g inp a)).to < tb.acts.length := by
          unfold actB at hact
          simp [h1] at hact
          exact hact.1
        have ht : termAt g inp a = inp.getD a 0 := by unfold termAt; rw [if_pos hl]
        have hrr : readR g tb inp a r σ = readR g tb inp (a + 1) 0 ((leafT a, (actOf tb (topS σ) (termAt g inp a)).to) :: σ) := by
          rw [readR_zero _ _ _ _ _ (by omega)]
          rw [ht] at hS ⊢
          unfold readR
          rw [if_pos hl, if_neg (hno hl), hS]
          simp
        refine ⟨⟨fun x hx => ?_, fun x hx => ?_⟩, by simp; omega, by simp, by simp, by simp, by simp, fun _ => ⟨?_, fun _ => hrr.symm, .inl ⟨rfl, rfl, by rw [hS]⟩⟩⟩
        · rcases List.mem_cons.1 hx with rfl | hx
          · exact hto
          · exact hok.states x hx
        · rcases List.mem_cons.1 hx with rfl | hx
          · exact ⟨rfl, by simp [leafT], by simp [leafT]; omega⟩
          · exact hok.trees x hx
        · show parseR g tb inp (a + 1) 0 _ = _
          rw [parseR_next _ _ _ _ _ (by omega), ← hrr]
          unfold parseR
          rw [if_pos hl]
      · rw [if_neg h1] at h hS ⊢
        by_cases h3 : (actOf tb (topS σ) (termAt g inp a)).kind = 3
        · rw [if_pos h3] at h hS ⊢
          have hl : a = inp.length := by
            unfold actB at hact
            simp [h3] at hact
            apply Classical.byContradiction
            intro hl
            have hl2 : a < inp.length := by omega
            have := hno hl2
            have h4 := hact.2
            unfold termAt at h4
            rw [if_pos hl2] at h4
            omega
          by_cases hA : accB g σ = true
          · rw [if_pos hA] at h hS ⊢
            refine ⟨hok, by simp; omega, by simp, hr, by simp, fun _ => ⟨hl, rfl, rfl, ?_, by rw [hS]⟩, by simp⟩
            have ht : termAt g inp a = g.terms := by unfold termAt; rw [if_neg (by omega)]
            rw [ht] at hS
            unfold parseR finS
            rw [if_neg (by omega), hS]
            rfl
          · rw [if_neg hA] at h; simp at h
        · rw [if_neg h3] at h hS ⊢
          by_cases hr0 : r = 10000
          · rw [if_pos hr0] at h; simp at h
          · rw [if_neg hr0] at h ⊢
            rw [if_neg (by omega)] at hS
            have hp : 0 ≤ (actOf tb (topS σ) (termAt g inp a)).to ∧ (actOf tb (topS σ) (termAt g inp a)).to < g.prods.length := by
              unfold actB at hact
              simp [h0, h1, h3] at hact
              exact ⟨hact.1.2, hact.2⟩
            cases hq : redS g tb (actOf tb (topS σ) (termAt g inp a)).to σ with
            | none => rw [hq] at h; simp at h
            | some σ' =>
              rw [hq] at hS
              obtain ⟨k1, k2⟩ := redS_ok hf hok hp hq
              have hS2 : setS g tb (termAt g inp a) (10000 - (r + 1)) σ' = setS g tb (termAt g inp a) (10000 - r) σ := by
                rw [hS, show 10000 - (r + 1) = 10000 - r - 1 by omega]
              have hrr : a < inp.length → readR g tb inp a (r + 1) σ' = readR g tb inp a r σ := fun hl => by
                have ht : termAt g inp a = inp.getD a 0 := by unfold termAt; rw [if_pos hl]
                rw [ht] at hS2
                unfold readR
                rw [if_pos hl, if_pos hl, if_neg (hno hl), if_neg (hno hl), hS2]
              refine ⟨k1, by simp; omega, by simp, by simp; omega, k2, by simp, fun _ => ⟨?_, hrr, .inr ⟨rfl, rfl, hS2⟩⟩⟩
              show parseR g tb inp a (r + 1) σ' = _
              unfold parseR
              by_cases hl : a < inp.length
              · rw [if_pos hl, if_pos hl, hrr hl]
              · have ht : termAt g inp a = g.terms := by unfold termAt; rw [if_neg hl]
                rw [ht] at hS2
                rw [if_neg hl, if_neg hl, hS2]

end Go.Proofs.YtdihdnhofgjhnaaDoor
