/- Texts of the proof, put together: GFin, GLpD, GFst. -/
import Derived.Test.YtmkimaceioacgaaDoorGk12
import Derived.Test.YtmkimaceioacgaaDoorGk17
namespace Go.Proofs.YtmkimaceioacgaaDoor
set_option linter.unusedVariables false

/-- how many of the first names hold -/
def cntB (f : Nat → Bool) : Nat → Nat
  | 0 => 0
  | n + 1 => cntB f n + (if f n then 1 else 0)
theorem cntB_le (f : Nat → Bool) : ∀ N, cntB f N ≤ N
  | 0 => Nat.le_refl _
  | N + 1 => by
    have := cntB_le f N
    show cntB f N + _ ≤ N + 1
    split <;> omega
theorem cntB_mono {f g : Nat → Bool} (h : ∀ n, f n = true → g n = true) : ∀ N, cntB f N ≤ cntB g N
  | 0 => Nat.le_refl _
  | N + 1 => by
    have h1 := cntB_mono h N
    show cntB f N + (if f N then 1 else 0) ≤ cntB g N + (if g N then 1 else 0)
    cases e1 : f N with
    | false => simp; omega
    | true => rw [h N e1]; simp; exact h1
theorem cntB_same {f g : Nat → Bool} (h : ∀ n, f n = true → g n = true) : ∀ N, cntB g N ≤ cntB f N → ∀ n, n < N → f n = g n
  | 0, _, n, hn => by omega
  | N + 1, hc, n, hn => by
    have h1 := cntB_mono h N
    have hc' : cntB g N + (if g N then 1 else 0) ≤ cntB f N + (if f N then 1 else 0) := hc
    have h2 : f N = g N := by
      cases e1 : f N with
      | true => exact (h N e1).symm
      | false =>
        cases e2 : g N with
        | false => rfl
        | true => rw [e1, e2] at hc'; simp at hc'; omega
    by_cases e : n = N
    · rw [e]; exact h2
    · rw [h2] at hc'
      exact cntB_same h N (by omega) n (by omega)
/-- rounds that only add, and that rest once they rested, rest after as many as there are names -/
theorem chain_fin (f : Nat → Nat → Bool) (N : Nat) (hup : ∀ h n, f h n = true → f (h + 1) n = true) (hst : ∀ h, (∀ n, n < N → f h n = f (h + 1) n) → ∀ n, n < N → f (h + 1) n = f (h + 2) n) : ∀ k, N ≤ k → ∀ n, n < N → f k n = f N n := by
  have key : ∀ h, (∃ j, j ≤ h ∧ ∀ n, n < N → f j n = f (j + 1) n) ∨ h ≤ cntB (f h) N := by
    intro h
    induction h with
    | zero => exact .inr (Nat.zero_le _)
    | succ h ih =>
      rcases ih with ⟨j, h1, h2⟩ | h1
      · exact .inl ⟨j, by omega, h2⟩
      · by_cases hc : cntB (f (h + 1)) N ≤ cntB (f h) N
        · exact .inl ⟨h, by omega, cntB_same (hup h) N hc⟩
        · exact .inr (by omega)
  have rest : ∀ j, (∀ n, n < N → f j n = f (j + 1) n) → ∀ d n, n < N → f (j + d) n = f (j + d + 1) n := by
    intro j hj d
    induction d with
    | zero => exact hj
    | succ d ih => exact hst (j + d) ih
  have eqs : ∀ j, (∀ n, n < N → f j n = f (j + 1) n) → ∀ d n, n < N → f (j + d) n = f j n := by
    intro j hj d
    induction d with
    | zero => intro n _; rfl
    | succ d ih => intro n hn; rw [show j + (d + 1) = j + d + 1 by omega, ← rest j hj d n hn]; exact ih n hn
  have hex : ∃ j, j ≤ N ∧ ∀ n, n < N → f j n = f (j + 1) n := by
    rcases key (N + 1) with ⟨j, h1, h2⟩ | h1
    · by_cases e : j ≤ N
      · exact ⟨j, e, h2⟩
      · rcases key N with ⟨j', h3, h4⟩ | h3
        · exact ⟨j', h3, h4⟩
        · have h5 : cntB (f (N + 1)) N ≤ cntB (f N) N := Nat.le_trans (cntB_le _ N) h3
          exact ⟨N, Nat.le_refl _, cntB_same (hup N) N h5⟩
    · have := cntB_le (f (N + 1)) N
      omega
  obtain ⟨j, hj, hs⟩ := hex
  intro k hk n hn
  have e1 := eqs j hs (k - j) n hn
  have e2 := eqs j hs (N - j) n hn
  rw [show j + (k - j) = k by omega] at e1
  rw [show j + (N - j) = N by omega] at e2
  rw [e1, e2]
theorem reachH_up (ps : List PdR) (s : Int) : ∀ (h n : Nat), reachH ps s h n = true → reachH ps s (h + 1) n = true
  | 0, n, h => by simp [reachH] at h
  | h + 1, n, hh => reachB_mono (fun m hm => reachH_up ps s h m hm) n hh
/-- as many steps as there are names are enough -/
theorem reachH_fin {N : Nat} {ps : List PdR} (hG : GOkM N ps) (s : Int) : ∀ k, N ≤ k → ∀ n, n < N → reachH ps s k n = reachH ps s N n :=
  chain_fin (reachH ps s) N (reachH_up ps s) fun h hs n hn => (reachB_ok hG s).dep _ _ n hn fun k hk => hs k hk.1
theorem reachH_iff {N : Nat} {ps : List PdR} (hG : GOkM N ps) (s : Int) (n : Nat) (hn : n < N) : (∃ h, reachH ps s h n = true) ↔ reachH ps s N n = true := by
  constructor
  · rintro ⟨h, hh⟩
    by_cases e : N ≤ h
    · rw [← reachH_fin hG s h e n hn]; exact hh
    · have : ∀ d, reachH ps s (h + d) n = true := fun d => by
        induction d with
        | zero => exact hh
        | succ d ih => exact reachH_up ps s _ n ih
      have := this (N - h)
      rw [show h + (N - h) = N by omega] at this
      exact this
  · exact fun h => ⟨N, h⟩

end Go.Proofs.YtmkimaceioacgaaDoor

namespace Go.Proofs.YtmkimaceioacgaaDoor
open Go.RowKit
set_option linter.unusedVariables false
set_option maxRecDepth 100000

/-- direct parts, by the productions up to q that are whole -/
def dlR (N : Nat) (ps : List PdR) (e : Nat → Bool) (q n k : Nat) : Prop := ∃ m, m < q ∧ keepP N ps (ps.getD m noPd) = true ∧ PdAlk e (ps.getD m noPd) (ps.getD m noPd).right.length n k
theorem dlR_succ (N : Nat) (ps : List PdR) (e : Nat → Bool) (q n k : Nat) : dlR N ps e (q + 1) n k ↔ dlR N ps e q n k ∨ (keepP N ps (ps.getD q noPd) = true ∧ PdAlk e (ps.getD q noPd) (ps.getD q noPd).right.length n k) := by
  constructor
  · rintro ⟨m, hm, h⟩
    by_cases e : m = q
    · subst e; exact .inr h
    · exact .inl ⟨m, by omega, h⟩
  · rintro (⟨m, hm, h⟩ | h)
    · exact ⟨m, by omega, h⟩
    · exact ⟨q, by omega, h⟩
theorem dlR_whole (N : Nat) (ps : List PdR) (e : Nat → Bool) (n k : Nat) : dlR N ps e ps.length n k ↔ alkB e (wholeP N ps) n k = true := by
  rw [alkB_iff]
  constructor
  · rintro ⟨m, hm, h1, h2⟩
    have hp : ps.getD m noPd ∈ wholeP N ps := List.mem_filter.2 ⟨by simp [List.getD, hm], h1⟩
    obtain ⟨q, hq, e1⟩ := List.mem_iff_getElem.1 hp
    have e2 : (wholeP N ps).getD q noPd = ps.getD m noPd := by simp only [List.getD, List.getElem?_eq_getElem hq, Option.getD_some]; exact e1
    exact ⟨q, hq, by rw [e2]; exact h2⟩
  · rintro ⟨q, hq, h⟩
    have hp : (wholeP N ps).getD q noPd ∈ wholeP N ps := by simp [List.getD, hq]
    obtain ⟨h1, h2⟩ := List.mem_filter.1 hp
    obtain ⟨m, hm, e1⟩ := List.mem_iff_getElem.1 h1
    have e2 : ps.getD m noPd = (wholeP N ps).getD q noPd := by
      have e3 : ps.getD m noPd = ps[m] := by simp [List.getD, hm]
      rw [e3, e1]
    exact ⟨m, hm, by rw [e2]; exact h2, by rw [e2]; exact h⟩
theorem prsS_mem {ps : List PdR} {p : PrS} : p ∈ prsS ps ↔ ∃ q ∈ ps, prS q = p := by unfold prsS; exact List.mem_map
theorem hgt_sub {leaf : Bool} {ps ps' : List PdR} (hs : ∀ p ∈ ps, p ∈ ps') : ∀ (h n : Nat), hgtB leaf (prsS ps) h n = true → hgtB leaf (prsS ps') h n = true
  | 0, n, hh => by simp [hgtB] at hh
  | h + 1, n, hh => by
    obtain ⟨p, hp, h1, h2⟩ := (saysB_iff _ _ _ _).1 (show saysB leaf (prsS ps) (hgtB leaf (prsS ps) h) n = true from hh)
    obtain ⟨q, hq, rfl⟩ := prsS_mem.1 hp
    exact (saysB_iff _ _ _ _).2 ⟨prS q, prsS_mem.2 ⟨q, hs q hq, rfl⟩, h1, hasB_mono (fun m hm => hgt_sub hs h m hm) _ h2⟩
theorem has_leaf {f g : Nat → Bool} (h : ∀ n, f n = true → g n = true) (r : List Int) (hf : hasB false f r = true) : hasB true g r = true := by
  unfold hasB at *
  rw [List.all_eq_true] at *
  intro s hs
  have := hf s hs
  by_cases e : s < 0
  · rw [if_pos e] at this ⊢; exact h _ this
  · rw [if_neg e]
theorem hgt_leaf (ps : List PrS) : ∀ (h n : Nat), hgtB false ps h n = true → hgtB true ps h n = true
  | 0, n, hh => by simp [hgtB] at hh
  | h + 1, n, hh => by
    obtain ⟨p, hp, h1, h2⟩ := (saysB_iff _ _ _ _).1 (show saysB false ps (hgtB false ps h) n = true from hh)
    exact (saysB_iff _ _ _ _).2 ⟨p, hp, h1, has_leaf (fun m hm => hgt_leaf ps h m hm) _ h2⟩
theorem prs_left {N : Nat} {ps : List PdR} (hG : GOkM N ps) : ∀ p ∈ prsS ps, p.left < N := fun p hp => by
  obtain ⟨q, hq, rfl⟩ := prsS_mem.1 hp
  have h6 := (hG.mem hq).1
  show q.left.toNat < N
  have := h6.1; have := h6.2.1; omega
theorem hgt_N {N : Nat} {ps : List PdR} (hG : GOkM N ps) (leaf : Bool) (h n : Nat) (hh : hgtB leaf (prsS ps) h n = true) : hgtB leaf (prsS ps) N n = true := by
  by_cases e : h ≤ N
  · exact hgtB_le leaf _ e n hh
  · rw [← hgtB_fin leaf (prsS ps) N (prs_left hG) h n (by omega)]; exact hh
theorem empty_up {N : Nat} {ps : List PdR} (hG : GOkM N ps) : ∀ (h n : Nat), hgtB false (prsS ps) h n = true → hgtB false (prsS (wholeP N ps)) h n = true
  | 0, n, hh => by simp [hgtB] at hh
  | h + 1, n, hh => by
    obtain ⟨p, hp, h1, h2⟩ := (saysB_iff _ _ _ _).1 (show saysB false (prsS ps) (hgtB false (prsS ps) h) n = true from hh)
    obtain ⟨q, hq, rfl⟩ := prsS_mem.1 hp
    have hk : q ∈ wholeP N ps := List.mem_filter.2 ⟨hq, has_leaf (fun m hm => hgt_N hG true h m (hgt_leaf _ h m hm)) _ h2⟩
    exact (saysB_iff _ _ _ _).2 ⟨prS q, prsS_mem.2 ⟨q, hk, rfl⟩, h1, hasB_mono (fun m hm => empty_up hG h m hm) _ h2⟩
theorem empty_whole {N : Nat} {ps : List PdR} (hG : GOkM N ps) : hgtB false (prsS (wholeP N ps)) N = hgtB false (prsS ps) N := by
  funext n
  rw [Bool.eq_iff_iff]
  exact ⟨hgt_sub (fun p hp => (List.mem_filter.1 hp).1) N n, empty_up hG N n⟩
/-- on the way of the closure -/
structure WaI (r : Nat → Nat → Prop) (N m a b : Nat) (LL : Nat → List Bool) : Prop where
  sound : ∀ x y, x < N → factB (LL x) y = true → ∃ h, stepsP r h x y
  have_ : ∀ x y, x < N → y < N → pathP r m x y → factB (LL x) y = true
  done : ∀ x y, x < N → y < N → (x < a ∨ x = a ∧ y < b) → pathP r (m + 1) x y → factB (LL x) y = true
theorem WaI.start {r : Nat → Nat → Prop} {N : Nat} {LL : Nat → List Bool} (h : ∀ x y, x < N → (factB (LL x) y = true ↔ r x y)) : WaI r N 0 0 0 LL :=
  ⟨fun x y hx hf => ⟨0, (h x y hx).1 hf⟩, fun x y hx _ hp => (h x y hx).2 hp, fun x y _ _ hc => by omega⟩
theorem WaI.nextM {r : Nat → Nat → Prop} {N m : Nat} {LL : Nat → List Bool} (h : WaI r N m N 0 LL) : WaI r N (m + 1) 0 0 LL :=
  ⟨h.sound, fun x y hx hy hp => h.done x y hx hy (.inl hx) hp, fun x y _ _ hc => by omega⟩
theorem WaI.nextA {r : Nat → Nat → Prop} {N m a : Nat} {LL : Nat → List Bool} (h : WaI r N m a N LL) : WaI r N m (a + 1) 0 LL :=
  ⟨h.sound, h.have_, fun x y hx hy hc hp => h.done x y hx hy (by omega) hp⟩
theorem WaI.step {r : Nat → Nat → Prop} {N m a b : Nat} {LL LL' : Nat → List Bool} (h : WaI r N m a b LL) (hm : m < N) (ha : a < N) (hb : b < N)
    (hs : ∀ x y, x < N → (factB (LL' x) y = true ↔ if x = a ∧ y = b then (factB (LL a) b = true ∨ (factB (LL a) m = true ∧ factB (LL m) b = true)) else factB (LL x) y = true)) : WaI r N m a (b + 1) LL' := by
  have hup : ∀ x y, x < N → factB (LL x) y = true → factB (LL' x) y = true := fun x y hx hf => by
    rw [hs x y hx]
    split
    · rename_i e; rw [e.1, e.2] at hf; exact .inl hf
    · exact hf
  refine ⟨fun x y hx hf => ?_, fun x y hx hy hp => hup x y hx (h.have_ x y hx hy hp), fun x y hx hy hc hp => ?_⟩
  · rw [hs x y hx] at hf
    split at hf
    · rename_i e
      rw [e.1, e.2]
      rcases hf with hf | ⟨h1, h2⟩
      · exact h.sound a b ha hf
      · obtain ⟨u, hu⟩ := h.sound a m ha h1
        obtain ⟨v, hv⟩ := h.sound m b hm h2
        exact steps_append u v a m b hu hv
    · exact h.sound x y hx hf
  · by_cases e : x = a ∧ y = b
    · rw [hs x y hx, if_pos e]
      rw [e.1, e.2] at hp
      rcases hp with hp | ⟨h1, h2⟩
      · exact .inl (h.have_ a b ha hb hp)
      · exact .inr ⟨h.have_ a m ha hm h1, h.have_ m b hm hb h2⟩
    · exact hup x y hx (h.done x y hx hy (by omega) hp)
theorem WaI.final {r : Nat → Nat → Prop} {N : Nat} {LL : Nat → List Bool} (h : WaI r N N 0 0 LL) (hr : ∀ a b, r a b → b < N) : ∀ n, n < N → (factB (LL n) n = true ↔ pathP r N n n) := fun n hn =>
  ⟨fun hf => by obtain ⟨k, hk⟩ := h.sound n n hn hf; exact steps_path hr k n n hk, fun hp => h.have_ n n hn hn hp⟩

end Go.Proofs.YtmkimaceioacgaaDoor

namespace Go.Proofs.YtmkimaceioacgaaDoor
set_option linter.unusedVariables false

/-- by so many steps to where it is so -/
def toP (r b : Nat → Nat → Prop) : Nat → Nat → Nat → Prop
  | 0, _, _ => False
  | h + 1, n, t => b n t ∨ ∃ m, r n m ∧ toP r b h m t
theorem toP_up {r b : Nat → Nat → Prop} : ∀ (h n t : Nat), toP r b h n t → toP r b (h + 1) n t
  | 0, _, _, h => h.elim
  | h + 1, n, t, hh => by
    rcases hh with hh | ⟨m, h1, h2⟩
    · exact .inl hh
    · exact .inr ⟨m, h1, toP_up h m t h2⟩
theorem toP_le {r b : Nat → Nat → Prop} {h k : Nat} (hk : h ≤ k) (n t : Nat) (hh : toP r b h n t) : toP r b k n t := by
  induction k with
  | zero => obtain rfl : h = 0 := by omega
            exact hh
  | succ k ih =>
    by_cases e : h = k + 1
    · subst e; exact hh
    · exact toP_up k n t (ih (by omega))
theorem toP_fin {r b : Nat → Nat → Prop} {N : Nat} (hr : ∀ n m, r n m → m < N) (k n t : Nat) (hn : n < N) (hh : toP r b k n t) : toP r b N n t := by
  classical
  by_cases hk : N ≤ k
  · have hc := chain_fin (fun h n => decide (toP r b h n t)) N (fun h n hs => decide_eq_true (toP_up h n t (of_decide_eq_true hs))) (fun h hs n hn => by
      have hs' : ∀ m, m < N → (toP r b h m t ↔ toP r b (h + 1) m t) := fun m hm => by
        have := hs m hm
        simpa using this
      refine decide_eq_decide.2 ?_
      constructor
      · rintro (h1 | ⟨m, h1, h2⟩)
        · exact .inl h1
        · exact .inr ⟨m, h1, (hs' m (hr n m h1)).1 h2⟩
      · rintro (h1 | ⟨m, h1, h2⟩)
        · exact .inl h1
        · exact .inr ⟨m, h1, (hs' m (hr n m h1)).2 h2⟩) k hk n hn
    have hc' : (toP r b k n t ↔ toP r b N n t) := by simpa using hc
    exact hc'.1 hh
  · exact toP_le (by omega) n t hh
/-- a place that what stands ahead of it leaves open -/
def AtP (e : Nat → Bool) (row : List Int) (k : Nat) : Prop := k < row.length ∧ hasB false e (row.take k) = true
theorem hasB_take_le {leaf : Bool} {f : Nat → Bool} {r : List Int} {j k : Nat} (hjk : j ≤ k) (h : hasB leaf f (r.take k) = true) : hasB leaf f (r.take j) = true := by
  unfold hasB at *
  rw [List.all_eq_true] at *
  intro s hs
  refine h s ?_
  rw [show r.take j = (r.take k).take j by rw [List.take_take, Nat.min_eq_left hjk]] at hs
  exact List.mem_of_mem_take hs
/-- how a row begins -/
def opnS (f : Nat → Nat) (e : Nat → Bool) : List Int → Nat × Bool
  | [] => (0, true)
  | s :: r => if opnS f e r = (0, false) then (0, false) else if s < 0 then ((if e (-1 - s).toNat then f (-1 - s).toNat ||| (opnS f e r).1 else f (-1 - s).toNat), e (-1 - s).toNat && (opnS f e r).2) else (2 ^ s.toNat, false)
/-- all of a row has sentences, as far as is known -/
def widS (f : Nat → Nat) (e : Nat → Bool) (r : List Int) : Prop := ∀ s ∈ r, s < 0 → f (-1 - s).toNat ≠ 0 ∨ e (-1 - s).toNat = true
theorem or_zero_iff (a b : Nat) : a ||| b = 0 ↔ a = 0 ∧ b = 0 := by
  constructor
  · intro h
    have h1 := Nat.left_le_or (n := a) (m := b)
    have h2 := Nat.right_le_or (n := a) (m := b)
    omega
  · rintro ⟨rfl, rfl⟩; rfl
theorem opn_wid (f : Nat → Nat) (e : Nat → Bool) : ∀ r, opnS f e r ≠ (0, false) ↔ widS f e r
  | [] => by simp [opnS, widS]
  | s :: r => by
    have ih := opn_wid f e r
    by_cases ho : opnS f e r = (0, false)
    · have h1 : opnS f e (s :: r) = (0, false) := by rw [opnS, if_pos ho]
      rw [h1]
      simp only [ne_eq, not_true_eq_false, false_iff]
      intro hw
      exact (ih.2 fun x hx => hw x (List.mem_cons_of_mem _ hx)) ho
    · have hr := ih.1 ho
      have hcons : widS f e (s :: r) ↔ (s < 0 → f (-1 - s).toNat ≠ 0 ∨ e (-1 - s).toNat = true) := by
        constructor
        · exact fun h => h s List.mem_cons_self
        · intro h x hx
          rcases List.mem_cons.1 hx with rfl | hx
          · exact h
          · exact hr x hx
      rw [hcons]
      by_cases hs : s < 0
      · rw [opnS, if_neg ho, if_pos hs]
        generalize f (-1 - s).toNat = a
        generalize opnS f e r = o at *
        obtain ⟨o1, o2⟩ := o
        cases e (-1 - s).toNat
        · simp [hs]
        · simp only [if_true, Bool.true_and, ne_eq, Prod.mk.injEq, or_zero_iff, hs, or_true, imp_self, iff_true]
          rintro ⟨⟨_, h2⟩, h3⟩
          exact ho (by rw [h2, h3])
      · rw [opnS, if_neg ho, if_neg hs]
        simp [hs]
theorem opn_emp (f : Nat → Nat) (e : Nat → Bool) : ∀ r, (opnS f e r).2 = hasB false e r
  | [] => rfl
  | s :: r => by
    have ih := opn_emp f e r
    have hc : hasB false e (s :: r) = ((if s < 0 then e (-1 - s).toNat else false) && hasB false e r) := by simp [hasB]
    rw [hc, ← ih]
    by_cases ho : opnS f e r = (0, false)
    · rw [opnS, if_pos ho, ho]; simp
    · rw [opnS, if_neg ho]
      by_cases hs : s < 0
      · rw [if_pos hs, if_pos hs]
      · rw [if_neg hs, if_neg hs]; rfl
theorem AtP_cons (e : Nat → Bool) (s : Int) (r : List Int) (k : Nat) : AtP e (s :: r) (k + 1) ↔ s < 0 ∧ e (-1 - s).toNat = true ∧ AtP e r k := by
  unfold AtP
  rw [List.take_succ_cons, List.length_cons]
  have hc : hasB false e (s :: r.take k) = ((if s < 0 then e (-1 - s).toNat else false) && hasB false e (r.take k)) := by simp [hasB]
  rw [hc, Bool.and_eq_true]
  by_cases hs : s < 0
  · rw [if_pos hs]
    constructor
    · rintro ⟨h1, h2, h3⟩; exact ⟨hs, h2, by omega, h3⟩
    · rintro ⟨_, h2, h1, h3⟩; exact ⟨by omega, h2, h3⟩
  · rw [if_neg hs]
    constructor
    · rintro ⟨_, h, _⟩; cases h
    · rintro ⟨h, _⟩; exact absurd h hs
/-- what a place brings -/
def brgP (f : Nat → Nat → Prop) (x : Int) (t : Nat) : Prop := x = (t : Int) ∨ ∃ m : Nat, -1 - x = (m : Int) ∧ f m t
theorem opn_bit (f : Nat → Nat) (e : Nat → Bool) (t : Nat) : ∀ r, widS f e r → ((opnS f e r).1.testBit t = true ↔ ∃ k, AtP e r k ∧ brgP (fun m t => (f m).testBit t = true) (r.getD k 0) t)
  | [], _ => by
    constructor
    · intro h; simp [opnS] at h
    · rintro ⟨k, h, _⟩; have := h.1; simp at this
  | s :: r, hw => by
    have hr : widS f e r := fun x hx => hw x (List.mem_cons_of_mem _ hx)
    have ih := opn_bit f e t r hr
    have ho := (opn_wid f e r).2 hr
    have h0 : AtP e (s :: r) 0 := ⟨by simp, rfl⟩
    have hsplit : (∃ k, AtP e (s :: r) k ∧ brgP (fun m t => (f m).testBit t = true) ((s :: r).getD k 0) t) ↔ brgP (fun m t => (f m).testBit t = true) s t ∨ (s < 0 ∧ e (-1 - s).toNat = true ∧ ∃ k, AtP e r k ∧ brgP (fun m t => (f m).testBit t = true) (r.getD k 0) t) := by
      constructor
      · rintro ⟨k, h1, h2⟩
        cases k with
        | zero => exact .inl (by simpa using h2)
        | succ k =>
          obtain ⟨g1, g2, g3⟩ := (AtP_cons e s r k).1 h1
          exact .inr ⟨g1, g2, k, g3, by simpa using h2⟩
      · rintro (h | ⟨g1, g2, k, g3, g4⟩)
        · exact ⟨0, h0, by simpa using h⟩
        · exact ⟨k + 1, (AtP_cons e s r k).2 ⟨g1, g2, g3⟩, by simpa using g4⟩
    rw [hsplit, ← ih, opnS, if_neg ho]
    by_cases hs : s < 0
    · rw [if_pos hs]
      obtain ⟨m, hm⟩ : ∃ m : Nat, -1 - s = (m : Int) := ⟨(-1 - s).toNat, by omega⟩
      have hmt : (-1 - s).toNat = m := by omega
      rw [hmt]
      have hb : brgP (fun m t => (f m).testBit t = true) s t ↔ (f m).testBit t = true := by
        unfold brgP
        constructor
        · rintro (h | ⟨q, h1, h2⟩)
          · omega
          · obtain rfl : q = m := by omega
            exact h2
        · intro h; exact .inr ⟨m, hm, h⟩
      rw [hb]
      cases he : e m
      · simp [hs]
      · simp only [if_true, Nat.testBit_or, Bool.or_eq_true, hs, true_and]
    · rw [if_neg hs]
      have hb : brgP (fun m t => (f m).testBit t = true) s t ↔ s = (t : Int) := by
        unfold brgP
        constructor
        · rintro (h | ⟨q, h1, _⟩)
          · exact h
          · omega
        · exact .inl
      rw [hb]
      simp only [Nat.testBit_two_pow, decide_eq_true_eq, hs, false_and, or_false]
      omega
theorem opn_none {f : Nat → Nat} {e : Nat → Bool} {r : List Int} (h : ¬ widS f e r) : opnS f e r = (0, false) := Classical.byContradiction fun h' => h ((opn_wid f e r).1 h')
theorem opn_lt {f : Nat → Nat} {e : Nat → Bool} (hf : ∀ n, f n < 512) : ∀ r : List Int, (∀ s ∈ r, s ≤ 8) → (opnS f e r).1 < 512
  | [], _ => by simp [opnS]
  | s :: r, hr => by
    have ih := opn_lt (e := e) hf r fun x hx => hr x (List.mem_cons_of_mem _ hx)
    have hs8 := hr s List.mem_cons_self
    rw [opnS]
    split
    · show (0 : Nat) < 512; omega
    · split
      · show (if _ then _ else _) < 512
        split
        · exact mk_join (hf _) ih
        · exact hf _
      · show 2 ^ s.toNat < 512
        exact Nat.pow_lt_pow_right (n := 9) (by omega) (by omega)

/-- the sentences of a name begin: at once, by another's -/
def fsB (N : Nat) (ps : List PdR) (n t : Nat) : Prop := ∃ q, q < ps.length ∧ keepP N ps (ps.getD q noPd) = true ∧ (ps.getD q noPd).left = (n : Int) ∧ ∃ k, AtP (hgtB false (prsS ps) N) (ps.getD q noPd).right k ∧ (ps.getD q noPd).right.getD k 0 = (t : Int)
def fsR (N : Nat) (ps : List PdR) (n m : Nat) : Prop := ∃ q, q < ps.length ∧ keepP N ps (ps.getD q noPd) = true ∧ (ps.getD q noPd).left = (n : Int) ∧ ∃ k, AtP (hgtB false (prsS ps) N) (ps.getD q noPd).right k ∧ -1 - (ps.getD q noPd).right.getD k 0 = (m : Int)
def fstP (N : Nat) (ps : List PdR) (n t : Nat) : Prop := toP (fsR N ps) (fsB N ps) N n t
theorem fsR_lt {N : Nat} {ps : List PdR} (hG : GOkM N ps) (n m : Nat) (h : fsR N ps n m) : m < N := by
  obtain ⟨q, hq, _, _, k, hk, e⟩ := h
  have := (hG.pd q hq).1.2.2.2 k hk.1
  omega
theorem fst_iff {N : Nat} {ps : List PdR} (hG : GOkM N ps) (n t : Nat) (hn : n < N) : fstP N ps n t ↔ ∃ h, toP (fsR N ps) (fsB N ps) h n t := ⟨fun h => ⟨N, h⟩, fun ⟨h, hh⟩ => toP_fin (fsR_lt hG) h n t hn hh⟩
/-- what a place of a production brings, its name begins with -/
theorem fst_brg {N : Nat} {ps : List PdR} {q k n t : Nat} (hq : q < ps.length) (hk : keepP N ps (ps.getD q noPd) = true) (hl : (ps.getD q noPd).left = (n : Int)) (ha : AtP (hgtB false (prsS ps) N) (ps.getD q noPd).right k) (hb : brgP (fun m t => ∃ h, toP (fsR N ps) (fsB N ps) h m t) ((ps.getD q noPd).right.getD k 0) t) : ∃ h, toP (fsR N ps) (fsB N ps) h n t := by
  rcases hb with hb | ⟨m, h1, h, h2⟩
  · exact ⟨1, .inl ⟨q, hq, hk, hl, k, ha, hb⟩⟩
  · exact ⟨h + 1, .inr ⟨m, ⟨q, hq, hk, hl, k, ha, h1⟩, h2⟩⟩
/-- what begins has a tree -/
theorem fst_lives {N : Nat} {ps : List PdR} (hG : GOkM N ps) {h n t : Nat} (hh : toP (fsR N ps) (fsB N ps) h n t) : hgtB true (prsS ps) N n = true := by
  have key : ∀ q, q < ps.length → keepP N ps (ps.getD q noPd) = true → (ps.getD q noPd).left = (n : Int) → hgtB true (prsS ps) N n = true := fun q hq hk hl => by
    have hm : ps.getD q noPd ∈ ps := by simp [List.getD, hq]
    have := hgtB_closed true (prsS ps) N (prs_left hG) (prS (ps.getD q noPd)) (prsS_mem.2 ⟨_, hm, rfl⟩) hk
    have e : (prS (ps.getD q noPd)).left = n := by show (ps.getD q noPd).left.toNat = n; omega
    rw [e] at this
    exact this
  cases h with
  | zero => exact hh.elim
  | succ h =>
    rcases hh with ⟨q, hq, hk, hl, _⟩ | ⟨m, ⟨q, hq, hk, hl, _⟩, _⟩
    · exact key q hq hk hl
    · exact key q hq hk hl

end Go.Proofs.YtmkimaceioacgaaDoor
