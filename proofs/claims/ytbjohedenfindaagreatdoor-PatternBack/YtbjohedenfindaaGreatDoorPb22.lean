/- Texts of the proof, put together: DvH, PUnit. -/
import Derived.Test.YtbjohedenfindaaGreatDoorPb21
import Derived.Test.YtbjohedenfindaaGreatDoorPb16
import Derived.Shelf.Abstract
namespace Go.Proofs.YtbjohedenfindaaGreatDoor
set_option linter.unusedVariables false

def powM (X : List Int → Prop) : Nat → List Int → Prop
  | 0, l => l = []
  | n + 1, l => ∃ a b, l = a ++ b ∧ X a ∧ powM X n b
def rowM : List (List Int → Prop) → List Int → Prop
  | [], l => l = []
  | X :: r, l => ∃ a b, l = a ++ b ∧ X a ∧ rowM r b
def M (t : Tm) : List Int → Prop := match t with
  | ⟨k, s, a, b, ks⟩ => fun l =>
    if k = 1 then ∃ c, l = [c] ∧ hasL s c = true
    else if k = 2 then rowM (ks.map M) l
    else if k = 3 then ∃ X ∈ ks.map M, X l
    else if k = 4 then ∀ X ∈ ks.map M, X l
    else if k = 5 then ∀ X ∈ ks.map M, ¬ X l
    else ∃ X ∈ ks.map M, ∃ n : Nat, a ≤ n ∧ (b = -1 ∨ (n : Int) ≤ b) ∧ powM X n l
theorem M_eq (t : Tm) (l : List Int) : M t l = if t.kind = 1 then ∃ c, l = [c] ∧ hasL t.set c = true
    else if t.kind = 2 then rowM (t.kids.map M) l
    else if t.kind = 3 then ∃ X ∈ t.kids.map M, X l
    else if t.kind = 4 then ∀ X ∈ t.kids.map M, X l
    else if t.kind = 5 then ∀ X ∈ t.kids.map M, ¬ X l
    else ∃ X ∈ t.kids.map M, ∃ n : Nat, t.mn ≤ n ∧ (t.mx = -1 ∨ (n : Int) ≤ t.mx) ∧ powM X n l := by
  obtain ⟨k, s, a, b, ks⟩ := t; rw [M]
theorem M_set (s : List Rg) (l : List Int) : M (setT s) l ↔ ∃ c, l = [c] ∧ hasL s c = true := by rw [M_eq, if_pos (show (setT s).kind = 1 from rfl)]; rfl
theorem M_noth (l : List Int) : ¬ M nothT l := by
  have := M_set [] l
  intro h
  obtain ⟨c, _, h⟩ := this.1 h
  simp [hasL] at h
theorem M_row (s : List Rg) (a b : Int) (ks : List Tm) (l : List Int) : M ⟨2, s, a, b, ks⟩ l ↔ rowM (ks.map M) l := by rw [M]; simp
theorem M_empt (l : List Int) : M emptT l ↔ l = [] := by rw [emptT, M_row]; simp [rowM]
theorem M_cat (x y : Tm) (l : List Int) : M (catT x y) l ↔ ∃ a b, l = a ++ b ∧ M x a ∧ M y b := by
  rw [catT, M_row]; simp only [List.map_cons, List.map_nil, rowM]
  constructor
  · rintro ⟨a, b, h1, h2, c, d, h3, h4, h5⟩; subst h5; exact ⟨a, c, by rw [h1, h3]; simp, h2, h4⟩
  · rintro ⟨a, b, h1, h2, h3⟩; exact ⟨a, b, h1, h2, b, [], by simp, h3, rfl⟩
theorem M_or (s : List Rg) (a b : Int) (ks : List Tm) (l : List Int) : M ⟨3, s, a, b, ks⟩ l ↔ ∃ x ∈ ks, M x l := by
  rw [M]; simp only [show ¬ ((3 : Int) = 1) by decide, show ¬ ((3 : Int) = 2) by decide, if_false, if_true, List.mem_map]
  exact ⟨fun ⟨_, ⟨x, hx, e⟩, h⟩ => ⟨x, hx, by rw [e]; exact h⟩, fun ⟨x, hx, h⟩ => ⟨_, ⟨x, hx, rfl⟩, h⟩⟩
theorem M_and (s : List Rg) (a b : Int) (ks : List Tm) (l : List Int) : M ⟨4, s, a, b, ks⟩ l ↔ ∀ x ∈ ks, M x l := by
  rw [M]; simp only [show ¬ ((4 : Int) = 1) by decide, show ¬ ((4 : Int) = 2) by decide, show ¬ ((4 : Int) = 3) by decide, if_false, if_true, List.mem_map]
  exact ⟨fun h x hx => h _ ⟨x, hx, rfl⟩, fun h X ⟨x, hx, e⟩ => by rw [← e]; exact h x hx⟩
theorem M_not (x : Tm) (l : List Int) : M (notT x) l ↔ ¬ M x l := by
  rw [notT, M]; simp
theorem M_rep (x : Tm) (lo hi : Int) (l : List Int) : M (repT x lo hi) l ↔ ∃ n : Nat, lo ≤ n ∧ (hi = -1 ∨ (n : Int) ≤ hi) ∧ powM (M x) n l := by
  rw [repT, M]; simp

/-! ## Rows, one of several, both -/
theorem M_catS : ∀ (a b : Tm), Nf a → Nf b → ∀ l, M (catS a b) l ↔ ∃ u v, l = u ++ v ∧ M a u ∧ M b v := by
  refine Tm.ind ?_
  intro a ih b ha hb l
  cases h1 : isNo a
  · cases h2 : isNo b
    · cases h3 : isEm b
      · by_cases hk : a.kind = 2
        · revert ih hk
          refine nf_cases (P := fun a => (∀ k ∈ a.kids, ∀ (b : Tm), Nf k → Nf b → ∀ l, M (catS k b) l ↔ ∃ u v, l = u ++ v ∧ M k u ∧ M b v) → a.kind = 2 → (M (catS a b) l ↔ ∃ u v, l = u ++ v ∧ M a u ∧ M b v)) a ha ?_ ?_ ?_ ?_ ?_ ?_
          · intro s _ h; simp [setT] at h
          · intro _ _; rw [catS_em_l hb]
            constructor
            · intro h; exact ⟨[], l, rfl, (M_empt []).2 rfl, h⟩
            · rintro ⟨u, v, h, hu, hv⟩; have := (M_empt u).1 hu; subst this; rw [h]; exact hv
          · intro x y _ hy _ _ _ _ ih _
            rw [catS_cat h2 h3, M_cat]
            constructor
            · rintro ⟨u, v, h, hu, hv⟩
              obtain ⟨c, d, h', hc, hd⟩ := (ih y (by simp [catT]) b hy hb v).1 hv
              exact ⟨u ++ c, d, by rw [h, h']; simp, (M_cat x y _).2 ⟨u, c, rfl, hu, hc⟩, hd⟩
            · rintro ⟨u, v, h, hu, hv⟩
              obtain ⟨c, d, h', hc, hd⟩ := (M_cat x y u).1 hu
              exact ⟨c, d ++ v, by rw [h, h']; simp, hc, (ih y (by simp [catT]) b hy hb _).2 ⟨d, v, rfl, hd, hv⟩⟩
          · intro k l hk _ _ _ _ _ h; simp only [sevT] at h; omega
          · intro x _ _ h; simp [notT] at h
          · intro x _ _ _ _ _ _ _ _ h; simp [repT] at h
        · rw [catS_plain hk h1 h2 h3, M_cat]
      · have := nf_em hb h3; subst this
        rw [catS_em_r ha]
        constructor
        · intro h; exact ⟨l, [], by simp, h, (M_empt []).2 rfl⟩
        · rintro ⟨u, v, h, hu, hv⟩; have := (M_empt v).1 hv; subst this; rw [h]; simpa using hu
    · have := nf_no hb h2; subst this
      rw [catS_no_r isNo_noth]
      exact ⟨fun h => absurd h (M_noth _), fun ⟨u, v, _, _, h⟩ => absurd h (M_noth _)⟩
  · have := nf_no ha h1; subst this
    rw [catS_no_l isNo_noth]
    exact ⟨fun h => absurd h (M_noth _), fun ⟨u, v, _, h, _⟩ => absurd h (M_noth _)⟩
theorem M_trm3 {t : Tm} (h : Nf t) (l : List Int) : M t l ↔ ∃ x ∈ trm 3 t, M x l := by
  unfold trm; split
  · rename_i h3
    obtain ⟨k, s, a, b, ks⟩ := t
    simp only at h3; subst h3; exact M_or _ _ _ _ _
  · split
    · rename_i hn
      rw [nf_no h hn]; simp [M_noth]
    · simp
theorem M_trm4 {t : Tm} (h : Nf t) (hn : isNo t = false) (l : List Int) : M t l ↔ ∀ x ∈ trm 4 t, M x l := by
  unfold trm; split
  · rename_i h3
    obtain ⟨k, s, a, b, ks⟩ := t
    simp only at h3; subst h3; exact M_and _ _ _ _ _
  · rw [hn]; simp
theorem M_join3 {l : List Tm} (h : ∀ t ∈ l, Nf t) (w : List Int) : M (joinS 3 l) w ↔ ∃ t ∈ l, M t w := by
  rw [M_trm3 (nf_joinS (.inl rfl) h)]
  constructor
  · rintro ⟨x, hx, hm⟩
    obtain ⟨t, ht, hx⟩ := (mem_join3 h x).1 hx
    exact ⟨t, ht, (M_trm3 (h t ht) w).2 ⟨x, hx, hm⟩⟩
  · rintro ⟨t, ht, hm⟩
    obtain ⟨x, hx, hm⟩ := (M_trm3 (h t ht) w).1 hm
    exact ⟨x, (mem_join3 h x).2 ⟨t, ht, hx⟩, hm⟩
theorem trm4_some {t : Tm} (h : Nf t) (hn : isNo t = false) : ∃ x, x ∈ trm 4 t := by
  by_cases hk : t.kind = 4
  · revert hk
    refine nf_cases (P := fun z => z.kind = 4 → ∃ t, t ∈ trm 4 z) t h ?_ ?_ ?_ ?_ ?_ ?_
    · intro s h; simp [setT] at h
    · intro h; simp [emptT] at h
    · intro x y _ _ _ _ _ _ h; simp [catT] at h
    · intro k l hk h2 _ _ _ hkk
      match l, h2 with
      | z :: l, _ => exact ⟨z, by simp only [sevT] at hkk; simp [trm, sevT, hkk]⟩
    · intro x _ h; simp [notT] at h
    · intro x _ _ _ _ _ _ _ h; simp [repT] at h
  · exact ⟨_, trm_self hk hn⟩
theorem M_join4 {l : List Tm} (hl : l ≠ []) (h : ∀ t ∈ l, Nf t) (w : List Int) : M (joinS 4 l) w ↔ ∀ t ∈ l, M t w := by
  by_cases hany : (4 : Int) = 4 ∧ l.any isNo = true
  · rw [joinS, if_pos hany]
    obtain ⟨x, hx, hn⟩ := List.any_eq_true.1 hany.2
    exact ⟨fun h => absurd h (M_noth _), fun h' => absurd (h' x hx) (by rw [nf_no (h x hx) hn]; exact M_noth _)⟩
  · have hno : ∀ t ∈ l, isNo t = false := by
      intro t ht
      cases hn : isNo t
      · rfl
      · exact absurd ⟨rfl, List.any_eq_true.2 ⟨t, ht, hn⟩⟩ hany
    rw [joinS, if_neg hany]
    have hmem : ∀ x, x ∈ gatA 4 [] l ↔ ∃ t ∈ l, x ∈ trm 4 t := by intro x; rw [mem_gatA]; simp
    have h1 : (∀ t ∈ l, M t w) ↔ ∀ x ∈ gatA 4 [] l, M x w := by
      constructor
      · intro h' x hx
        obtain ⟨t, ht, hx⟩ := (hmem x).1 hx
        exact (M_trm4 (h t ht) (hno t ht) w).1 (h' t ht) x hx
      · intro h' t ht
        exact (M_trm4 (h t ht) (hno t ht) w).2 fun x hx => h' x ((hmem x).2 ⟨t, ht, hx⟩)
    rw [h1]
    have h2 : ∃ x, x ∈ gatA 4 [] l := by
      match l, hl with
      | t :: l, _ =>
        obtain ⟨x, hx⟩ := trm4_some (h t (by simp)) (hno t (by simp))
        exact ⟨x, (hmem x).2 ⟨t, by simp, hx⟩⟩
    generalize gatA 4 [] l = L at h2
    match L, h2 with
    | [x], _ => simp [oneS]
    | x :: y :: L, _ => exact M_and _ _ _ _ _

/-! ## The empty text -/
theorem powM_nil (X : List Int → Prop) : ∀ n, powM X (n + 1) [] → X []
  | n, ⟨a, b, h, hx, _⟩ => by
    have : a = [] := by cases a with
      | nil => rfl
      | cons _ _ => simp at h
    subst this; exact hx
theorem powM_all (X : List Int → Prop) (h : X []) : ∀ n, powM X n []
  | 0 => rfl
  | n + 1 => ⟨[], [], rfl, h, powM_all X h n⟩
theorem nul_eq (t : Tm) : nul t = if t.kind = 1 then false else if t.kind = 5 then !(t.kids.map nul).headD true else if t.kind = 6 then (if t.mn = 0 then true else (t.kids.map nul).headD false)
    else if t.kind = 3 then (t.kids.map nul).any id else (t.kids.map nul).all id := by
  obtain ⟨k, s, a, b, ks⟩ := t; rw [nul]
theorem nul_M : ∀ (t : Tm), Nf t → (nul t = true ↔ M t []) := by
  refine Tm.ind ?_
  intro t ih h
  revert ih
  refine nf_cases (P := fun t => (∀ k ∈ t.kids, Nf k → (nul k = true ↔ M k [])) → (nul t = true ↔ M t [])) t h ?_ ?_ ?_ ?_ ?_ ?_
  · intro s _; rw [M_set, nul_eq]; simp [setT]
  · intro _; rw [M_empt, nul_eq]; simp [emptT]
  · intro x y hx hy _ _ _ _ ih
    have h1 := ih x (by simp [catT]) hx
    have h2 := ih y (by simp [catT]) hy
    have e : nul (catT x y) = (nul x && nul y) := by rw [nul_eq]; simp [catT]
    rw [M_cat, e, Bool.and_eq_true, h1, h2]
    constructor
    · rintro ⟨h1, h2⟩; exact ⟨[], [], rfl, h1, h2⟩
    · rintro ⟨a, b, h, h1, h2⟩
      obtain ⟨rfl, rfl⟩ := List.append_eq_nil_iff.1 h.symm
      exact ⟨h1, h2⟩
  · intro k l hk _ _ _ h5 ih
    have ih' : ∀ x ∈ l, (nul x = true ↔ M x []) := fun x hx => ih x (by simpa [sevT] using hx) (h5 x hx)
    rcases hk with rfl | rfl
    · have e : nul (sevT 3 l) = l.any nul := by rw [nul_eq]; simp [sevT]
      rw [e, sevT, M_or, List.any_eq_true]
      exact ⟨fun ⟨x, hx, h⟩ => ⟨x, hx, (ih' x hx).1 h⟩, fun ⟨x, hx, h⟩ => ⟨x, hx, (ih' x hx).2 h⟩⟩
    · have e : nul (sevT 4 l) = l.all nul := by rw [nul_eq]; simp [sevT]
      rw [e, sevT, M_and, List.all_eq_true]
      exact ⟨fun h x hx => (ih' x hx).1 (h x hx), fun h x hx => (ih' x hx).2 (h x hx)⟩
  · intro x hx ih
    have h1 := ih x (by simp [notT]) hx
    have e : nul (notT x) = !nul x := by rw [nul_eq]; simp [notT]
    rw [e, M_not, ← h1]; simp
  · intro x lo hi hx h0 h3 _ _ ih
    have h1 := ih x (by simp [repT]) hx
    have e : nul (repT x lo hi) = if lo = 0 then true else nul x := by rw [nul_eq]; simp [repT]
    rw [e, M_rep]
    split
    · subst lo; simp only [true_iff]; exact ⟨0, by simp, by omega, rfl⟩
    · rw [h1]
      constructor
      · intro h; exact ⟨lo.toNat, by omega, by omega, powM_all _ h _⟩
      · rintro ⟨n, h2, _, h⟩
        match n, h2, h with
        | 0, h2, _ => omega
        | n + 1, _, h => exact powM_nil _ n h

/-! ## Behind a point -/
theorem powM_cons (X : List Int → Prop) (c : Int) : ∀ n l, powM X n (c :: l) → ∃ m u v, n = m + 1 ∧ l = u ++ v ∧ X (c :: u) ∧ powM X m v
  | 0, l, h => by simp [powM] at h
  | n + 1, l, ⟨a, b, h, hx, hp⟩ => by
    cases a with
    | nil =>
      have : b = c :: l := by simpa using h.symm
      subst this
      obtain ⟨m, u, v, h1, h2, h3, h4⟩ := powM_cons X c n l hp
      exact ⟨n, u, v, rfl, h2, h3, by rw [h1]; exact ⟨[], v, rfl, hx, h4⟩⟩
    | cons d a =>
      have h' : c = d ∧ l = a ++ b := by simpa using h
      obtain ⟨rfl, h'⟩ := h'
      exact ⟨n, a, b, rfl, h', hx, hp⟩
theorem powM_empt : ∀ (n : Nat) (l : List Int), powM (M emptT) n l → l = []
  | 0, l, h => h
  | n + 1, l, ⟨a, b, e, ha, hb⟩ => by
    have := (M_empt a).1 ha; subst this
    rw [e]; simpa using powM_empt n b hb
theorem M_repS {x : Tm} {lo hi : Int} (hx : Nf x) (h0 : 0 ≤ lo) (h1 : hi = -1 ∨ lo ≤ hi) (l : List Int) : M (repS x lo hi) l ↔ ∃ n : Nat, lo ≤ n ∧ (hi = -1 ∨ (n : Int) ≤ hi) ∧ powM (M x) n l := by
  unfold repS; split
  · subst hi
    rw [M_empt]
    constructor
    · intro h; exact ⟨0, by omega, by omega, h⟩
    · rintro ⟨n, _, h2, h⟩
      have : n = 0 := by omega
      subst this; exact h
  · split
    · rename_i h
      simp only [Bool.and_eq_true, decide_eq_true_eq] at h
      have := nf_no hx h.1; subst this
      refine ⟨fun h => absurd h (M_noth _), ?_⟩
      rintro ⟨n, h2, _, h'⟩
      match n, h2, h' with
      | 0, h2, _ => omega
      | n + 1, _, ⟨a, b, _, hh, _⟩ => exact absurd hh (M_noth _)
    · split
      · rename_i a b
        rw [M_empt]
        simp only [Bool.or_eq_true] at b
        simp only [Bool.and_eq_true, decide_eq_true_eq, not_and] at a
        rcases b with b | b
        · have := nf_no hx b; subst this
          have := a b
          constructor
          · intro h; exact ⟨0, by omega, by omega, h⟩
          · rintro ⟨n, _, _, h⟩
            match n, h with
            | 0, h => exact h
            | n + 1, ⟨_, _, _, hh, _⟩ => exact absurd hh (M_noth _)
        · have := nf_em hx b; subst this
          constructor
          · intro h; subst h; exact ⟨lo.toNat, by omega, by omega, powM_all _ ((M_empt []).2 rfl) _⟩
          · rintro ⟨n, _, _, h⟩
            exact powM_empt n l h
      · rw [M_rep]
theorem dv_M (c : Int) (hc0 : 0 ≤ c) (hc1 : c ≤ 1114111) : ∀ (t : Tm), Nf t → ∀ l, M (dv c t) l ↔ M t (c :: l) := by
  refine Tm.ind ?_
  intro t ih h l
  revert ih
  refine nf_cases (P := fun t => (∀ k ∈ t.kids, Nf k → ∀ l, M (dv c k) l ↔ M k (c :: l)) → (M (dv c t) l ↔ M t (c :: l))) t h ?_ ?_ ?_ ?_ ?_ ?_
  · intro s _; rw [dv_set, M_set]
    have hb : hasB s c = hasL s c := by simp [hasB, hc0, hc1]
    rw [hb]
    split
    · rename_i h; rw [M_empt]
      constructor
      · rintro rfl; exact ⟨c, rfl, h⟩
      · rintro ⟨d, h', _⟩; simpa using (List.cons.inj h').2
    · rename_i h
      refine ⟨fun h => absurd h (M_noth _), ?_⟩
      rintro ⟨d, h', h2⟩
      have := (List.cons.inj h').1; subst this; exact absurd h2 h
  · intro _; rw [dv_empt, M_empt]; exact ⟨fun h => absurd h (M_noth _), fun h => by simp at h⟩
  · intro x y hx hy _ _ _ _ ih
    have h1 := ih x (by simp [catT]) hx
    have h2 := ih y (by simp [catT]) hy
    have hcat : M (catS (dv c x) y) l ↔ ∃ u v, l = u ++ v ∧ M x (c :: u) ∧ M y v := by
      rw [M_catS _ _ (nf_dv c x hx) hy]
      exact ⟨fun ⟨u, v, e, a, b⟩ => ⟨u, v, e, (h1 u).1 a, b⟩, fun ⟨u, v, e, a, b⟩ => ⟨u, v, e, (h1 u).2 a, b⟩⟩
    have hwhole : M (catT x y) (c :: l) ↔ (∃ u v, l = u ++ v ∧ M x (c :: u) ∧ M y v) ∨ (M x [] ∧ M y (c :: l)) := by
      rw [M_cat]
      constructor
      · rintro ⟨a, b, e, ha, hb⟩
        cases a with
        | nil =>
          have : b = c :: l := by simpa using e.symm
          subst this; exact .inr ⟨ha, hb⟩
        | cons d a =>
          have h' : c = d ∧ l = a ++ b := by simpa using e
          obtain ⟨rfl, h'⟩ := h'
          exact .inl ⟨a, b, h', ha, hb⟩
      · rintro (⟨u, v, e, ha, hb⟩ | ⟨ha, hb⟩)
        · exact ⟨c :: u, v, by rw [e]; rfl, ha, hb⟩
        · exact ⟨[], c :: l, rfl, ha, hb⟩
    rw [dv_cat, hwhole]
    have hn := nul_M x hx
    split
    · rename_i hnul
      rw [M_join3]
      · simp only [List.mem_cons, List.not_mem_nil, or_false, exists_eq_or_imp, exists_eq_left]
        rw [hcat, h2 l]
        constructor
        · rintro (h | h); exact .inl h; exact .inr ⟨hn.1 hnul, h⟩
        · rintro (h | h); exact .inl h; exact .inr h.2
      · intro u hu
        simp only [List.mem_cons, List.not_mem_nil, or_false] at hu
        rcases hu with rfl | rfl
        · exact nf_catS (nf_dv c x hx) hy
        · exact nf_dv c y hy
    · rename_i hnul
      rw [hcat]
      constructor
      · exact .inl
      · rintro (h | h); exact h; exact absurd (hn.2 h.1) hnul
  · intro k ks hk h2 _ _ h5 ih
    have ih' : ∀ x ∈ ks, (M (dv c x) l ↔ M x (c :: l)) := fun x hx => ih x (by simpa [sevT] using hx) (h5 x hx) l
    have hnf : ∀ t ∈ ks.map (dv c), Nf t := by
      intro t ht; obtain ⟨u, hu, rfl⟩ := List.mem_map.1 ht; exact nf_dv c u (h5 u hu)
    rw [dv_sev c k ks hk]
    rcases hk with rfl | rfl
    · rw [M_join3 hnf, sevT, M_or]
      constructor
      · rintro ⟨t, ht, h⟩
        obtain ⟨u, hu, rfl⟩ := List.mem_map.1 ht
        exact ⟨u, hu, (ih' u hu).1 h⟩
      · rintro ⟨u, hu, h⟩
        exact ⟨_, List.mem_map_of_mem hu, (ih' u hu).2 h⟩
    · rw [M_join4 (by cases ks with | nil => simp at h2 | cons _ _ => simp) hnf, sevT, M_and]
      constructor
      · intro h u hu
        exact (ih' u hu).1 (h _ (List.mem_map_of_mem hu))
      · intro h t ht
        obtain ⟨u, hu, rfl⟩ := List.mem_map.1 ht
        exact (ih' u hu).2 (h u hu)
  · intro x hx ih; rw [dv_not, M_not, M_not, ih x (by simp [notT]) hx]
  · intro x lo hi hx h0 h1 _ _ ih
    have hd := ih x (by simp [repT]) hx
    have d0 : 0 ≤ decI lo := by unfold decI; split <;> omega
    have d1 : decI hi = -1 ∨ decI lo ≤ decI hi := by unfold decI; split <;> split <;> omega
    rw [dv_rep, M_catS _ _ (nf_dv c x hx) (nf_repS hx d0 d1), M_rep]
    constructor
    · rintro ⟨u, v, e, hu, hv⟩
      obtain ⟨n, k1, k2, k3⟩ := (M_repS hx d0 d1 v).1 hv
      refine ⟨n + 1, ?_, ?_, c :: u, v, by rw [e]; rfl, (hd u).1 hu, k3⟩
      · unfold decI at k1; split at k1 <;> omega
      · unfold decI at k2; split at k2 <;> omega
    · rintro ⟨n, k1, k2, k3⟩
      obtain ⟨m, u, v, e1, e2, e3, e4⟩ := powM_cons _ c n l k3
      refine ⟨u, v, e2, (hd u).2 e3, (M_repS hx d0 d1 v).2 ⟨m, ?_, ?_, e4⟩⟩
      · unfold decI; split <;> omega
      · unfold decI; split <;> omega
/-- behind a text nothing is left just if the pattern stands for it -/
theorem dvs_M {p : Tm} (hp : Nf p) : ∀ (r l : List Int), (∀ c ∈ r, 0 ≤ c ∧ c ≤ 1114111) → (M (dvs r p) l ↔ M p (r.reverse ++ l))
  | [], l, _ => by simp [dvs]
  | c :: r, l, h => by
    have hc := h c (by simp)
    rw [dvs, dv_M c hc.1 hc.2 _ (dvs_nf hp r), dvs_M hp r _ fun x hx => h x (by simp [hx])]
    simp

end Go.Proofs.YtbjohedenfindaaGreatDoor

namespace Go.Proofs.YtbjohedenfindaaGreatDoor
open Go.RowKit
set_option linter.unusedVariables false
set_option maxRecDepth 100000

set_option maxHeartbeats 1000000 in
theorem pboth_any {W0 w : World} (L : LibC W0) {R i o M : Nat} {s : ByteArray} {u : Nat → Option (Re × Nat)} (hU : UnitC W0 s o M R u) (hu : Goes s u) (h : St W0 w R s i o M) :
    Calls Tryz.prog 71 #[.pointer (some ⟨R, 0, none⟩)] w (Got W0 w R s o M (bothS s u i) (TreeV w.heap.size)) := by
  have hmf : ∀ (fn : Fn) (first cap : Array Value) (w : World), (Instr.makeFunc fn first cap).run Tryz.prog w = .ok (.func fn first cap) w := fun _ _ _ _ => rfl
  have HC : Hid (Calls Tryz.prog 70 #[.pointer (some ⟨R, 0, none⟩), .int .i64 4, .int .i32 38, .func (.func 104) #[.pointer (some ⟨R, 0, none⟩)] #[]] w (Got W0 w R s o M (severalS s 4 38 (rowReS s u) i) (TreeV w.heap.size))) :=
    several_any L 4 38 (by omega) 104 (enters_of Tryz.func104 (by kernel_rfl) rfl) (rowReS_stays hu) (fun w i h => row_any L hU hu h) h
  have e : bothS s u i = severalS s 4 38 (rowReS s u) i := rfl
  rw [e]
  generalize severalS s 4 38 (rowReS s u) i = res at *
  clear h hU hu e
  go_enter Tryz.func71, Tryz.ntmps71
  go_wp2_with fail
  refine HC.out.mono ?_
  intro e w1 hG
  obtain ⟨hg1, ⟨hx, f, rfl⟩ | ⟨⟨t, j⟩, v, hx, rfl, hv, hS1⟩⟩ := hG.both
  · exact ⟨rfl, Got.bad hx hg1 ⟨f, rfl⟩⟩
  · have HV : Hid (Tree (fun b => w.heap.size ≤ b) w1 v t) := hv
    obtain ⟨b, rfl, _⟩ := HV.out.ptr
    have HX : Hid (res = some (t, j)) := hx
    clear hx hG hv
    go_wp2
    go_ret
    exact Got.ok (Val := TreeV w.heap.size) HX.out hg1 HV.out hS1

set_option maxHeartbeats 1000000 in
theorem ppattern_any {W0 w : World} (L : LibC W0) {R i o M : Nat} {s : ByteArray} {u : Nat → Option (Re × Nat)} (hU : UnitC W0 s o M R u) (hu : Goes s u) (h : St W0 w R s i o M) :
    Calls Tryz.prog 42 #[.pointer (some ⟨R, 0, none⟩)] w (Got W0 w R s o M (patS s u i) (TreeV w.heap.size)) := by
  have hmf : ∀ (fn : Fn) (first cap : Array Value) (w : World), (Instr.makeFunc fn first cap).run Tryz.prog w = .ok (.func fn first cap) w := fun _ _ _ _ => rfl
  have HC : Hid (Calls Tryz.prog 70 #[.pointer (some ⟨R, 0, none⟩), .int .i64 3, .int .i32 124, .func (.func 71) #[.pointer (some ⟨R, 0, none⟩)] #[]] w (Got W0 w R s o M (severalS s 3 124 (bothS s u) i) (TreeV w.heap.size))) :=
    several_any L 3 124 (by omega) 71 (enters_of Tryz.func71 (by kernel_rfl) rfl) (bothS_stays hu) (fun w i h => pboth_any L hU hu h) h
  have e : patS s u i = severalS s 3 124 (bothS s u) i := rfl
  rw [e]
  generalize severalS s 3 124 (bothS s u) i = res at *
  clear h hU hu e
  go_enter Tryz.func42, Tryz.ntmps42
  go_wp2_with fail
  refine HC.out.mono ?_
  intro e w1 hG
  obtain ⟨hg1, ⟨hx, f, rfl⟩ | ⟨⟨t, j⟩, v, hx, rfl, hv, hS1⟩⟩ := hG.both
  · exact ⟨rfl, Got.bad hx hg1 ⟨f, rfl⟩⟩
  · have HV : Hid (Tree (fun b => w.heap.size ≤ b) w1 v t) := hv
    obtain ⟨b, rfl, _⟩ := HV.out.ptr
    have HX : Hid (res = some (t, j)) := hx
    clear hx hG hv
    go_wp2
    go_ret
    exact Got.ok (Val := TreeV w.heap.size) HX.out hg1 HV.out hS1

set_option maxHeartbeats 1000000 in
theorem anyBut_any {mk : List Rg → Bool → List Rg} (C : SetC mk) (w : World) :
    Calls Tryz.prog 88 #[] w fun e w' => ∃ v, e = .returned v ∧ OwnR w' w.heap.size v (mk [(10, 10)] true) ∧ Below w.heap.size w w' := by
  have hR : Rngs (w.alloc (.cells #[.int .i64 10, .int .i64 10] 101)) (.slice (some ⟨w.heap.size, 0, none⟩) 1 1) [(10, 10)] := by
    refine Or.inr ⟨w.heap.size, 0, 1, rfl, by simp, fun j hj => ?_⟩
    have hj0 : j = 0 := by simpa using hj
    subst hj0
    exact ⟨by simp, by simp⟩
  have HC : Hid (Calls Tryz.prog 90 #[.slice (some ⟨w.heap.size, 0, none⟩) 1 1] (w.alloc (.cells #[.int .i64 10, .int .i64 10] 101)) fun e w' => ∃ v, e = .returned v ∧ OwnR w' (w.alloc (.cells #[.int .i64 10, .int .i64 10] 101)).heap.size v (mk [(10, 10)] true) ∧ Below (w.alloc (.cells #[.int .i64 10, .int .i64 10] 101)).heap.size (w.alloc (.cells #[.int .i64 10, .int .i64 10] 101)) w') := C.other _ [(10, 10)] _ (by simp) hR
  clear hR
  go_enter Tryz.func88, Tryz.ntmps88
  go_wp2_with fail
  refine HC.out.mono ?_
  rintro e w1 ⟨v, rfl, hO, hb⟩
  obtain ⟨a, c, rfl⟩ := own_slice hO
  have hb2 : Below w.heap.size w w1 := ((Below.refl _ w).alloc (Nat.le_refl _) _).trans (hb.mono (by simp))
  have hO2 : OwnR w1 w.heap.size (.slice a (mk [(10, 10)] true).length c) (mk [(10, 10)] true) := by
    refine ⟨hO.1, ?_⟩
    rcases hO.2 with h | ⟨g, cap, cur, e1, e2, e3⟩
    · exact Or.inl h
    · exact Or.inr ⟨g, cap, cur, e1, by simp at e2; omega, e3⟩
  clear hO hb
  go_wp2
  go_ret
  exact ⟨_, rfl, hO2, hb2⟩

/-- what the walk of a unit is told of the sign that comes -/
def NextC (w : World) (R : Nat) (c : Int) (z : Nat) : Prop := Calls Tryz.prog 105 #[.pointer (some ⟨R, 0, none⟩)] w fun e w' => e = .returned (.tuple #[.int .i32 c, .int .i64 z]) ∧ ∀ row, w.grownBy w' row
theorem next_c {W0 w : World} (L : LibC W0) {R i o M : Nat} {s : ByteArray} (h : St W0 w R s i o M) {c : Int} (hc : cpAt s i = c) : NextC w R c (szAt s i) := by
  have := next_any L h.env h.at_ h.inn h.text
  rw [hc] at this
  exact this
theorem St.kept {W0 w w' : World} {R i o M : Nat} {s : ByteArray} (h : St W0 w R s i o M) (hg : ∀ row, w.grownBy w' row) : St W0 w' R s i o M := h.step (hg _) h.inn (h.at_.kept (hg none))

set_option maxHeartbeats 1000000 in
theorem unit_full {W0 w : World} (L : LibC W0) {R i M : Nat} {s : ByteArray} (h : St W0 w R s i 100 M) (c : Int) (hc : cpAt s i = c) (h3 : c = 126 ∨ c = 40 ∨ c = 91) :
    Calls Tryz.prog 136 #[.pointer (some ⟨R, 0, none⟩)] w fun e w' => Thrown e ∧ w.grownBy w' (some R) := by
  have HS : Hid (St W0 w R s i 100 M) := h
  have HN : Hid (NextC w R c (szAt s i)) := next_c L h hc
  generalize szAt s i = z at *
  clear h hc
  rcases h3 with rfl | rfl | rfl
  all_goals
    go_enter Tryz.func136, Tryz.ntmps136
    go_wp2_with fail
    refine Calls.mono HN.out ?_
    rintro e w1 ⟨rfl, hg⟩
    have hS1 := HS.out.kept hg
    go_wp2_with fail
    refine (enter_full L hS1).mono ?_
    rintro e w2 ⟨⟨f, rfl⟩, hg2⟩
    exact ⟨rfl, ⟨f, rfl⟩, Lib.grownBy_trans (hg _) hg2⟩

set_option maxHeartbeats 1000000 in
theorem unit_not {W0 w : World} (L : LibC W0) {R i o M : Nat} {s : ByteArray} (h : St W0 w R s i o M) (ho : o < 100) (hc : cpAt s i = 126) {u : Nat → Option (Re × Nat)} (hU : UnitC W0 s (o + 1) M R u) :
    Calls Tryz.prog 136 #[.pointer (some ⟨R, 0, none⟩)] w (Got W0 w R s o M ((u (i + 1)).map fun x => (notRe x.1, x.2)) (TreeV w.heap.size)) := by
  have HS : Hid (St W0 w R s i o M) := h
  have HN : Hid (NextC w R 126 (szAt s i)) := next_c L h hc
  have hi1 := (cp_eq_size hc (by omega) (by omega)).1
  have hRw := h.at_.lt
  generalize szAt s i = z at *
  have HU : Hid (UnitC W0 s (o + 1) M R u) := hU
  clear h hc hU
  go_enter Tryz.func136, Tryz.ntmps136
  go_wp2_with fail
  refine Calls.mono HN.out ?_
  rintro e w1 ⟨rfl, hg⟩
  have hS1 := HS.out.kept hg
  go_wp2_with fail
  refine (enter_ok hS1 ho (by omega)).mono ?_
  rintro e w2 ⟨rfl, hg2, hS2⟩
  have hg02 := Lib.grownBy_trans (hg (some R)) hg2
  have HS2 : Hid (St W0 w2 R s (i + 1) (o + 1) M) := hS2
  clear hS1 hS2
  go_wp2_with fail
  refine (HU.out w2 (i + 1) HS2.out).mono ?_
  intro e w3 hG
  obtain ⟨hg3, ⟨hx, f, rfl⟩ | ⟨⟨t, j⟩, v, hx, rfl, hv, hS3⟩⟩ := hG.both
  · exact ⟨rfl, Got.bad (by rw [hx]; rfl) (Lib.grownBy_trans hg02 hg3) ⟨f, rfl⟩⟩
  · have hv' : Tree (fun b => w2.heap.size ≤ b) w3 v t := hv
    obtain ⟨b, rfl, _⟩ := hv'.ptr
    obtain ⟨_, _, c2, _⟩ := hS3.at_.cells
    have f2 := hS3.at_.frozen 2
    have hg03 := Lib.grownBy_trans hg02 hg3
    have HX : Hid (u (i + 1) = some (t, j)) := hx
    have HS3 : Hid (St W0 w3 R s j (o + 1) M) := hS3
    have hgz := Lib.grownBy_setB hg03 2 (.int .i64 (o : Int))
    have hRz : RdAt (w3.setCell ⟨R, 2, none⟩ (.int .i64 (o : Int))) R s j o M := HS3.out.at_.set2 o
    have hTz : Tree (fun b => w.heap.size ≤ b) (w3.setCell ⟨R, 2, none⟩ (.int .i64 (o : Int))) (.pointer (some ⟨b, 0, none⟩)) t := (hv'.imp (ok' := fun b => w.heap.size ≤ b) fun b _ hb => by have := hg02.size; omega).grown (Lib.grownBy_setCell w3 R 2 _) fun b hb e => by cases e; omega
    have e1 : ((o : Int) + 1 - 1) = (o : Int) := by omega
    have e2 : (((o + 1 : Nat) : Int) - 1) = (o : Int) := by omega
    have HTz : Hid (Tree (fun b => w.heap.size ≤ b) (w3.setCell ⟨R, 2, none⟩ (.int .i64 (o : Int))) (.pointer (some ⟨b, 0, none⟩)) t) := hTz
    have HRz : Hid (RdAt (w3.setCell ⟨R, 2, none⟩ (.int .i64 (o : Int))) R s j o M) := hRz
    clear hx hG hv hS3 hv' hTz hRz
    go_wp2
    go_ret
    have hSz : St W0 (w3.setCell ⟨R, 2, none⟩ (.int .i64 (o : Int))) R s j o M := HS.out.step hgz HS3.out.inn HRz.out
    have hT := tree_one HTz.out hgz.size 5 0 0
    have e3 : (w3.setCell ⟨R, 2, none⟩ (.int .i64 (o : Int))).heap.size = w3.heap.size := by simp [World.setCell]
    rw [e3] at hT
    exact Got.ok (x := (notRe t, j)) (Val := TreeV w.heap.size) (by rw [HX.out]; rfl) (Lib.grownBy_allocR (Lib.grownBy_allocR hgz _) _) hT ((hSz.alloc _).alloc _)

end Go.Proofs.YtbjohedenfindaaGreatDoor
