/- Texts of the proof, put together: DvI, RT. -/
import Derived.Test.YtbjohedenfindaaGreatDoorPb22
import Derived.Test.YtbjohedenfindaaGreatDoorPb25
import Derived.Test.YtbjohedenfindaaGreatDoorPb24
namespace Go.Proofs.YtbjohedenfindaaGreatDoor
set_option linter.unusedVariables false

/-- a tree as a pattern that lies in memory -/
def reOf (t : Tm) : Re := match t with
  | ⟨k, s, a, b, ks⟩ => ⟨k, s, a, b, (ks.map reOf).map some⟩
theorem reOf_eq (t : Tm) : reOf t = ⟨t.kind, t.set, t.mn, t.mx, (t.kids.map reOf).map some⟩ := by
  obtain ⟨k, s, a, b, ks⟩ := t; rw [reOf]
theorem Re.ind {P : Re → Prop} (h : ∀ t : Re, (∀ k, some k ∈ t.kids → P k) → P t) : ∀ t, P t := fun t => by
  match t with
  | ⟨k, s, a, b, ks⟩ =>
    refine h _ fun u hu => ?_
    have h1 : SizeOf.sizeOf u < SizeOf.sizeOf ks := by
      have h1 := List.sizeOf_lt_of_mem (show some u ∈ ks from hu)
      have h2 : SizeOf.sizeOf (some u) = 1 + SizeOf.sizeOf u := by simp
      omega
    exact Re.ind h u

/-- a tree as it is read -/
def OShape (t : Tm) : Prop :=
  (∃ s, t = setT s) ∨ (∃ l, t = sevT 2 l) ∨ (∃ k l, (k = 3 ∨ k = 4) ∧ t = sevT k l ∧ l ≠ []) ∨
  (∃ x, t = notT x) ∨ (∃ x lo hi, t = repT x lo hi ∧ 0 ≤ lo ∧ (hi = -1 ∨ (lo ≤ hi ∧ 1 ≤ hi)))
def Org (t : Tm) : Prop := match t with
  | ⟨k, s, a, b, ks⟩ => OShape ⟨k, s, a, b, ks⟩ ∧ ∀ x, (h : x ∈ ks) → Org x
theorem org_iff {t : Tm} : Org t ↔ OShape t ∧ ∀ x ∈ t.kids, Org x := by
  obtain ⟨k, s, a, b, ks⟩ := t; rw [Org]
theorem org_cases {P : Tm → Prop} (t : Tm) (h : Org t) (cset : ∀ s, P (setT s)) (crow : ∀ l, (∀ x ∈ l, Org x) → P (sevT 2 l))
    (csev : ∀ k l, (k = 3 ∨ k = 4) → l ≠ [] → (∀ x ∈ l, Org x) → P (sevT k l)) (cnot : ∀ x, Org x → P (notT x))
    (crep : ∀ x lo hi, Org x → 0 ≤ lo → (hi = -1 ∨ (lo ≤ hi ∧ 1 ≤ hi)) → P (repT x lo hi)) : P t := by
  obtain ⟨h1, h2⟩ := org_iff.1 h
  rcases h1 with ⟨s, rfl⟩ | ⟨l, rfl⟩ | ⟨k, l, hk, rfl, hl⟩ | ⟨x, rfl⟩ | ⟨x, lo, hi, rfl, h3, h4⟩
  · exact cset s
  · exact crow l fun x hx => h2 x (by simpa [sevT] using hx)
  · exact csev k l hk hl fun x hx => h2 x (by simpa [sevT] using hx)
  · exact cnot x (h2 x (by simp [notT]))
  · exact crep x lo hi (h2 x (by simp [repT])) h3 h4

def plainS (t : Tm) : Tm := match t with
  | ⟨k, s, a, b, ks⟩ =>
    if k = 2 then (ks.map plainS).foldr catS emptT else if k = 3 ∨ k = 4 then joinS k (ks.map plainS)
    else if k = 6 then repS ((ks.map plainS).headD nothT) a b else if k = 5 then ⟨5, [], 0, 0, ks.map plainS⟩ else ⟨k, s, a, b, ks⟩
theorem plainS_eq (t : Tm) : plainS t = if t.kind = 2 then (t.kids.map plainS).foldr catS emptT else if t.kind = 3 ∨ t.kind = 4 then joinS t.kind (t.kids.map plainS)
    else if t.kind = 6 then repS ((t.kids.map plainS).headD nothT) t.mn t.mx else if t.kind = 5 then ⟨5, [], 0, 0, t.kids.map plainS⟩ else t := by
  obtain ⟨k, s, a, b, ks⟩ := t; rw [plainS]
theorem plain_set (s : List Rg) : plainS (setT s) = setT s := by rw [plainS_eq]; simp [setT]
theorem plain_row (l : List Tm) : plainS (sevT 2 l) = (l.map plainS).foldr catS emptT := by rw [plainS_eq]; simp [sevT]
theorem plain_sev (k : Int) (l : List Tm) (hk : k = 3 ∨ k = 4) : plainS (sevT k l) = joinS k (l.map plainS) := by rw [plainS_eq]; rcases hk with rfl | rfl <;> simp [sevT]
theorem plain_not (x : Tm) : plainS (notT x) = notT (plainS x) := by rw [plainS_eq]; simp [notT]
theorem plain_rep (x : Tm) (lo hi : Int) : plainS (repT x lo hi) = repS (plainS x) lo hi := by rw [plainS_eq]; simp [repT]

theorem nf_row : ∀ (l : List Tm), (∀ x ∈ l, Nf x) → Nf (l.foldr catS emptT)
  | [], _ => nf_empt
  | x :: l, h => nf_catS (h x (by simp)) (nf_row l fun y hy => h y (by simp [hy]))
theorem nf_plain : ∀ (t : Tm), Org t → Nf (plainS t) := by
  refine Tm.ind ?_
  intro t ih h
  revert ih
  refine org_cases (P := fun t => (∀ k ∈ t.kids, Org k → Nf (plainS k)) → Nf (plainS t)) t h ?_ ?_ ?_ ?_ ?_
  · intro s _; rw [plain_set]; exact nf_set s
  · intro l h5 ih; rw [plain_row]
    refine nf_row _ ?_
    intro x hx; obtain ⟨u, hu, rfl⟩ := List.mem_map.1 hx; exact ih u (by simpa [sevT] using hu) (h5 u hu)
  · intro k l hk _ h5 ih; rw [plain_sev k l hk]
    refine nf_joinS hk ?_
    intro x hx; obtain ⟨u, hu, rfl⟩ := List.mem_map.1 hx; exact ih u (by simpa [sevT] using hu) (h5 u hu)
  · intro x hx ih; rw [plain_not]; exact nf_not (ih x (by simp [notT]) hx)
  · intro x lo hi hx h0 h1 ih; rw [plain_rep]; exact nf_repS (ih x (by simp [repT]) hx) h0 (by omega)

theorem rowM_iff : ∀ (X Y : List (List Int → Prop)), X.length = Y.length → (∀ i, ∀ w, (X.getD i (fun _ => False)) w ↔ (Y.getD i (fun _ => False)) w) → ∀ w, rowM X w ↔ rowM Y w
  | [], [], _, _, w => Iff.rfl
  | [], _ :: _, h, _, _ => by simp at h
  | _ :: _, [], h, _, _ => by simp at h
  | x :: X, y :: Y, hl, h, w => by
    have h0 := h 0
    have hr := rowM_iff X Y (by simpa using hl) fun i w => by simpa using h (i + 1) w
    simp only [rowM]
    constructor
    · rintro ⟨a, b, e, h1, h2⟩; exact ⟨a, b, e, (by simpa using (h0 a).1 (by simpa using h1)), (hr b).1 h2⟩
    · rintro ⟨a, b, e, h1, h2⟩; exact ⟨a, b, e, (by simpa using (h0 a).2 (by simpa using h1)), (hr b).2 h2⟩
theorem M_foldr : ∀ (l : List Tm), (∀ x ∈ l, Nf x) → ∀ w, M (l.foldr catS emptT) w ↔ rowM (l.map M) w
  | [], _, w => by simp only [List.foldr_nil, List.map_nil, rowM]; exact M_empt w
  | x :: l, h, w => by
    have hl := fun y hy => h y (List.mem_cons_of_mem x hy)
    rw [List.foldr_cons, M_catS _ _ (h x (by simp)) (nf_row l hl)]
    simp only [List.map_cons, rowM]
    exact ⟨fun ⟨a, b, e, h1, h2⟩ => ⟨a, b, e, h1, (M_foldr l hl b).1 h2⟩, fun ⟨a, b, e, h1, h2⟩ => ⟨a, b, e, h1, (M_foldr l hl b).2 h2⟩⟩
theorem rowM_plain : ∀ (l : List Tm), (∀ x ∈ l, ∀ w, M (plainS x) w ↔ M x w) → ∀ w, rowM ((l.map plainS).map M) w ↔ rowM (l.map M) w
  | [], _, w => Iff.rfl
  | x :: l, h, w => by
    simp only [List.map_cons, rowM]
    have hr := rowM_plain l fun y hy => h y (by simp [hy])
    exact ⟨fun ⟨a, b, e, h1, h2⟩ => ⟨a, b, e, (h x (by simp) a).1 h1, (hr b).1 h2⟩, fun ⟨a, b, e, h1, h2⟩ => ⟨a, b, e, (h x (by simp) a).2 h1, (hr b).2 h2⟩⟩
theorem powM_iff {X Y : List Int → Prop} (h : ∀ w, X w ↔ Y w) : ∀ (n : Nat) (w : List Int), powM X n w ↔ powM Y n w
  | 0, w => Iff.rfl
  | n + 1, w => by
    simp only [powM]
    exact ⟨fun ⟨a, b, e, h1, h2⟩ => ⟨a, b, e, (h a).1 h1, (powM_iff h n b).1 h2⟩, fun ⟨a, b, e, h1, h2⟩ => ⟨a, b, e, (h a).2 h1, (powM_iff h n b).2 h2⟩⟩
theorem M_plain : ∀ (t : Tm), Org t → ∀ w, M (plainS t) w ↔ M t w := by
  refine Tm.ind ?_
  intro t ih h w
  revert ih
  refine org_cases (P := fun t => (∀ k ∈ t.kids, Org k → ∀ w, M (plainS k) w ↔ M k w) → (M (plainS t) w ↔ M t w)) t h ?_ ?_ ?_ ?_ ?_
  · intro s _; rw [plain_set]
  · intro l h5 ih
    have hnf : ∀ x ∈ l.map plainS, Nf x := by
      intro x hx; obtain ⟨u, hu, rfl⟩ := List.mem_map.1 hx; exact nf_plain u (h5 u hu)
    rw [plain_row, M_foldr _ hnf, rowM_plain l fun x hx => ih x (by simpa [sevT] using hx) (h5 x hx), sevT, M_row]
  · intro k l hk hl h5 ih
    have hnf : ∀ x ∈ l.map plainS, Nf x := by
      intro x hx; obtain ⟨u, hu, rfl⟩ := List.mem_map.1 hx; exact nf_plain u (h5 u hu)
    have ih' : ∀ x ∈ l, (M (plainS x) w ↔ M x w) := fun x hx => ih x (by simpa [sevT] using hx) (h5 x hx) w
    rw [plain_sev k l hk]
    rcases hk with rfl | rfl
    · rw [M_join3 hnf, sevT, M_or]
      constructor
      · rintro ⟨t, ht, h⟩; obtain ⟨u, hu, rfl⟩ := List.mem_map.1 ht; exact ⟨u, hu, (ih' u hu).1 h⟩
      · rintro ⟨u, hu, h⟩; exact ⟨_, List.mem_map_of_mem hu, (ih' u hu).2 h⟩
    · rw [M_join4 (by simpa using hl) hnf, sevT, M_and]
      constructor
      · intro h u hu; exact (ih' u hu).1 (h _ (List.mem_map_of_mem hu))
      · intro h t ht; obtain ⟨u, hu, rfl⟩ := List.mem_map.1 ht; exact (ih' u hu).2 (h u hu)
  · intro x hx ih; rw [plain_not, M_not, M_not, ih x (by simp [notT]) hx]
  · intro x lo hi hx h0 h1 ih
    rw [plain_rep, M_repS (nf_plain x hx) h0 (by omega), M_rep]
    have := powM_iff (ih x (by simp [repT]) hx)
    exact ⟨fun ⟨n, a, b, c⟩ => ⟨n, a, b, (this n w).1 c⟩, fun ⟨n, a, b, c⟩ => ⟨n, a, b, (this n w).2 c⟩⟩

/-! ## Small -/
def wT (t : Tm) : Nat := match t with
  | ⟨k, s, a, b, ks⟩ => if k = 1 then 1 else if k = 6 then (ks.map wT).sum * max (max a b).toNat 1 + 1 else (ks.map wT).sum + 1
theorem wT_eq (t : Tm) : wT t = if t.kind = 1 then 1 else if t.kind = 6 then (t.kids.map wT).sum * max (max t.mn t.mx).toNat 1 + 1 else (t.kids.map wT).sum + 1 := by
  obtain ⟨k, s, a, b, ks⟩ := t; rw [wT]
theorem wT_set (s : List Rg) : wT (setT s) = 1 := by rw [wT_eq]; simp [setT]
theorem wT_not (x : Tm) : wT (notT x) = wT x + 1 := by rw [wT_eq]; simp [notT]
theorem wT_rep (x : Tm) (lo hi : Int) : wT (repT x lo hi) = wT x * max (max lo hi).toNat 1 + 1 := by rw [wT_eq]; simp [repT]
theorem wT_sev (k : Int) (l : List Tm) (hk : k = 2 ∨ k = 3 ∨ k = 4) : wT (sevT k l) = (l.map wT).sum + 1 := by rw [wT_eq]; rcases hk with rfl | rfl | rfl <;> simp [sevT]
theorem wT_pos (t : Tm) : 1 ≤ wT t := by rw [wT_eq]; split <;> (try split) <;> omega

def sumG (f : Tm → Nat) (l : List Tm) : Nat := (l.map f).sum
theorem sum_ins (f : Tm → Nat) : ∀ (l : List Tm) (t : Tm), sumG f (insS l t) ≤ sumG f l + f t
  | [], t => by simp [insS, sumG]
  | x :: r, t => by
    have := sum_ins f r t
    simp only [insS]; split
    · simp only [sumG, List.map_cons, List.sum_cons]; omega
    · split
      · simp only [sumG, List.map_cons, List.sum_cons]; omega
      · simp only [sumG, List.map_cons, List.sum_cons] at this ⊢; omega
theorem sum_foldIns (f : Tm → Nat) : ∀ (l acc : List Tm), sumG f (l.foldl insS acc) ≤ sumG f acc + sumG f l
  | [], acc => by simp [sumG]
  | t :: l, acc => by
    have := sum_foldIns f l (insS acc t); have := sum_ins f acc t
    simp only [List.foldl_cons]
    have e : sumG f (t :: l) = f t + sumG f l := by simp [sumG]
    omega
theorem sum_gat (f : Tm → Nat) (k : Int) (hf : ∀ t : Tm, sumG f (trm k t) ≤ f t) : ∀ (l acc : List Tm), sumG f (gatA k acc l) ≤ sumG f acc + sumG f l
  | [], acc => by simp [gatA, sumG]
  | t :: l, acc => by
    have h1 := sum_gat f k hf l ((trm k t).foldl insS acc); have h2 := sum_foldIns f (trm k t) acc; have h3 := hf t
    have e : gatA k acc (t :: l) = gatA k ((trm k t).foldl insS acc) l := rfl
    have e2 : sumG f (t :: l) = f t + sumG f l := by simp [sumG]
    rw [e]; omega
theorem trm_gT (k : Int) (hk : k = 3 ∨ k = 4) (t : Tm) : sumG gT (trm k t) ≤ gT t := by
  unfold trm; split
  · rw [gT_eq, if_neg (by omega)]; simp only [sumG]; omega
  · split <;> simp [sumG]
theorem trm_aT (k : Int) (hk : k = 3 ∨ k = 4) (t : Tm) : sumG aT (trm k t) ≤ aT t := by
  unfold trm; split
  · rw [aT_eq, if_neg (by omega), if_neg (by omega)]; simp [sumG]
  · split <;> simp [sumG]
theorem gT_join (k : Int) (hk : k = 3 ∨ k = 4) (l : List Tm) : gT (joinS k l) ≤ 1 + sumG gT l := by
  have h := sum_gat gT k (trm_gT k hk) l []
  have hn : gT nothT = 1 := gT_set []
  have e : sumG gT [] = 0 := rfl
  unfold joinS; split
  · omega
  · generalize gatA k [] l = L at h
    match L, h with
    | [], h => simp only [oneS]; omega
    | [x], h => simp only [oneS]; simp [sumG] at h; simp only [sumG]; omega
    | x :: y :: L, h =>
      have e3 : oneS k (x :: y :: L) = sevT k (x :: y :: L) := rfl
      rw [e3, gT_sev k _ hk]; simp only [sumG] at h e ⊢; omega
theorem aT_join (k : Int) (hk : k = 3 ∨ k = 4) (l : List Tm) (hl : 1 ≤ sumG aT l) : aT (joinS k l) ≤ sumG aT l := by
  have h := sum_gat aT k (trm_aT k hk) l []
  have hn : aT nothT = 1 := aT_set []
  have e : sumG aT [] = 0 := rfl
  unfold joinS; split
  · omega
  · generalize gatA k [] l = L at h
    match L, h with
    | [], h => simp only [oneS]; omega
    | [x], h => simp only [oneS]; simp [sumG] at h; simp only [sumG]; omega
    | x :: y :: L, h =>
      have e3 : oneS k (x :: y :: L) = sevT k (x :: y :: L) := rfl
      rw [e3, aT_sev k _ hk]; simp only [sumG] at h e ⊢; omega
theorem gT_pos (t : Tm) : 1 ≤ gT t := by rw [gT_eq]; split <;> omega
theorem gT_catS : ∀ (a b : Tm), Nf a → Nf b → gT (catS a b) ≤ 1 + (gT a + gT b) ∧ aT (catS a b) ≤ aT a + aT b := by
  refine Tm.ind ?_
  intro a ih b ha hb
  have ga := gT_pos a
  have gb := gT_pos b
  have aa := aT_pos a ha
  have ab := aT_pos b hb
  have gn : gT nothT = 1 := gT_set []
  have an : aT nothT = 1 := aT_set []
  cases h1 : isNo a
  · cases h2 : isNo b
    · cases h3 : isEm b
      · by_cases hk : a.kind = 2
        · revert ih hk ga aa
          refine nf_cases (P := fun a => (∀ k ∈ a.kids, ∀ (b : Tm), Nf k → Nf b → gT (catS k b) ≤ 1 + (gT k + gT b) ∧ aT (catS k b) ≤ aT k + aT b) → 1 ≤ gT a → 1 ≤ aT a → a.kind = 2 → gT (catS a b) ≤ 1 + (gT a + gT b) ∧ aT (catS a b) ≤ aT a + aT b) a ha ?_ ?_ ?_ ?_ ?_ ?_
          · intro s _ _ _ h; simp [setT] at h
          · intro _ _ _ _; rw [catS_em_l hb]; omega
          · intro x y _ hy _ _ _ _ ih _ _ _
            have := ih y (by simp [catT]) b hy hb
            rw [catS_cat h2 h3, gT_cat, gT_cat, aT_cat, aT_cat]; omega
          · intro k l hk _ _ _ _ _ _ _ h; simp only [sevT] at h; omega
          · intro x _ _ _ _ h; simp [notT] at h
          · intro x _ _ _ _ _ _ _ _ _ _ h; simp [repT] at h
        · rw [catS_plain hk h1 h2 h3, gT_cat, aT_cat]; omega
      · have := nf_em hb h3; subst this
        rw [catS_em_r ha]; omega
    · rw [catS_no_r h2]; omega
  · rw [catS_no_l h1]; omega
theorem gT_repS (x : Tm) (hx : Nf x) (lo hi : Int) : gT (repS x lo hi) ≤ 1 + ((max lo hi).toNat + 1) * (1 + gT x) ∧ aT (repS x lo hi) ≤ aT x := by
  have gn : gT nothT = 1 := gT_set []
  have an : aT nothT = 1 := aT_set []
  have ax := aT_pos x hx
  unfold repS; split
  · rw [gT_empt, aT_empt]; omega
  · split
    · omega
    · split
      · rw [gT_empt, aT_empt]; omega
      · rw [gT_rep, aT_rep]; omega

theorem pow_rep (c w : Nat) (hc : 1 ≤ c) (hw : 1 ≤ w) : 2 + (c + 1) * 3 ^ w ≤ 3 ^ (w * c + 1) := by
  have h3 : 3 ≤ 3 ^ w := by
    calc 3 = 3 ^ 1 := by simp
      _ ≤ 3 ^ w := Nat.pow_le_pow_right (by omega) hw
  have hcc : ∀ d : Nat, d + 1 ≤ (3 ^ w) ^ d := by
    intro d
    induction d with
    | zero => simp
    | succ d ih =>
      rw [Nat.pow_succ]
      have := Nat.mul_le_mul ih h3
      omega
  obtain ⟨d, rfl⟩ : ∃ d, c = d + 1 := ⟨c - 1, by omega⟩
  have h1 : (d + 1) * 3 ^ w ≤ 3 ^ (w * (d + 1)) := by
    rw [Nat.pow_mul, Nat.pow_succ]
    exact Nat.mul_le_mul_right _ (hcc d)
  rw [Nat.pow_succ]
  have h4 : (d + 1 + 1) * 3 ^ w = (d + 1) * 3 ^ w + 3 ^ w := by rw [Nat.add_mul (d + 1) 1, Nat.one_mul]
  have h5 : 3 ^ w ≤ (d + 1) * 3 ^ w := Nat.le_mul_of_pos_left _ (by omega)
  omega
theorem pow_sum : ∀ (l : List Tm), (∀ x ∈ l, gT (plainS x) + 1 ≤ 3 ^ wT x) → sumG gT (l.map plainS) + 1 ≤ 3 ^ (l.map wT).sum
  | [], _ => by simp [sumG]
  | x :: l, h => by
    have h1 := h x (by simp)
    have h2 := pow_sum l fun y hy => h y (by simp [hy])
    have e : sumG gT ((x :: l).map plainS) = gT (plainS x) + sumG gT (l.map plainS) := by simp [sumG]
    rw [e, List.map_cons, List.sum_cons, Nat.pow_add]
    have := Nat.mul_le_mul h1 h2
    rw [Nat.add_mul] at this
    have := Nat.mul_le_mul (gT_pos (plainS x)) (Nat.le_refl (sumG gT (l.map plainS) + 1))
    have : gT (plainS x) ≤ gT (plainS x) * (sumG gT (l.map plainS) + 1) := Nat.le_mul_of_pos_right _ (by omega)
    omega
theorem row_gT : ∀ (l : List Tm), l ≠ [] → (∀ x ∈ l, Nf (plainS x)) → (∀ x ∈ l, gT (plainS x) + 1 ≤ 3 ^ wT x) → gT ((l.map plainS).foldr catS emptT) + 1 ≤ 3 ^ (l.map wT).sum
  | [x], _, hn, h => by
    simp only [List.map_cons, List.map_nil, List.foldr_cons, List.foldr_nil, List.sum_cons, List.sum_nil]
    rw [catS_em_r (hn x (by simp))]; exact h x (by simp)
  | x :: y :: l, _, hn, h => by
    have h1 := h x (by simp)
    have h2 := row_gT (y :: l) (by simp) (fun z hz => hn z (by simp [hz])) fun z hz => h z (by simp [hz])
    show gT (catS (plainS x) (((y :: l).map plainS).foldr catS emptT)) + 1 ≤ 3 ^ (wT x + ((y :: l).map wT).sum)
    rw [Nat.pow_add]
    have hnr : Nf (((y :: l).map plainS).foldr catS emptT) := by
      refine nf_row _ ?_
      intro z hz; obtain ⟨u, hu, rfl⟩ := List.mem_map.1 hz; exact hn u (by simp [hu])
    have h3 := (gT_catS (plainS x) _ (hn x (by simp)) hnr).1
    have h4 := gT_pos (plainS x)
    have h5 := gT_pos (((y :: l).map plainS).foldr catS emptT)
    generalize gT (((y :: l).map plainS).foldr catS emptT) = G at *
    generalize gT (plainS x) = g at *
    generalize 3 ^ wT x = A at *
    generalize 3 ^ (List.map wT (y :: l)).sum = B at *
    have h6 := Nat.mul_le_mul h1 h2
    have h7 : (g + 1) * (G + 1) = g * G + g + G + 1 := by rw [Nat.add_mul, Nat.mul_add]; omega
    have h8 : 1 ≤ g * G := Nat.mul_pos h4 h5
    omega
theorem row_aT : ∀ (l : List Tm), (∀ x ∈ l, Nf (plainS x)) → (∀ x ∈ l, aT (plainS x) ≤ wT x) → aT ((l.map plainS).foldr catS emptT) ≤ (l.map wT).sum + 1
  | [], _, _ => by simp [aT_empt]
  | x :: l, hn, h => by
    have h1 := h x (by simp)
    have h2 := row_aT l (fun z hz => hn z (by simp [hz])) fun z hz => h z (by simp [hz])
    have hnr : Nf ((l.map plainS).foldr catS emptT) := by
      refine nf_row _ ?_
      intro z hz; obtain ⟨u, hu, rfl⟩ := List.mem_map.1 hz; exact hn u (by simp [hu])
    have h3 := (gT_catS (plainS x) _ (hn x (by simp)) hnr).2
    rw [List.map_cons, List.foldr_cons, List.map_cons, List.sum_cons]; omega
theorem sumA_le : ∀ (l : List Tm), (∀ x ∈ l, aT (plainS x) ≤ wT x) → sumG aT (l.map plainS) ≤ (l.map wT).sum
  | [], _ => by simp [sumG]
  | x :: l, h => by
    have h1 := h x (by simp)
    have h2 := sumA_le l fun z hz => h z (by simp [hz])
    simp only [sumG, List.map_cons, List.sum_cons] at h2 ⊢; omega
theorem plain_small : ∀ (t : Tm), Org t → gT (plainS t) + 1 ≤ 3 ^ wT t ∧ aT (plainS t) ≤ wT t := by
  refine Tm.ind ?_
  intro t ih h
  revert ih
  refine org_cases (P := fun t => (∀ k ∈ t.kids, Org k → gT (plainS k) + 1 ≤ 3 ^ wT k ∧ aT (plainS k) ≤ wT k) → gT (plainS t) + 1 ≤ 3 ^ wT t ∧ aT (plainS t) ≤ wT t) t h ?_ ?_ ?_ ?_ ?_
  · intro s _; rw [plain_set, wT_set, gT_set, aT_set]; omega
  · intro l h5 ih
    have ih' : ∀ x ∈ l, gT (plainS x) + 1 ≤ 3 ^ wT x ∧ aT (plainS x) ≤ wT x := fun x hx => ih x (by simpa [sevT] using hx) (h5 x hx)
    rw [plain_row, wT_sev 2 l (.inl rfl)]
    refine ⟨?_, row_aT l (fun x hx => nf_plain x (h5 x hx)) fun x hx => (ih' x hx).2⟩
    by_cases hl : l = []
    · subst hl; simp [gT_empt]
    · have := row_gT l hl (fun x hx => nf_plain x (h5 x hx)) fun x hx => (ih' x hx).1
      rw [Nat.pow_succ]; omega
  · intro k l hk hl h5 ih
    have ih' : ∀ x ∈ l, gT (plainS x) + 1 ≤ 3 ^ wT x ∧ aT (plainS x) ≤ wT x := fun x hx => ih x (by simpa [sevT] using hx) (h5 x hx)
    rw [plain_sev k l hk, wT_sev k l (.inr hk)]
    have h1 := gT_join k hk (l.map plainS)
    have h2 := pow_sum l fun x hx => (ih' x hx).1
    have h3 := sumA_le l fun x hx => (ih' x hx).2
    have h4 : 1 ≤ sumG aT (l.map plainS) := by
      match l, hl, h5 with
      | x :: l, _, h5 => have := aT_pos (plainS x) (nf_plain x (h5 x (by simp))); simp only [sumG, List.map_cons, List.sum_cons]; omega
    have h6 := aT_join k hk (l.map plainS) h4
    refine ⟨?_, by omega⟩
    rw [Nat.pow_succ]; omega
  · intro x hx ih
    have := ih x (by simp [notT]) hx
    rw [plain_not, wT_not, gT_not, aT_not, Nat.pow_succ]; omega
  · intro x lo hi hx h0 h1 ih
    have h2 := ih x (by simp [repT]) hx
    have h3 := gT_repS (plainS x) (nf_plain x hx) lo hi
    rw [plain_rep, wT_rep]
    have hw := wT_pos x
    generalize hc : max (max lo hi).toNat 1 = c
    have hc1 : 1 ≤ c := by omega
    have h4 := pow_rep c (wT x) hc1 hw
    refine ⟨?_, ?_⟩
    · have h5 : ((max lo hi).toNat + 1) * (1 + gT (plainS x)) ≤ (c + 1) * 3 ^ wT x := Nat.mul_le_mul (by omega) (by omega)
      omega
    · have : wT x ≤ wT x * c := Nat.le_mul_of_pos_right _ (by omega)
      omega

end Go.Proofs.YtbjohedenfindaaGreatDoor

namespace Go.Proofs.YtbjohedenfindaaGreatDoor
open Go.RowKit
set_option linter.unusedVariables false
set_option maxRecDepth 100000

def TT (ok : Nat → Prop) (w : World) (v : Value) (t : Tm) : Prop := Tree ok w v (reOf t)
/-- a list of trees in memory -/
def Kd (ok : Nat → Prop) (w : World) (v : Value) (l : List Tm) : Prop :=
  ∃ ka kc, v = .slice ka l.length kc ∧ ∀ j, j < l.length → ∃ g off u, ka = some ⟨g, off, none⟩ ∧ g < w.heap.size ∧ ok g ∧ w.cell? ⟨g, off + j, none⟩ = some u ∧ TT ok w u (l.getD j nothT)
theorem TT.below {ok : Nat → Prop} {w w' : World} {v : Value} {t : Tm} (h : TT ok w v t) (hb : Below w.heap.size w w') : TT ok w' v t :=
  Tree.moved h hb.size fun b hb' hok => ⟨hok, hb.block b hb'⟩
theorem Kd.below {ok : Nat → Prop} {w w' : World} {v : Value} {l : List Tm} (h : Kd ok w v l) (hb : Below w.heap.size w w') : Kd ok w' v l := by
  obtain ⟨ka, kc, rfl, h⟩ := h
  refine ⟨ka, kc, rfl, fun j hj => ?_⟩
  obtain ⟨g, off, u, h1, h2, hg, h3, h4⟩ := h j hj
  exact ⟨g, off, u, h1, Nat.lt_of_lt_of_le h2 hb.size, hg, (hb.cell (p := ⟨g, off + j, none⟩) h2).trans h3, h4.below hb⟩
theorem Kd.nil {ok : Nat → Prop} {w : World} (a : Option Addr) (c : Nat) : Kd ok w (.slice a 0 c) [] := ⟨a, c, rfl, fun j hj => by simp at hj⟩

/-- what lies where a tree is -/
structure Node (ok : Nat → Prop) (w : World) (v : Value) (t : Tm) (b : Nat) (sv : Value) (ka : Option Addr) (kc : Nat) : Prop where
  v_eq : v = .pointer (some ⟨b, 0, none⟩)
  lt : b < w.heap.size
  okb : ok b
  c0 : w.cell? ⟨b, 0, none⟩ = some (.int .i64 t.kind)
  c1 : w.cell? ⟨b, 1, none⟩ = some sv
  c2 : w.cell? ⟨b, 2, none⟩ = some (.int .i64 t.mn)
  c3 : w.cell? ⟨b, 3, none⟩ = some (.int .i64 t.mx)
  c4 : w.cell? ⟨b, 4, none⟩ = some (.slice ka t.kids.length kc)
  set : RowR ok w sv t.set
  kid : ∀ j, j < t.kids.length → ∃ g off u, ka = some ⟨g, off, none⟩ ∧ g < w.heap.size ∧ ok g ∧ w.cell? ⟨g, off + j, none⟩ = some u ∧ TT ok w u (t.kids.getD j nothT)
theorem getD_map_re (l : List Tm) (j : Nat) (h : j < l.length) : ((l.map reOf).map some).getD j none = some (reOf (l.getD j nothT)) := by
  simp [List.getD_eq_getElem?_getD, List.getElem?_eq_getElem h]
theorem TT.node {ok : Nat → Prop} {w : World} {v : Value} {t : Tm} (h : TT ok w v t) : ∃ b sv ka kc, Node ok w v t b sv ka kc := by
  obtain ⟨n, h⟩ := h
  cases n with
  | zero => exact h.elim
  | succ n =>
    obtain ⟨b, sv, kv, rfl, hokb, h3, h4, h5⟩ := h
    have hb := (Array.getElem?_eq_some_iff.1 h3).1
    rw [reOf_eq] at h3 h4 h5
    simp only at h3 h4 h5
    have hl : ((t.kids.map reOf).map some).length = t.kids.length := by simp
    have hkv : ∃ ka kc, kv = .slice ka t.kids.length kc ∧ ∀ j, j < t.kids.length → ∃ g off u, ka = some ⟨g, off, none⟩ ∧ g < w.heap.size ∧ ok g ∧ w.cell? ⟨g, off + j, none⟩ = some u ∧ TT ok w u (t.kids.getD j nothT) := by
      rcases h5 with ⟨h, a, c, rfl⟩ | ⟨g, off, c, rfl, hg, hok, hc⟩
      · have : t.kids = [] := by simpa using h
        rw [this]; exact ⟨a, c, rfl, fun j hj => by simp at hj⟩
      · rw [hl] at hc ⊢
        refine ⟨_, _, rfl, fun j hj => ?_⟩
        obtain ⟨u, hu, hp⟩ := hc j hj
        rw [getD_map_re _ _ hj] at hp
        exact ⟨g, off, u, rfl, hg, hok, hu, n, hp⟩
    obtain ⟨ka, kc, rfl, hk⟩ := hkv
    exact ⟨b, sv, ka, kc, rfl, hb, hokb, by simp [World.cell?, h3], by simp [World.cell?, h3], by simp [World.cell?, h3], by simp [World.cell?, h3], by simp [World.cell?, h3], h4, hk⟩
theorem Node.kids {ok : Nat → Prop} {w : World} {v : Value} {t : Tm} {b : Nat} {sv : Value} {ka : Option Addr} {kc : Nat} (h : Node ok w v t b sv ka kc) : Kd ok w (.slice ka t.kids.length kc) t.kids := ⟨ka, kc, rfl, h.kid⟩
theorem Node.below {ok : Nat → Prop} {w w' : World} {v : Value} {t : Tm} {b : Nat} {sv : Value} {ka : Option Addr} {kc : Nat} (h : Node ok w v t b sv ka kc) (hb : Below w.heap.size w w') : Node ok w' v t b sv ka kc :=
  ⟨h.v_eq, Nat.lt_of_lt_of_le h.lt hb.size, h.okb, (hb.cell (p := ⟨b, 0, none⟩) h.lt).trans h.c0, (hb.cell (p := ⟨b, 1, none⟩) h.lt).trans h.c1, (hb.cell (p := ⟨b, 2, none⟩) h.lt).trans h.c2, (hb.cell (p := ⟨b, 3, none⟩) h.lt).trans h.c3, (hb.cell (p := ⟨b, 4, none⟩) h.lt).trans h.c4,
    h.set.moved hb.size fun b hb' hok => ⟨hok, hb.block b hb'⟩, fun j hj => by
      obtain ⟨g, off, u, h1, h2, hg, h3, h4⟩ := h.kid j hj
      exact ⟨g, off, u, h1, Nat.lt_of_lt_of_le h2 hb.size, hg, (hb.cell (p := ⟨g, off + j, none⟩) h2).trans h3, h4.below hb⟩⟩
theorem fuel_kd {ok : Nat → Prop} {w : World} (l : List Tm) (P : Nat → Value → Prop) (h : ∀ j, j < l.length → ∃ u, P j u ∧ TT ok w u (l.getD j nothT)) : ∀ m, m ≤ l.length → ∃ n, ∀ j, j < m → ∃ u, P j u ∧ IsRe ok n w u (reOf (l.getD j nothT))
  | 0, _ => ⟨0, fun j hj => by omega⟩
  | m + 1, hm => by
    obtain ⟨n, hn⟩ := fuel_kd l P h m (by omega)
    obtain ⟨u, hu, k, hk⟩ := h m (by omega)
    refine ⟨max n k, fun j hj => ?_⟩
    by_cases e : j = m
    · subst e; exact ⟨u, hu, hk.more k _ (Nat.le_max_right _ _)⟩
    · obtain ⟨u', hu', h'⟩ := hn j (by omega)
      exact ⟨u', hu', h'.more n _ (Nat.le_max_left _ _)⟩
/-- a new node -/
theorem TT.mk {ok : Nat → Prop} {w : World} {b : Nat} {sv kv : Value} {kind mn mx : Int} {set : List Rg} {l : List Tm} (hb : w.heap[b]? = some (.cells #[.int .i64 kind, sv, .int .i64 mn, .int .i64 mx, kv] 48 (0, 0))) (hok : ok b) (hset : RowR ok w sv set) (hk : Kd ok w kv l) :
    TT ok w (.pointer (some ⟨b, 0, none⟩)) ⟨kind, set, mn, mx, l⟩ := by
  obtain ⟨ka, kc, rfl, hk⟩ := hk
  obtain ⟨n, hn⟩ := fuel_kd (w := w) l (fun j u => ∃ g off, ka = some ⟨g, off, none⟩ ∧ g < w.heap.size ∧ ok g ∧ w.cell? ⟨g, off + j, none⟩ = some u) (fun j hj => by
    obtain ⟨g, off, u, h1, h2, hg, h3, h4⟩ := hk j hj
    exact ⟨u, ⟨g, off, h1, h2, hg, h3⟩, h4⟩) l.length (Nat.le_refl _)
  refine ⟨n + 1, b, sv, .slice ka l.length kc, rfl, hok, ?_, ?_, ?_⟩
  · rw [reOf_eq]; exact hb
  · rw [reOf_eq]; exact hset
  · rw [reOf_eq]
    by_cases he : l = []
    · subst he; exact Or.inl ⟨by simp, ka, kc, rfl⟩
    · have hpos : 0 < l.length := List.length_pos_iff.2 he
      obtain ⟨_, ⟨g, off, e, hg, hgo, _⟩, _⟩ := hn 0 hpos
      refine Or.inr ⟨g, off, kc, by rw [e]; simp, hg, hgo, fun j hj => ?_⟩
      have hj' : j < l.length := by simpa using hj
      obtain ⟨u, ⟨g', off', e', _, _, hc⟩, hI⟩ := hn j hj'
      rw [e] at e'; injection e' with e'; injection e' with e1 e2 e3; subst e1 e2
      refine ⟨u, hc, ?_⟩
      show (match ((l.map reOf).map some).getD j none with | none => u = .pointer none | some k => IsRe ok n w u k)
      rw [getD_map_re _ _ hj']
      exact hI

/-- blocks that ok says, and new ones -/
def orNew (ok : Nat → Prop) (w : World) (b : Nat) : Prop := ok b ∨ w.heap.size ≤ b
/-- what a function of the document's answer gives that makes a tree -/
def Makes (ok : Nat → Prop) (w : World) (t : Tm) (e : Ending) (w' : World) : Prop := ∃ v, e = .returned v ∧ TT (orNew ok w) w' v t ∧ Below w.heap.size w w'
theorem TT.imp {ok ok' : Nat → Prop} {w : World} {v : Value} {t : Tm} (h : TT ok w v t) (hk : ∀ b, ok b → ok' b) : TT ok' w v t := Tree.imp h fun b _ hb => hk b hb
theorem Kd.imp {ok ok' : Nat → Prop} {w : World} {v : Value} {l : List Tm} (h : Kd ok w v l) (hk : ∀ b, ok b → ok' b) : Kd ok' w v l := by
  obtain ⟨ka, kc, rfl, h⟩ := h
  refine ⟨ka, kc, rfl, fun j hj => ?_⟩
  obtain ⟨g, off, u, h1, h2, h3, h4, h5⟩ := h j hj
  exact ⟨g, off, u, h1, h2, hk g h3, h4, h5.imp hk⟩
theorem rnothing_any (ok : Nat → Prop) (w : World) : Calls Tryz.prog 68 #[] w fun e w' => Makes ok w nothT e w' := by
  go_enter Tryz.func68, Tryz.ntmps68
  go_wp2
  go_ret
  exact ⟨_, rfl, TT.mk (heap_alloc_new w _) (.inr (Nat.le_refl _)) (Or.inl ⟨rfl, none, 0, rfl⟩) (Kd.nil none 0), Below.alloc (Below.refl _ _) (Nat.le_refl _) _⟩
theorem rempty_any (ok : Nat → Prop) (w : World) : Calls Tryz.prog 63 #[] w fun e w' => Makes ok w emptT e w' := by
  go_enter Tryz.func63, Tryz.ntmps63
  go_wp2
  go_ret
  exact ⟨_, rfl, TT.mk (heap_alloc_new w _) (.inr (Nat.le_refl _)) (Or.inl ⟨rfl, none, 0, rfl⟩) (Kd.nil none 0), Below.alloc (Below.refl _ _) (Nat.le_refl _) _⟩

theorem RowR.len {ok : Nat → Prop} {w : World} {v : Value} {l : List Rg} (h : RowR ok w v l) : ∃ a c, v = .slice a l.length c := by
  rcases h with ⟨rfl, a, c, rfl⟩ | ⟨b, off, c, rfl, _⟩
  · exact ⟨a, c, rfl⟩
  · exact ⟨_, _, rfl⟩
set_option maxHeartbeats 1000000 in
theorem risNothing_raw {w : World} {b : Nat} (k : Int) (sa : Option Addr) (n sc : Nat) (c0 : w.cell? ⟨b, 0, none⟩ = some (.int .i64 k)) (c1 : w.cell? ⟨b, 1, none⟩ = some (.slice sa n sc)) :
    Calls Tryz.prog 100 #[.pointer (some ⟨b, 0, none⟩)] w fun e w' => e = .returned (.bool (if k = 1 then ((n : Int) == 0) else false)) ∧ w' = w := by
  by_cases hk : k = 1
  · subst hk
    go_enter Tryz.func100, Tryz.ntmps100
    go_wp2
    go_ret
    simp
  · have hk' : (k == 1) = false := by rw [beq_eq_false_iff_ne]; exact hk
    rw [if_neg hk]
    go_enter Tryz.func100, Tryz.ntmps100
    go_wp2
    go_ret
    simp
set_option maxHeartbeats 1000000 in
theorem risEmpty_raw {w : World} {b : Nat} (k : Int) (ka : Option Addr) (n kc : Nat) (c0 : w.cell? ⟨b, 0, none⟩ = some (.int .i64 k)) (c4 : w.cell? ⟨b, 4, none⟩ = some (.slice ka n kc)) :
    Calls Tryz.prog 101 #[.pointer (some ⟨b, 0, none⟩)] w fun e w' => e = .returned (.bool (if k = 2 then ((n : Int) == 0) else false)) ∧ w' = w := by
  by_cases hk : k = 2
  · subst hk
    go_enter Tryz.func101, Tryz.ntmps101
    go_wp2
    go_ret
    simp
  · have hk' : (k == 2) = false := by rw [beq_eq_false_iff_ne]; exact hk
    rw [if_neg hk]
    go_enter Tryz.func101, Tryz.ntmps101
    go_wp2
    go_ret
    simp
theorem risNothing_any {ok : Nat → Prop} {w : World} {v : Value} {t : Tm} (h : TT ok w v t) : Calls Tryz.prog 100 #[v] w fun e w' => e = .returned (.bool (isNo t)) ∧ w' = w := by
  obtain ⟨b, sv, ka, kc, hn⟩ := h.node
  obtain ⟨sa, sc, rfl⟩ := hn.set.len
  have hno : isNo t = (if t.kind = 1 then ((t.set.length : Int) == 0) else false) := by
    by_cases hk : t.kind = 1
    · rw [if_pos hk]; cases hs : t.set <;> simp [isNo, hk, hs]; omega
    · rw [if_neg hk]; simp [isNo, hk]
  rw [hno, hn.v_eq]
  exact risNothing_raw _ _ _ _ hn.c0 hn.c1
theorem risEmpty_any {ok : Nat → Prop} {w : World} {v : Value} {t : Tm} (h : TT ok w v t) : Calls Tryz.prog 101 #[v] w fun e w' => e = .returned (.bool (isEm t)) ∧ w' = w := by
  obtain ⟨b, sv, ka, kc, hn⟩ := h.node
  have hno : isEm t = (if t.kind = 2 then ((t.kids.length : Int) == 0) else false) := by
    by_cases hk : t.kind = 2
    · rw [if_pos hk]; cases hs : t.kids <;> simp [isEm, hk, hs]; omega
    · rw [if_neg hk]; simp [isEm, hk]
  rw [hno, hn.v_eq]
  exact risEmpty_raw _ _ _ _ hn.c0 hn.c4

end Go.Proofs.YtbjohedenfindaaGreatDoor
