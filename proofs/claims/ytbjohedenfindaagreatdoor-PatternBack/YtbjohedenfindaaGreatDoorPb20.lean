/- Texts of the proof, put together: DvC, DvD, DvE. -/
import Derived.Test.YtbjohedenfindaaGreatDoorPb19
namespace Go.Proofs.YtbjohedenfindaaGreatDoor
set_option linter.unusedVariables false

/-- the members that a pattern has among several of a kind -/
def trm (k : Int) (t : Tm) : List Tm := if t.kind = k then t.kids else if isNo t then [] else [t]
def gatA (k : Int) (acc : List Tm) (l : List Tm) : List Tm := l.foldl (fun acc t => (trm k t).foldl insS acc) acc
def oneS (k : Int) : List Tm → Tm
  | [] => nothT
  | [x] => x
  | l => sevT k l
def joinS (k : Int) (l : List Tm) : Tm := if k = 4 ∧ l.any isNo = true then nothT else oneS k (gatA k [] l)
def decI (x : Int) : Int := if 0 < x then x - 1 else x
def repS (x : Tm) (lo hi : Int) : Tm := if hi = 0 then emptT else if isNo x && decide (0 < lo) then nothT else if isNo x || isEm x then emptT else repT x lo hi
def nul (t : Tm) : Bool := match t with
  | ⟨k, s, a, b, ks⟩ =>
    if k = 1 then false else if k = 5 then !(ks.map nul).headD true else if k = 6 then (if a = 0 then true else (ks.map nul).headD false)
    else if k = 3 then (ks.map nul).any id else (ks.map nul).all id
def rowD (ks l : List Tm) : Tm := match ks, l with
  | [x, y], [dx, dy] => if nul x then joinS 3 [catS dx y, dy] else catS dx y
  | _, _ => nothT
def dv (c : Int) (t : Tm) : Tm := match t with
  | ⟨k, s, a, b, ks⟩ =>
    if k = 1 then (if hasB s c then emptT else nothT)
    else if k = 5 then notT ((ks.map (dv c)).headD nothT)
    else if k = 6 then catS ((ks.map (dv c)).headD nothT) (repS (ks.headD nothT) (decI a) (decI b))
    else if k = 2 then rowD ks (ks.map (dv c))
    else joinS k (ks.map (dv c))
theorem dv_eq (c : Int) (t : Tm) : dv c t = if t.kind = 1 then (if hasB t.set c then emptT else nothT)
    else if t.kind = 5 then notT ((t.kids.map (dv c)).headD nothT)
    else if t.kind = 6 then catS ((t.kids.map (dv c)).headD nothT) (repS (t.kids.headD nothT) (decI t.mn) (decI t.mx))
    else if t.kind = 2 then rowD t.kids (t.kids.map (dv c))
    else joinS t.kind (t.kids.map (dv c)) := by
  obtain ⟨k, s, a, b, ks⟩ := t; rw [dv]
theorem dv_set (c : Int) (s : List Rg) : dv c (setT s) = if hasB s c then emptT else nothT := by rw [dv_eq]; exact if_pos (show (setT s).kind = 1 from rfl)
theorem dv_empt (c : Int) : dv c emptT = nothT := by rw [dv_eq]; simp [emptT, rowD]
theorem dv_noth (c : Int) : dv c nothT = nothT := by rw [dv_eq]; simp [nothT, hasB, hasL]
theorem dv_not (c : Int) (x : Tm) : dv c (notT x) = notT (dv c x) := by rw [dv_eq]; simp [notT]
theorem dv_rep (c : Int) (x : Tm) (lo hi : Int) : dv c (repT x lo hi) = catS (dv c x) (repS x (decI lo) (decI hi)) := by rw [dv_eq]; simp [repT]
theorem dv_cat (c : Int) (x y : Tm) : dv c (catT x y) = if nul x then joinS 3 [catS (dv c x) y, dv c y] else catS (dv c x) y := by rw [dv_eq]; simp [catT, rowD]
theorem dv_sev (c k : Int) (l : List Tm) (hk : k = 3 ∨ k = 4) : dv c (sevT k l) = joinS k (l.map (dv c)) := by
  rw [dv_eq]; rcases hk with rfl | rfl <;> simp [sevT]

/-! ## Rows -/
theorem mem_foldIns : ∀ (l acc : List Tm) (x : Tm), x ∈ l.foldl insS acc ↔ x ∈ acc ∨ x ∈ l
  | [], acc, x => by simp
  | t :: l, acc, x => by
    rw [List.foldl_cons, mem_foldIns l, mem_insS]; simp only [List.mem_cons]
    constructor
    · rintro ((h | h) | h); exact .inl h; exact .inr (.inl h); exact .inr (.inr h)
    · rintro (h | h | h); exact .inl (.inl h); exact .inl (.inr h); exact .inr h
theorem srt_foldIns : ∀ (l acc : List Tm), Srt acc → Srt (l.foldl insS acc)
  | [], acc, h => h
  | t :: l, acc, h => srt_foldIns l _ (srt_insS acc t h)
theorem len_foldIns : ∀ (l acc : List Tm), acc.length ≤ (l.foldl insS acc).length ∧ (l.foldl insS acc).length ≤ acc.length + l.length
  | [], acc => by simp
  | t :: l, acc => by
    have := len_foldIns l (insS acc t); have := len_insS acc t
    simp only [List.foldl_cons, List.length_cons]; omega
theorem mem_gatA (k : Int) : ∀ (l acc : List Tm) (x : Tm), x ∈ gatA k acc l ↔ x ∈ acc ∨ ∃ t ∈ l, x ∈ trm k t
  | [], acc, x => by simp [gatA]
  | t :: l, acc, x => by
    have h := mem_gatA k l ((trm k t).foldl insS acc) x
    rw [mem_foldIns] at h
    have e : gatA k acc (t :: l) = gatA k ((trm k t).foldl insS acc) l := rfl
    rw [e, h]
    constructor
    · rintro ((h | h) | ⟨u, hu, hx⟩)
      · exact .inl h
      · exact .inr ⟨t, by simp, h⟩
      · exact .inr ⟨u, by simp [hu], hx⟩
    · rintro (h | ⟨u, hu, hx⟩)
      · exact .inl (.inl h)
      · rcases List.mem_cons.1 hu with rfl | hu
        · exact .inl (.inr hx)
        · exact .inr ⟨u, hu, hx⟩
theorem srt_gatA (k : Int) : ∀ (l acc : List Tm), Srt acc → Srt (gatA k acc l)
  | [], acc, h => h
  | t :: l, acc, h => srt_gatA k l _ (srt_foldIns _ acc h)
theorem len_gatA (k : Int) : ∀ (l acc : List Tm), acc.length ≤ (gatA k acc l).length
  | [], acc => by simp [gatA]
  | t :: l, acc => by
    have := len_gatA k l ((trm k t).foldl insS acc); have := (len_foldIns (trm k t) acc).1
    have e : gatA k acc (t :: l) = gatA k ((trm k t).foldl insS acc) l := rfl
    rw [e]; omega
theorem srt_nil : Srt [] := List.Pairwise.nil

theorem no_kind {t : Tm} {k : Int} (h : t.kind ≠ 1) : isNo t = false := by simp [isNo, h]
theorem trm_nf {k : Int} (hk : k = 3 ∨ k = 4) {t x : Tm} (h : Nf t) (hx : x ∈ trm k t) : Nf x ∧ x.kind ≠ k ∧ isNo x = false := by
  unfold trm at hx
  split at hx
  · rename_i hkk
    refine ⟨h.kid hx, ?_⟩
    revert hx hkk
    refine nf_cases (P := fun t => t.kind = k → x ∈ t.kids → x.kind ≠ k ∧ isNo x = false) t h ?_ ?_ ?_ ?_ ?_ ?_
    · intro s hk; simp only [setT] at hk; omega
    · intro hk; simp only [emptT] at hk; omega
    · intro x y _ _ _ _ _ _ hk; simp only [catT] at hk; omega
    · intro k' l hk' _ _ h4 _ hkk hx; simp only [sevT] at hkk hx; subst hkk; exact h4 x hx
    · intro x _ hk; simp only [notT] at hk; omega
    · intro x _ _ _ _ _ _ _ hk; simp only [repT] at hk; omega
  · split at hx
    · simp at hx
    · simp only [List.mem_singleton] at hx; subst hx
      rename_i h1 h2
      exact ⟨h, h1, by simpa using h2⟩
theorem trm_srt {k : Int} (hk : k = 3 ∨ k = 4) {t : Tm} (h : Nf t) : Srt (trm k t) := by
  unfold trm; split
  · rename_i hkk
    revert hkk
    refine nf_cases (P := fun t => t.kind = k → Srt t.kids) t h ?_ ?_ ?_ ?_ ?_ ?_
    · intro s _; exact srt_nil
    · intro _; exact srt_nil
    · intro x y _ _ _ _ _ _ hk; simp only [catT] at hk; omega
    · intro k' l hk' _ h3 _ _ hkk; exact h3
    · intro x _ hk; simp only [notT] at hk; omega
    · intro x _ _ _ _ _ _ _ hk; simp only [repT] at hk; omega
  · split
    · exact srt_nil
    · simp [Srt]
theorem nf_oneS {k : Int} (hk : k = 3 ∨ k = 4) {l : List Tm} (hs : Srt l) (h : ∀ x ∈ l, Nf x ∧ x.kind ≠ k ∧ isNo x = false) : Nf (oneS k l) ∧ trm k (oneS k l) = l := by
  match l, hs, h with
  | [], _, _ => exact ⟨nf_noth, by rcases hk with rfl | rfl <;> simp [oneS, trm, nothT, isNo]⟩
  | [x], _, h => 
    obtain ⟨h1, h2, h3⟩ := h x (by simp)
    exact ⟨h1, by simp [oneS, trm, h2, h3]⟩
  | x :: y :: l, hs, h => exact ⟨nf_sev hk (by simp) hs (fun z hz => (h z hz).2) (fun z hz => (h z hz).1), by simp [oneS, trm, sevT]⟩
theorem gatA_nf {k : Int} (hk : k = 3 ∨ k = 4) {l : List Tm} (h : ∀ t ∈ l, Nf t) : ∀ x ∈ gatA k [] l, Nf x ∧ x.kind ≠ k ∧ isNo x = false := by
  intro x hx
  obtain hx | ⟨t, ht, hx⟩ := (mem_gatA k l [] x).1 hx
  · simp at hx
  · exact trm_nf hk (h t ht) hx
theorem nf_joinS {k : Int} (hk : k = 3 ∨ k = 4) {l : List Tm} (h : ∀ t ∈ l, Nf t) : Nf (joinS k l) := by
  unfold joinS; split
  · exact nf_noth
  · exact (nf_oneS hk (srt_gatA k l [] srt_nil) (gatA_nf hk h)).1
theorem trm_join3 {l : List Tm} (h : ∀ t ∈ l, Nf t) : trm 3 (joinS 3 l) = gatA 3 [] l := by
  unfold joinS; rw [if_neg (by simp)]
  exact (nf_oneS (.inl rfl) (srt_gatA 3 l [] srt_nil) (gatA_nf (.inl rfl) h)).2
theorem mem_join3 {l : List Tm} (h : ∀ t ∈ l, Nf t) (x : Tm) : x ∈ trm 3 (joinS 3 l) ↔ ∃ t ∈ l, x ∈ trm 3 t := by
  rw [trm_join3 h, mem_gatA]; simp
theorem nf_repS {x : Tm} {lo hi : Int} (hx : Nf x) (h0 : 0 ≤ lo) (h1 : hi = -1 ∨ lo ≤ hi) : Nf (repS x lo hi) := by
  unfold repS; split
  · exact nf_empt
  · split
    · exact nf_noth
    · split
      · exact nf_empt
      · rename_i a b c
        simp only [Bool.or_eq_true, not_or, Bool.not_eq_true] at c
        exact nf_rep hx h0 (by omega) c.1 c.2
theorem nf_dv (c : Int) : ∀ (t : Tm), Nf t → Nf (dv c t) := by
  refine Tm.ind ?_
  intro t ih h
  revert ih
  refine nf_cases (P := fun t => (∀ k ∈ t.kids, Nf k → Nf (dv c k)) → Nf (dv c t)) t h ?_ ?_ ?_ ?_ ?_ ?_
  · intro s _; rw [dv_set]; split; exact nf_empt; exact nf_noth
  · intro _; rw [dv_empt]; exact nf_noth
  · intro x y hx hy _ _ _ _ ih
    have h1 := ih x (by simp [catT]) hx
    have h2 := ih y (by simp [catT]) hy
    rw [dv_cat]; split
    · refine nf_joinS (.inl rfl) ?_
      intro t ht
      simp only [List.mem_cons, List.not_mem_nil, or_false] at ht
      rcases ht with rfl | rfl
      · exact nf_catS h1 hy
      · exact h2
    · exact nf_catS h1 hy
  · intro k l hk _ _ _ h5 ih
    rw [dv_sev c k l hk]
    refine nf_joinS hk ?_
    intro t ht
    obtain ⟨x, hx, rfl⟩ := List.mem_map.1 ht
    exact ih x (by simpa [sevT] using hx) (h5 x hx)
  · intro x hx ih; rw [dv_not]; exact nf_not (ih x (by simp [notT]) hx)
  · intro x lo hi hx h0 h1 _ _ ih
    rw [dv_rep]
    refine nf_catS (ih x (by simp [repT]) hx) (nf_repS hx ?_ ?_)
    · unfold decI; split <;> omega
    · unfold decI; split <;> split <;> omega

/-- the members of what is left are those of what is left of the members -/
theorem trm_dv (c : Int) {t : Tm} (h : Nf t) (x : Tm) : x ∈ trm 3 (dv c t) ↔ ∃ u ∈ trm 3 t, x ∈ trm 3 (dv c u) := by
  by_cases hk : t.kind = 3
  · revert hk
    refine nf_cases (P := fun t => t.kind = 3 → (x ∈ trm 3 (dv c t) ↔ ∃ u ∈ trm 3 t, x ∈ trm 3 (dv c u))) t h ?_ ?_ ?_ ?_ ?_ ?_
    · intro s h; simp [setT] at h
    · intro h; simp [emptT] at h
    · intro x y _ _ _ _ _ _ h; simp [catT] at h
    · intro k l hk _ _ _ h5 hkk
      simp only [sevT] at hkk; subst hkk
      have e : trm 3 (sevT 3 l) = l := by simp [trm, sevT]
      rw [dv_sev c 3 l (.inl rfl), mem_join3, e]
      · constructor
        · rintro ⟨t, ht, hx⟩
          obtain ⟨u, hu, rfl⟩ := List.mem_map.1 ht
          exact ⟨u, hu, hx⟩
        · rintro ⟨u, hu, hx⟩
          exact ⟨_, List.mem_map_of_mem hu, hx⟩
      · intro t ht
        obtain ⟨u, hu, rfl⟩ := List.mem_map.1 ht
        exact nf_dv c u (h5 u hu)
    · intro x _ h; simp [notT] at h
    · intro x _ _ _ _ _ _ _ h; simp [repT] at h
  · cases hn : isNo t
    · simp [trm, hk, hn]
    · have := nf_no h hn; subst this
      simp [dv_noth]
      simp [trm, nothT, isNo]
theorem trm_cat {a b x : Tm} (ha : Nf a) (hb : Nf b) (hx : x ∈ trm 3 (catS a b)) : (isEm a = true ∧ x ∈ trm 3 b) ∨ (isEm b = true ∧ x ∈ trm 3 a) ∨ (isEm a = false ∧ isEm b = false ∧ isNo a = false ∧ isNo b = false ∧ x = catS a b ∧ x.kind = 2) := by
  cases h1 : isNo a
  · cases h2 : isNo b
    · cases h3 : isEm a
      · cases h4 : isEm b
        · refine .inr (.inr ⟨rfl, rfl, rfl, rfl, ?_⟩)
          have hk : (catS a b).kind = 2 := by
            rw [catS_eq, h1, h2, h3, h4]; simp only [Bool.or_self, Bool.false_eq_true, if_false]
            split
            · split <;> rfl
            · rfl
          rw [trm, if_neg (by omega), no_catS ha hb h1 h2] at hx
          simp only [Bool.false_eq_true, if_false, List.mem_singleton] at hx
          subst hx; exact ⟨rfl, hk⟩
        · have := nf_em hb h4; subst this
          rw [catS_em_r ha] at hx; exact .inr (.inl ⟨rfl, hx⟩)
      · have := nf_em ha h3; subst this
        rw [catS_em_l hb] at hx; exact .inl ⟨rfl, hx⟩
    · rw [catS_no_r h2] at hx; simp [trm, nothT, isNo] at hx
  · rw [catS_no_l h1] at hx; simp [trm, nothT, isNo] at hx

end Go.Proofs.YtbjohedenfindaaGreatDoor

namespace Go.Proofs.YtbjohedenfindaaGreatDoor
set_option linter.unusedVariables false

/-- behind a text, its last point first -/
def dvs : List Int → Tm → Tm
  | [], p => p
  | c :: r, p => dv c (dvs r p)
def segs : List Int → Tm → List Tm
  | [], p => [p]
  | c :: r, p => p :: (segs r p).map (dv c)
theorem segs_self (r : List Int) (p : Tm) : p ∈ segs r p := by cases r <;> simp [segs]
theorem segs_step {r : List Int} {p e : Tm} (c : Int) (h : e ∈ segs r p) : dv c e ∈ segs (c :: r) p := by
  simp only [segs, List.mem_cons]; exact .inr (List.mem_map_of_mem h)
theorem segs_ind {p : Tm} {Q : List Int → Tm → Prop} (h0 : ∀ r, Q r p) (h1 : ∀ r c e, e ∈ segs r p → Q r e → Q (c :: r) (dv c e)) : ∀ r e, e ∈ segs r p → Q r e
  | [], e, h => by simp only [segs, List.mem_singleton] at h; subst h; exact h0 []
  | c :: r, e, h => by
    simp only [segs, List.mem_cons] at h
    rcases h with rfl | h
    · exact h0 _
    · obtain ⟨u, hu, rfl⟩ := List.mem_map.1 h
      exact h1 r c u hu (segs_ind h0 h1 r u hu)
theorem segs_nf {p : Tm} (h : Nf p) : ∀ r e, e ∈ segs r p → Nf e := segs_ind (fun _ => h) fun r c e _ h => nf_dv c e h
theorem segs_dvs {p : Tm} : ∀ r e, e ∈ segs r p → ∃ u, e = dvs u p ∧ ∀ q, dvs u q ∈ segs r q :=
  segs_ind (Q := fun r e => ∃ u, e = dvs u p ∧ ∀ q, dvs u q ∈ segs r q) (fun r => ⟨[], rfl, fun q => segs_self r q⟩) fun r c e _ ⟨u, h1, h2⟩ => ⟨c :: u, by rw [h1]; rfl, fun q => segs_step c (h2 q)⟩
theorem segs_len (p : Tm) : ∀ r, (segs r p).length = r.length + 1
  | [] => rfl
  | c :: r => by simp [segs, segs_len p r]

/-! ## The family -/
def ctr : Nat → Int → Int → List (Int × Int)
  | 0, lo, hi => [(lo, hi)]
  | n + 1, lo, hi => (lo, hi) :: ctr n (decI lo) (decI hi)
def rowE (ks : List Tm) (es : List (List Tm)) : List Tm := match ks, es with
  | [x, y], [ex, ey] => ex.map (fun e => catS e y) ++ ey
  | _, _ => []
def repE (a b : Int) (x : Tm) (ex : List Tm) : List Tm := (ctr (max a b).toNat a b).flatMap fun q => repS x q.1 q.2 :: ex.map fun e => catS e (repS x q.1 q.2)
def es (r : List Int) (t : Tm) : List Tm := match t with
  | ⟨k, s, a, b, ks⟩ => segs r ⟨k, s, a, b, ks⟩ ++ (if k = 1 then [emptT] else if k = 5 then [] else if k = 6 then repE a b (ks.headD nothT) ((ks.map (es r)).headD [])
      else if k = 2 then rowE ks (ks.map (es r)) else (ks.map (es r)).flatten)
theorem es_eq (r : List Int) (t : Tm) : es r t = segs r t ++ (if t.kind = 1 then [emptT] else if t.kind = 5 then [] else if t.kind = 6 then repE t.mn t.mx (t.kids.headD nothT) ((t.kids.map (es r)).headD [])
      else if t.kind = 2 then rowE t.kids (t.kids.map (es r)) else (t.kids.map (es r)).flatten) := by
  obtain ⟨k, s, a, b, ks⟩ := t; rw [es]
theorem es_set (r : List Int) (s : List Rg) : es r (setT s) = segs r (setT s) ++ [emptT] := by rw [es_eq]; simp [setT]
theorem es_empt (r : List Int) : es r emptT = segs r emptT := by rw [es_eq]; simp [emptT, rowE]
theorem es_not (r : List Int) (x : Tm) : es r (notT x) = segs r (notT x) := by rw [es_eq]; simp [notT]
theorem es_cat (r : List Int) (x y : Tm) : es r (catT x y) = segs r (catT x y) ++ ((es r x).map (fun e => catS e y) ++ es r y) := by rw [es_eq]; simp [catT, rowE]
theorem es_rep (r : List Int) (x : Tm) (lo hi : Int) : es r (repT x lo hi) = segs r (repT x lo hi) ++ repE lo hi x (es r x) := by rw [es_eq]; simp [repT]
theorem es_sev (r : List Int) (k : Int) (l : List Tm) (hk : k = 3 ∨ k = 4) : es r (sevT k l) = segs r (sevT k l) ++ (l.map (es r)).flatten := by
  rw [es_eq]; rcases hk with rfl | rfl <;> simp [sevT]
theorem es_segs {r : List Int} {p e : Tm} (h : e ∈ segs r p) : e ∈ es r p := by rw [es_eq]; exact List.mem_append_left _ h
theorem es_self (r : List Int) (p : Tm) : p ∈ es r p := es_segs (segs_self r p)
theorem es_left {r : List Int} {p e : Tm} (c : Int) (h : e ∈ segs r p) : dv c e ∈ es (c :: r) p := es_segs (segs_step c h)

/-- how many members of one both the patterns may have -/
def aT (t : Tm) : Nat := match t with
  | ⟨k, s, a, b, ks⟩ => if k = 1 then 1 else if k = 2 ∧ ks.isEmpty then 1 else ((ks.map aT).sum)
theorem aT_eq (t : Tm) : aT t = if t.kind = 1 then 1 else if t.kind = 2 ∧ t.kids.isEmpty then 1 else ((t.kids.map aT).sum) := by
  obtain ⟨k, s, a, b, ks⟩ := t; rw [aT]
theorem aT_cat (x y : Tm) : aT (catT x y) = aT x + aT y := by rw [aT_eq]; simp [catT]
theorem aT_rep (x : Tm) (lo hi : Int) : aT (repT x lo hi) = aT x := by rw [aT_eq]; simp [repT]
theorem aT_not (x : Tm) : aT (notT x) = aT x := by rw [aT_eq]; simp [notT]
theorem aT_set (s : List Rg) : aT (setT s) = 1 := by rw [aT_eq]; simp [setT]
theorem aT_empt : aT emptT = 1 := by rw [aT_eq]; simp [emptT]
theorem aT_sev (k : Int) (l : List Tm) (hk : k = 3 ∨ k = 4) : aT (sevT k l) = (l.map aT).sum := by rw [aT_eq]; rcases hk with rfl | rfl <;> simp [sevT]
theorem sum_mem {l : List Tm} (f : Tm → Nat) {x : Tm} (h : x ∈ l) : f x ≤ (l.map f).sum := by
  induction l with
  | nil => simp at h
  | cons a l ih =>
    simp only [List.map_cons, List.sum_cons]
    rcases List.mem_cons.1 h with rfl | h
    · omega
    · have := ih h; omega
theorem aT_pos : ∀ (t : Tm), Nf t → 1 ≤ aT t := by
  refine Tm.ind ?_
  intro t ih h
  revert ih
  refine nf_cases (P := fun t => (∀ k ∈ t.kids, Nf k → 1 ≤ aT k) → 1 ≤ aT t) t h ?_ ?_ ?_ ?_ ?_ ?_
  · intro s _; rw [aT_set]; omega
  · intro _; rw [aT_empt]; omega
  · intro x y hx hy _ _ _ _ ih; have := ih x (by simp [catT]) hx; rw [aT_cat]; omega
  · intro k l hk h2 _ _ h5 ih
    rw [aT_sev k l hk]
    match l, h2, h5, ih with
    | x :: l, h2, h5, ih => have := ih x (by simp [sevT]) (h5 x (by simp)); simp only [List.map_cons, List.sum_cons]; omega
  · intro x hx ih; have := ih x (by simp [notT]) hx; rw [aT_not]; omega
  · intro x lo hi hx _ _ _ _ ih; have := ih x (by simp [repT]) hx; rw [aT_rep]; omega

/-- one step of a member with something behind it -/
def Stp (p : Tm) (r : List Int) (e : Tm) : Prop := ∀ c B, Nf B → ∀ t ∈ trm 3 (dv c (catS e B)), (∃ e' ∈ es (c :: r) p, t ∈ trm 3 (catS e' B)) ∨ t ∈ trm 3 (dv c B)
structure Fam (p : Tm) (r : List Int) (e : Tm) : Prop where
  nf : Nf e
  mem : ∀ t ∈ trm 3 e, t ∈ es r p
  rest : ∀ a b, e = catT a b → b ∈ es r p
  few : (trm 4 e).length ≤ aT p
  stp : Stp p r e

theorem trm_self {e : Tm} {k : Int} (h1 : e.kind ≠ k) (h2 : isNo e = false) : e ∈ trm k e := by simp [trm, h1, h2]
theorem trm_noth (k : Int) (hk : k = 3 ∨ k = 4) : trm k nothT = [] := by rcases hk with rfl | rfl <;> simp [trm, nothT, isNo]
theorem trm_len {e : Tm} {k : Int} (h : e.kind ≠ k) : (trm k e).length ≤ 1 := by
  unfold trm; rw [if_neg h]; split <;> simp
theorem stp_plain {p : Tm} {r : List Int} {e : Tm} (h : Nf e) (hk : e.kind ≠ 2) (hd : ∀ c, dv c e ∈ es (c :: r) p) : Stp p r e := by
  intro c B hB t ht
  cases h1 : isNo e
  · cases h2 : isNo B
    · cases h3 : isEm B
      · rw [catS_plain hk h1 h2 h3, dv_cat] at ht
        split at ht
        · rw [mem_join3] at ht
          · obtain ⟨u, hu, hx⟩ := ht
            simp only [List.mem_cons, List.not_mem_nil, or_false] at hu
            rcases hu with rfl | rfl
            · exact .inl ⟨_, hd c, hx⟩
            · exact .inr hx
          · intro u hu
            simp only [List.mem_cons, List.not_mem_nil, or_false] at hu
            rcases hu with rfl | rfl
            · exact nf_catS (nf_dv c e h) hB
            · exact nf_dv c B hB
        · exact .inl ⟨_, hd c, ht⟩
      · have := nf_em hB h3; subst this
        rw [catS_em_r h] at ht
        exact .inl ⟨_, hd c, by rw [catS_em_r (nf_dv c e h)]; exact ht⟩
    · rw [catS_no_r h2, dv_noth, trm_noth 3 (.inl rfl)] at ht; simp at ht
  · rw [catS_no_l h1, dv_noth, trm_noth 3 (.inl rfl)] at ht; simp at ht
theorem stp_empt {p : Tm} {r : List Int} : Stp p r emptT := by
  intro c B hB t ht
  rw [catS_em_l hB] at ht; exact .inr ht
theorem stp_noth {p : Tm} {r : List Int} : Stp p r nothT := by
  intro c B hB t ht
  rw [catS_no_l isNo_noth, dv_noth, trm_noth 3 (.inl rfl)] at ht; simp at ht
theorem Stp.lift {p q : Tm} {r : List Int} {e : Tm} (h : Stp q r e) (hs : ∀ r, ∀ x ∈ es r q, x ∈ es r p) : Stp p r e := by
  intro c B hB t ht
  rcases h c B hB t ht with ⟨e', h1, h2⟩ | h
  · exact .inl ⟨e', hs _ e' h1, h2⟩
  · exact .inr h
theorem Fam.lift {p q : Tm} {r : List Int} {e : Tm} (h : Fam q r e) (hs : ∀ r, ∀ x ∈ es r q, x ∈ es r p) (ha : aT q ≤ aT p) : Fam p r e :=
  ⟨h.nf, fun t ht => hs r t (h.mem t ht), fun a b he => hs r b (h.rest a b he), Nat.le_trans h.few ha, h.stp.lift hs⟩
theorem fam_noth {p : Tm} {r : List Int} : Fam p r nothT :=
  ⟨nf_noth, by rw [trm_noth 3 (.inl rfl)]; simp, by simp [nothT, catT], by rw [trm_noth 4 (.inr rfl)]; simp, stp_noth⟩
theorem fam_empt {p : Tm} {r : List Int} (h : emptT ∈ es r p) (ha : 1 ≤ aT p) : Fam p r emptT :=
  ⟨nf_empt, by simp [trm, emptT, isNo] at h ⊢; exact h, by simp [emptT, catT], by simp [trm, emptT, isNo]; exact ha, stp_empt⟩
/-- a member that is no row -/
theorem fam_plain {p : Tm} {r : List Int} {e : Tm} (h : Nf e) (h2 : e.kind ≠ 2) (h3 : e.kind ≠ 3) (h4 : e.kind ≠ 4) (he : e ∈ es r p) (ha : 1 ≤ aT p) (hd : ∀ c, dv c e ∈ es (c :: r) p) : Fam p r e :=
  ⟨h, by unfold trm; rw [if_neg h3]; split <;> simp [he], fun a b hab => by subst hab; simp [catT] at h2, Nat.le_trans (trm_len h4) ha, stp_plain h h2 hd⟩

theorem set_forms (s : List Rg) : ∀ r e, e ∈ segs r (setT s) → e = setT s ∨ e = emptT ∨ e = nothT := by
  refine segs_ind (fun _ => .inl rfl) ?_
  rintro r c e _ (rfl | rfl | rfl)
  · rw [dv_set]; split <;> simp
  · rw [dv_empt]; simp
  · rw [dv_noth]; simp
theorem empt_forms : ∀ r e, e ∈ segs r emptT → e = emptT ∨ e = nothT := by
  refine segs_ind (fun _ => .inl rfl) ?_
  rintro r c e _ (rfl | rfl)
  · rw [dv_empt]; simp
  · rw [dv_noth]; simp
theorem not_forms (x : Tm) : ∀ r e, e ∈ segs r (notT x) → ∃ u, e = notT u ∧ u ∈ segs r x := by
  refine segs_ind (fun r => ⟨x, rfl, segs_self r x⟩) ?_
  rintro r c e _ ⟨u, rfl, hu⟩
  exact ⟨dv c u, dv_not c u, segs_step c hu⟩
theorem fam_set (s : List Rg) (r : List Int) : ∀ e ∈ es r (setT s), Fam (setT s) r e := by
  have ha : 1 ≤ aT (setT s) := by rw [aT_set]; omega
  have hE : ∀ r, emptT ∈ es r (setT s) := fun r => by rw [es_set]; simp
  have hs : ∀ r e, e ∈ segs r (setT s) → e = setT s ∨ e = emptT ∨ e = nothT := by
    refine segs_ind (fun _ => .inl rfl) ?_
    rintro r c e _ (rfl | rfl | rfl)
    · rw [dv_set]; split <;> simp
    · rw [dv_empt]; simp
    · rw [dv_noth]; simp
  intro e he
  rw [es_set] at he
  have : e = setT s ∨ e = emptT ∨ e = nothT := by
    rcases List.mem_append.1 he with he | he
    · exact hs r e he
    · simp only [List.mem_singleton] at he; exact .inr (.inl he)
  rcases this with rfl | rfl | rfl
  · exact fam_plain (nf_set s) (by simp [setT]) (by simp [setT]) (by simp [setT]) (es_self r _) ha fun c => es_left c (segs_self r _)
  · exact fam_empt (hE r) ha
  · exact fam_noth
theorem fam_emptT (r : List Int) : ∀ e ∈ es r emptT, Fam emptT r e := by
  have hs : ∀ r e, e ∈ segs r emptT → e = emptT ∨ e = nothT := by
    refine segs_ind (fun _ => .inl rfl) ?_
    rintro r c e _ (rfl | rfl)
    · rw [dv_empt]; simp
    · rw [dv_noth]; simp
  intro e he
  rw [es_empt] at he
  rcases hs r e he with rfl | rfl
  · exact fam_empt (es_self r _) (by rw [aT_empt]; omega)
  · exact fam_noth
theorem fam_not (x : Tm) (hx : Nf x) (r : List Int) : ∀ e ∈ es r (notT x), Fam (notT x) r e := by
  have hs : ∀ r e, e ∈ segs r (notT x) → ∃ u, e = notT u ∧ u ∈ segs r x := by
    refine segs_ind (fun r => ⟨x, rfl, segs_self r x⟩) ?_
    rintro r c e _ ⟨u, rfl, hu⟩
    exact ⟨dv c u, dv_not c u, segs_step c hu⟩
  intro e he
  have he' := he
  rw [es_not] at he
  obtain ⟨u, rfl, hu⟩ := hs r e he
  exact fam_plain (nf_not (segs_nf hx r u hu)) (by simp [notT]) (by simp [notT]) (by simp [notT]) he' (by rw [aT_not]; exact aT_pos x hx) fun c => es_left c he

end Go.Proofs.YtbjohedenfindaaGreatDoor

namespace Go.Proofs.YtbjohedenfindaaGreatDoor
set_option linter.unusedVariables false

theorem mem_sev {r : List Int} {k : Int} (hk : k = 3 ∨ k = 4) {l : List Tm} {x e : Tm} (hx : x ∈ l) (he : e ∈ es r x) : e ∈ es r (sevT k l) := by
  rw [es_sev r k l hk]
  exact List.mem_append_right _ (List.mem_flatten.2 ⟨es r x, List.mem_map_of_mem hx, he⟩)
theorem aT_mem {k : Int} (hk : k = 3 ∨ k = 4) {l : List Tm} {x : Tm} (hx : x ∈ l) : aT x ≤ aT (sevT k l) := by
  rw [aT_sev k l hk]; exact sum_mem aT hx

theorem or_seg (l : List Tm) (hp : Nf (sevT 3 l)) (h5 : ∀ x ∈ l, Nf x) (h4 : ∀ x ∈ l, x.kind ≠ 3 ∧ isNo x = false) (ih : ∀ x ∈ l, ∀ r, ∀ e ∈ es r x, Fam x r e) : ∀ r e, e ∈ segs r (sevT 3 l) → ∀ t ∈ trm 3 e, ∃ x ∈ l, t ∈ es r x := by
  have hs : ∀ r e, e ∈ segs r (sevT 3 l) → ∀ t ∈ trm 3 e, ∃ x ∈ l, ∃ e' ∈ segs r x, t ∈ trm 3 e' := by
    refine segs_ind ?_ ?_
    · intro r t ht
      have ht : t ∈ l := by simpa [trm, sevT] using ht
      exact ⟨t, ht, t, segs_self r t, trm_self (h4 t ht).1 (h4 t ht).2⟩
    · intro r c e he h t ht
      obtain ⟨u, hu, hx⟩ := (trm_dv c (segs_nf hp r e he) t).1 ht
      obtain ⟨x, hxl, e', he', hu'⟩ := h u hu
      exact ⟨x, hxl, dv c e', segs_step c he', (trm_dv c (segs_nf (h5 x hxl) r e' he') t).2 ⟨u, hu', hx⟩⟩
  intro r e he t ht
  obtain ⟨x, hx, e', he', ht'⟩ := hs r e he t ht
  exact ⟨x, hx, (ih x hx r e' (es_segs he')).mem t ht'⟩
theorem fam_or (l : List Tm) (hp : Nf (sevT 3 l)) (h5 : ∀ x ∈ l, Nf x) (h4 : ∀ x ∈ l, x.kind ≠ 3 ∧ isNo x = false) (ih : ∀ x ∈ l, ∀ r, ∀ e ∈ es r x, Fam x r e) (r : List Int) : ∀ e ∈ es r (sevT 3 l), Fam (sevT 3 l) r e := by
  have hm := or_seg l hp h5 h4 ih
  have hlift : ∀ x ∈ l, ∀ e, Fam x r e → Fam (sevT 3 l) r e := fun x hx e h => h.lift (fun r y hy => mem_sev (.inl rfl) hx hy) (aT_mem (.inl rfl) hx)
  intro e he
  rw [es_sev r 3 l (.inl rfl)] at he
  rcases List.mem_append.1 he with he | he
  · have hnf := segs_nf hp r e he
    by_cases h3 : e.kind = 3
    · refine ⟨hnf, ?_, ?_, Nat.le_trans (trm_len (by omega)) (aT_pos _ hp), stp_plain hnf (by omega) fun c => es_left c he⟩
      · intro t ht
        obtain ⟨x, hx, h⟩ := hm r e he t ht
        exact mem_sev (.inl rfl) hx h
      · intro a b hab; subst hab; simp [catT] at h3
    · cases hn : isNo e
      · obtain ⟨x, hx, h⟩ := hm r e he e (trm_self h3 hn)
        exact hlift x hx e (ih x hx r e h)
      · rw [nf_no hnf hn]; exact fam_noth
  · obtain ⟨m, hm, he⟩ := List.mem_flatten.1 he
    obtain ⟨x, hx, rfl⟩ := List.mem_map.1 hm
    exact hlift x hx e (ih x hx r e he)

/-- the members of what is left of both, where none is nothing -/
theorem trm4_dv (c : Int) {y : Tm} (h : Nf y) (hn : isNo y = false) (hk : ∀ k ∈ trm 4 y, isNo (dv c k) = false) :
    isNo (dv c y) = false ∧ ∀ t, t ∈ trm 4 (dv c y) ↔ ∃ k ∈ trm 4 y, t ∈ trm 4 (dv c k) := by
  by_cases h4 : y.kind = 4
  · revert h4 hk
    refine nf_cases (P := fun y => (∀ k ∈ trm 4 y, isNo (dv c k) = false) → y.kind = 4 → isNo (dv c y) = false ∧ ∀ t, t ∈ trm 4 (dv c y) ↔ ∃ k ∈ trm 4 y, t ∈ trm 4 (dv c k)) y h ?_ ?_ ?_ ?_ ?_ ?_
    · intro s _ h; simp [setT] at h
    · intro _ h; simp [emptT] at h
    · intro x y _ _ _ _ _ _ _ h; simp [catT] at h
    · intro k l hk h2 _ h4 h5 hno hkk
      simp only [sevT] at hkk; subst hkk
      have e : trm 4 (sevT 4 l) = l := by simp [trm, sevT]
      rw [e] at hno ⊢
      have hany : ¬ ((4 : Int) = 4 ∧ (l.map (dv c)).any isNo = true) := by
        rintro ⟨_, h⟩
        simp only [List.any_eq_true, List.mem_map] at h
        obtain ⟨_, ⟨u, hu, rfl⟩, h⟩ := h
        rw [hno u hu] at h; simp at h
      have hnfs : ∀ t ∈ l.map (dv c), Nf t := by
        intro t ht; obtain ⟨u, hu, rfl⟩ := List.mem_map.1 ht; exact nf_dv c u (h5 u hu)
      have hone := nf_oneS (.inr rfl) (srt_gatA 4 (l.map (dv c)) [] srt_nil) (gatA_nf (.inr rfl) hnfs)
      have hmem : ∀ t, t ∈ gatA 4 [] (l.map (dv c)) ↔ ∃ k ∈ l, t ∈ trm 4 (dv c k) := by
        intro t; rw [mem_gatA]; simp only [List.not_mem_nil, false_or, List.mem_map]
        exact ⟨fun ⟨_, ⟨k, hk, e⟩, ht⟩ => ⟨k, hk, by rw [e]; exact ht⟩, fun ⟨k, hk, ht⟩ => ⟨_, ⟨k, hk, rfl⟩, ht⟩⟩
      rw [dv_sev c 4 l (.inr rfl), joinS, if_neg hany]
      refine ⟨?_, fun t => by rw [hone.2]; exact hmem t⟩
      match l, h2 with
      | x :: l', h2 =>
        have hx : isNo (dv c x) = false := hno x (by simp)
        have hnx := nf_dv c x (h5 x (by simp))
        have : ∃ t, t ∈ trm 4 (dv c x) := by
          by_cases hk : (dv c x).kind = 4
          · revert hk
            refine nf_cases (P := fun z => z.kind = 4 → ∃ t, t ∈ trm 4 z) (dv c x) hnx ?_ ?_ ?_ ?_ ?_ ?_
            · intro s h; simp [setT] at h
            · intro h; simp [emptT] at h
            · intro x y _ _ _ _ _ _ h; simp [catT] at h
            · intro k l hk h2 _ _ _ hkk
              match l, h2 with
              | z :: l, _ => exact ⟨z, by simp only [sevT] at hkk; simp [trm, sevT, hkk]⟩
            · intro x _ h; simp [notT] at h
            · intro x _ _ _ _ _ _ _ h; simp [repT] at h
          · exact ⟨_, trm_self hk hx⟩
        obtain ⟨t, ht⟩ := this
        have hin := (hmem t).2 ⟨x, by simp, ht⟩
        generalize gatA 4 [] (List.map (dv c) (x :: l')) = L at hin hone
        cases hL : isNo (oneS 4 L)
        · rfl
        · have := nf_no hone.1 hL
          have h7 := hone.2
          rw [this, trm_noth 4 (.inr rfl)] at h7
          rw [← h7] at hin; simp at hin
    · intro x _ _ h; simp [notT] at h
    · intro x _ _ _ _ _ _ _ _ h; simp [repT] at h
  · have e : trm 4 y = [y] := by simp [trm, h4, hn]
    rw [e] at hk ⊢
    exact ⟨hk y (by simp), fun t => by simp⟩

def AndQ (l : List Tm) (u : List Int) (e : Tm) : Prop :=
  e = nothT ∨ (e.kind = 4 ∧ (∀ t, t ∈ e.kids ↔ ∃ x ∈ l, t ∈ trm 4 (dvs u x)) ∧ ∀ x ∈ l, isNo (dvs u x) = false) ∨ ∃ x ∈ l, e = dvs u x
theorem dvs_nf {p : Tm} (h : Nf p) : ∀ u, Nf (dvs u p)
  | [] => h
  | c :: u => nf_dv c _ (dvs_nf h u)
theorem single {y k : Tm} (h : Nf y) (hn : isNo y = false) (hm : ∀ t, t ∈ trm 4 y → t = k) : y = k := by
  by_cases h4 : y.kind = 4
  · exfalso
    revert h4 hm
    refine nf_cases (P := fun y => (∀ t, t ∈ trm 4 y → t = k) → y.kind = 4 → False) y h ?_ ?_ ?_ ?_ ?_ ?_
    · intro s _ h; simp [setT] at h
    · intro _ h; simp [emptT] at h
    · intro x y _ _ _ _ _ _ _ h; simp [catT] at h
    · intro k' l hk h2 h3 _ _ hm hkk
      simp only [sevT] at hkk; subst hkk
      have e : trm 4 (sevT 4 l) = l := by simp [trm, sevT]
      rw [e] at hm
      match l, h2, h3, hm with
      | x :: z :: l, _, h3, hm =>
        have h6 := (List.pairwise_cons.1 h3).1 z (by simp)
        have e1 := hm x (by simp)
        have e2 := hm z (by simp)
        rw [e1, e2] at h6
        have := ord_zero.2 (rfl : k = k); omega
    · intro x _ _ h; simp [notT] at h
    · intro x _ _ _ _ _ _ _ _ h; simp [repT] at h
  · exact hm y (trm_self h4 hn)
theorem and_seg (l : List Tm) (h2 : 2 ≤ l.length) (hp : Nf (sevT 4 l)) (h5 : ∀ x ∈ l, Nf x) (h4 : ∀ x ∈ l, x.kind ≠ 4 ∧ isNo x = false) : ∀ u, AndQ l u (dvs u (sevT 4 l))
  | [] => .inr (.inl ⟨rfl, fun t => by
      simp only [dvs, sevT]
      constructor
      · intro ht; exact ⟨t, ht, trm_self (h4 t ht).1 (h4 t ht).2⟩
      · rintro ⟨x, hx, ht⟩
        have : trm 4 x = [x] := by simp [trm, (h4 x hx).1, (h4 x hx).2]
        rw [this] at ht; simp only [List.mem_singleton] at ht; subst ht; exact hx, fun x hx => (h4 x hx).2⟩)
  | c :: u => by
    have hnf := dvs_nf hp u
    rcases and_seg l h2 hp h5 h4 u with h | ⟨hk, hm, hn⟩ | ⟨x, hx, h⟩
    · exact .inl (by simp only [dvs, h, dv_noth])
    · simp only [dvs, AndQ]
      generalize dvs u (sevT 4 l) = e at hnf hk hm
      revert hk hm
      refine nf_cases (P := fun e => e.kind = 4 → (∀ t, t ∈ e.kids ↔ ∃ x ∈ l, t ∈ trm 4 (dvs u x)) → dv c e = nothT ∨ ((dv c e).kind = 4 ∧ (∀ t, t ∈ (dv c e).kids ↔ ∃ x ∈ l, t ∈ trm 4 (dv c (dvs u x))) ∧ ∀ x ∈ l, isNo (dv c (dvs u x)) = false) ∨ ∃ x ∈ l, dv c e = dv c (dvs u x)) e hnf ?_ ?_ ?_ ?_ ?_ ?_
      · intro s h; simp [setT] at h
      · intro h; simp [emptT] at h
      · intro x y _ _ _ _ _ _ h; simp [catT] at h
      · intro k' ks hk k2 k3 k4 k5 hkk hm
        simp only [sevT] at hkk hm; subst hkk
        rw [dv_sev c 4 ks (.inr rfl)]
        by_cases hany : (4 : Int) = 4 ∧ (ks.map (dv c)).any isNo = true
        · exact .inl (by rw [joinS, if_pos hany])
        · have hno : ∀ k ∈ ks, isNo (dv c k) = false := by
            intro k hk
            cases h : isNo (dv c k)
            · rfl
            · exact absurd ⟨rfl, List.any_eq_true.2 ⟨dv c k, List.mem_map_of_mem hk, h⟩⟩ hany
          rw [joinS, if_neg hany]
          have hx4 : ∀ x ∈ l, isNo (dv c (dvs u x)) = false ∧ ∀ t, t ∈ trm 4 (dv c (dvs u x)) ↔ ∃ k ∈ trm 4 (dvs u x), t ∈ trm 4 (dv c k) :=
            fun x hx => trm4_dv c (dvs_nf (h5 x hx) u) (hn x hx) fun k hk => hno k ((hm k).2 ⟨x, hx, hk⟩)
          have hmem : ∀ t, t ∈ gatA 4 [] (ks.map (dv c)) ↔ ∃ x ∈ l, t ∈ trm 4 (dv c (dvs u x)) := by
            intro t
            rw [mem_gatA]
            simp only [List.not_mem_nil, false_or, List.mem_map]
            constructor
            · rintro ⟨_, ⟨k, hk, rfl⟩, ht⟩
              obtain ⟨x, hx, hkx⟩ := (hm k).1 hk
              exact ⟨x, hx, ((hx4 x hx).2 t).2 ⟨k, hkx, ht⟩⟩
            · rintro ⟨x, hx, ht⟩
              obtain ⟨k, hk, ht⟩ := ((hx4 x hx).2 t).1 ht
              exact ⟨_, ⟨k, (hm k).2 ⟨x, hx, hk⟩, rfl⟩, ht⟩
          have hlast : ∀ x ∈ l, isNo (dv c (dvs u x)) = false := fun x hx => (hx4 x hx).1
          generalize gatA 4 [] (ks.map (dv c)) = L at hmem
          match L, hmem with
          | [], _ => exact .inl rfl
          | [k], hmem =>
            match l, h2, hmem, hlast, h5 with
            | x :: l', _, hmem, hlast, h5 =>
              refine .inr (.inr ⟨x, by simp, ?_⟩)
              refine (single (nf_dv c _ (dvs_nf (h5 x (by simp)) u)) (hlast x (by simp)) ?_).symm
              intro t ht
              have := (hmem t).2 ⟨x, by simp, ht⟩
              simp only [List.mem_singleton] at this
              exact this
          | k :: k2 :: L, hmem => exact .inr (.inl ⟨rfl, hmem, hlast⟩)
      · intro x _ h; simp [notT] at h
      · intro x _ _ _ _ _ _ _ h; simp [repT] at h
    · exact .inr (.inr ⟨x, hx, by simp only [dvs, h]⟩)
theorem flat_len (l : List Tm) (f : Tm → List Tm) (g : Tm → Nat) (h : ∀ x ∈ l, (f x).length ≤ g x) : ((l.map f).flatten).length ≤ (l.map g).sum := by
  induction l with
  | nil => simp
  | cons a l ih =>
    have h1 := h a (by simp)
    have h2 := ih fun x hx => h x (by simp [hx])
    simp only [List.map_cons, List.flatten_cons, List.length_append, List.sum_cons]; omega
theorem fam_and (l : List Tm) (h2 : 2 ≤ l.length) (hp : Nf (sevT 4 l)) (h5 : ∀ x ∈ l, Nf x) (h4 : ∀ x ∈ l, x.kind ≠ 4 ∧ isNo x = false) (ih : ∀ x ∈ l, ∀ r, ∀ e ∈ es r x, Fam x r e) (r : List Int) : ∀ e ∈ es r (sevT 4 l), Fam (sevT 4 l) r e := by
  have hlift : ∀ x ∈ l, ∀ e, Fam x r e → Fam (sevT 4 l) r e := fun x hx e h => h.lift (fun r y hy => mem_sev (.inr rfl) hx hy) (aT_mem (.inr rfl) hx)
  intro e he
  rw [es_sev r 4 l (.inr rfl)] at he
  rcases List.mem_append.1 he with he | he
  · have hnf := segs_nf hp r e he
    obtain ⟨u, hu, hq⟩ := segs_dvs r e he
    have hA := and_seg l h2 hp h5 h4 u
    rw [← hu] at hA
    rcases hA with h | ⟨hk, hm, hn⟩ | ⟨x, hx, h⟩
    · rw [h]; exact fam_noth
    · refine ⟨hnf, ?_, ?_, ?_, stp_plain hnf (by omega) fun c => es_left c he⟩
      · unfold trm; rw [if_neg (by omega)]
        split
        · simp
        · intro t ht; simp only [List.mem_singleton] at ht; subst ht; exact es_segs he
      · intro a b hab; subst hab; simp [catT] at hk
      · have e4 : trm 4 e = e.kids := by simp [trm, hk]
        have hs := trm_srt (.inr rfl) hnf
        rw [e4] at hs ⊢
        rw [aT_sev 4 l (.inr rfl)]
        refine Nat.le_trans (nodup_le e.kids ((l.map fun x => trm 4 (dvs u x)).flatten) hs.nodup ?_) (flat_len l _ _ fun x hx => (ih x hx r _ (es_segs (hq x))).few)
        intro t ht
        obtain ⟨x, hx, ht⟩ := (hm t).1 ht
        exact List.mem_flatten.2 ⟨_, List.mem_map_of_mem hx, ht⟩
    · rw [h]; exact hlift x hx _ (ih x hx r _ (es_segs (hq x)))
  · obtain ⟨m, hm, he⟩ := List.mem_flatten.1 he
    obtain ⟨x, hx, rfl⟩ := List.mem_map.1 hm
    exact hlift x hx e (ih x hx r e he)

end Go.Proofs.YtbjohedenfindaaGreatDoor
