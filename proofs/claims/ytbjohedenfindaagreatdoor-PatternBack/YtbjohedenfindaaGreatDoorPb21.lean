/- Texts of the proof, put together: DvF, DvG. -/
import Derived.Test.YtbjohedenfindaaGreatDoorPb20
namespace Go.Proofs.YtbjohedenfindaaGreatDoor
set_option linter.unusedVariables false

theorem mem_cat_l {r : List Int} {x y e : Tm} (h : e ∈ es r x) : catS e y ∈ es r (catT x y) := by
  rw [es_cat]; exact List.mem_append_right _ (List.mem_append_left _ (List.mem_map.2 ⟨e, h, rfl⟩))
theorem mem_cat_r {r : List Int} {x y e : Tm} (h : e ∈ es r y) : e ∈ es r (catT x y) := by
  rw [es_cat]; exact List.mem_append_right _ (List.mem_append_right _ h)
/-- what stands behind the head of a row that was put together -/
theorem rest_catS {e1 y a b : Tm} (h1 : Nf e1) (hy : Nf y) (he : isEm y = false) (h : catS e1 y = catT a b) : (e1 = emptT ∧ y = catT a b) ∨ (∃ a1 b1, e1 = catT a1 b1 ∧ a = a1 ∧ b = catS b1 y) ∨ (a = e1 ∧ b = y) := by
  have hcat : ∀ u v : Tm, catT u v = catT a b → u = a ∧ v = b := by
    intro u v h; simpa [catT] using h
  cases n1 : isNo e1
  · cases n2 : isNo y
    · by_cases hk : e1.kind = 2
      · revert h hk n1
        refine nf_cases (P := fun e1 => catS e1 y = catT a b → isNo e1 = false → e1.kind = 2 → (e1 = emptT ∧ y = catT a b) ∨ (∃ a1 b1, e1 = catT a1 b1 ∧ a = a1 ∧ b = catS b1 y) ∨ (a = e1 ∧ b = y)) e1 h1 ?_ ?_ ?_ ?_ ?_ ?_
        · intro s _ _ h; simp [setT] at h
        · intro h _ _; rw [catS_em_l hy] at h; exact .inl ⟨rfl, h⟩
        · intro x z _ _ _ _ _ _ h _ _
          rw [catS_cat n2 he] at h
          obtain ⟨e1, e2⟩ := hcat _ _ h
          exact .inr (.inl ⟨x, z, rfl, e1.symm, e2.symm⟩)
        · intro k l hk _ _ _ _ _ _ h; simp only [sevT] at h; omega
        · intro x _ _ _ h; simp [notT] at h
        · intro x _ _ _ _ _ _ _ _ _ h; simp [repT] at h
      · rw [catS_plain hk n1 n2 he] at h
        obtain ⟨e1, e2⟩ := hcat _ _ h
        exact .inr (.inr ⟨e1.symm, e2.symm⟩)
    · rw [catS_no_r n2] at h; simp [nothT, catT] at h
  · rw [catS_no_l n1] at h; simp [nothT, catT] at h

theorem cat_str (x y : Tm) (hx : Nf x) (hy : Nf y) (k1 : x.kind ≠ 2) (k2 : isNo x = false) (k3 : isNo y = false) (k4 : isEm y = false) (ihx : ∀ r, ∀ e ∈ es r x, Fam x r e) (ihy : ∀ r, ∀ e ∈ es r y, Fam y r e) : ∀ r e1, e1 ∈ es r x → ∀ t ∈ trm 3 (catS e1 y), (∃ e ∈ es r x, t = catS e y) ∨ t ∈ es r y := by
  intro r e1 he1 t ht
  rcases trm_cat (ihx r e1 he1).nf hy ht with ⟨_, h⟩ | ⟨h, _⟩ | ⟨_, _, _, _, h, _⟩
  · exact .inr ((ihy r y (es_self r y)).mem t h)
  · rw [k4] at h; simp at h
  · exact .inl ⟨e1, he1, h⟩
theorem cat_seg (x y : Tm) (hx : Nf x) (hy : Nf y) (k1 : x.kind ≠ 2) (k2 : isNo x = false) (k3 : isNo y = false) (k4 : isEm y = false) (ihx : ∀ r, ∀ e ∈ es r x, Fam x r e) (ihy : ∀ r, ∀ e ∈ es r y, Fam y r e) : ∀ r e, e ∈ segs r (catT x y) → ∀ t ∈ trm 3 e, (∃ e ∈ es r x, t = catS e y) ∨ t ∈ es r y := by
  have hp : Nf (catT x y) := nf_cat hx hy k1 k2 k3 k4
  have hstr := cat_str x y hx hy k1 k2 k3 k4 ihx ihy
  refine segs_ind ?_ ?_
  · intro r t ht
    have : trm 3 (catT x y) = [catT x y] := by simp [trm, catT, isNo]
    rw [this] at ht; simp only [List.mem_singleton] at ht; subst ht
    exact .inl ⟨x, es_self r x, (catS_plain k1 k2 k3 k4).symm⟩
  · intro r c e he h t ht
    obtain ⟨u, hu, hx'⟩ := (trm_dv c (segs_nf hp r e he) t).1 ht
    rcases h u hu with ⟨e1, he1, rfl⟩ | hu
    · rcases (ihx r e1 he1).stp c y hy t hx' with ⟨e', he', ht'⟩ | ht'
      · exact hstr (c :: r) e' he' t ht'
      · exact .inr ((ihy (c :: r) _ (es_left c (segs_self r y))).mem t ht')
    · have hF := ihy r u hu
      rcases hF.stp c emptT nf_empt t (by rw [catS_em_r hF.nf]; exact hx') with ⟨e', he', ht'⟩ | ht'
      · have hF' := ihy (c :: r) e' he'
        rw [catS_em_r hF'.nf] at ht'
        exact .inr (hF'.mem t ht')
      · rw [dv_empt, trm_noth 3 (.inl rfl)] at ht'; simp at ht'
theorem fam_cat (x y : Tm) (hx : Nf x) (hy : Nf y) (k1 : x.kind ≠ 2) (k2 : isNo x = false) (k3 : isNo y = false) (k4 : isEm y = false) (ihx : ∀ r, ∀ e ∈ es r x, Fam x r e) (ihy : ∀ r, ∀ e ∈ es r y, Fam y r e) (r : List Int) :
    ∀ e ∈ es r (catT x y), Fam (catT x y) r e := by
  have hp : Nf (catT x y) := nf_cat hx hy k1 k2 k3 k4
  have hstr := cat_str x y hx hy k1 k2 k3 k4 ihx ihy
  have hs := cat_seg x y hx hy k1 k2 k3 k4 ihx ihy
  have hmem : ∀ t, ((∃ e ∈ es r x, t = catS e y) ∨ t ∈ es r y) → t ∈ es r (catT x y) := by
    rintro t (⟨e, he, rfl⟩ | h)
    · exact mem_cat_l he
    · exact mem_cat_r h
  have hlift : ∀ e, Fam y r e → Fam (catT x y) r e := fun e h => h.lift (fun r z hz => mem_cat_r hz) (by rw [aT_cat]; omega)
  have hstF : ∀ e, ((∃ e1 ∈ es r x, e = catS e1 y) ∨ e ∈ es r y) → Fam (catT x y) r e := by
    rintro e (⟨e1, he1, rfl⟩ | h)
    · have hF := ihx r e1 he1
      refine ⟨nf_catS hF.nf hy, fun t ht => hmem t (hstr r e1 he1 t ht), ?_, ?_, ?_⟩
      · intro a b hab
        rcases rest_catS hF.nf hy k4 hab with ⟨_, h⟩ | ⟨a1, b1, h, _, h'⟩ | ⟨_, h⟩
        · exact mem_cat_r ((ihy r y (es_self r y)).rest a b h)
        · rw [h']; exact mem_cat_l (hF.rest a1 b1 h)
        · rw [h]; exact mem_cat_r (es_self r y)
      · by_cases h4 : (catS e1 y).kind = 4
        · have hn : isNo (catS e1 y) = false := by simp [isNo, h4]
          rcases trm_cat hF.nf hy (trm_self (by omega) hn) with ⟨h, _⟩ | ⟨h, _⟩ | ⟨_, _, _, _, _, h⟩
          · have := nf_em hF.nf h; subst this
            rw [catS_em_l hy]
            have := (ihy r y (es_self r y)).few
            rw [aT_cat]; omega
          · rw [k4] at h; simp at h
          · omega
        · exact Nat.le_trans (trm_len h4) (aT_pos _ hp)
      · intro c B hB t ht
        rw [catS_assoc e1 y B hF.nf hy hB] at ht
        rcases hF.stp c (catS y B) (nf_catS hy hB) t ht with ⟨e', he', ht'⟩ | ht'
        · refine .inl ⟨catS e' y, mem_cat_l he', ?_⟩
          rw [catS_assoc e' y B (ihx (c :: r) e' he').nf hy hB]; exact ht'
        · rcases (ihy r y (es_self r y)).stp c B hB t ht' with ⟨e', he', ht'⟩ | ht'
          · exact .inl ⟨e', mem_cat_r he', ht'⟩
          · exact .inr ht'
    · exact hlift e (ihy r e h)
  intro e he
  rw [es_cat] at he
  rcases List.mem_append.1 he with he | he
  · have hnf := segs_nf hp r e he
    by_cases h3 : e.kind = 3
    · exact ⟨hnf, fun t ht => hmem t (hs r e he t ht), fun a b hab => by subst hab; simp [catT] at h3, Nat.le_trans (trm_len (by omega)) (aT_pos _ hp), stp_plain hnf (by omega) fun c => es_left c he⟩
    · cases hn : isNo e
      · exact hstF e (hs r e he e (trm_self h3 hn))
      · rw [nf_no hnf hn]; exact fam_noth
  · refine hstF e ?_
    rcases List.mem_append.1 he with h | h
    · obtain ⟨e1, he1, rfl⟩ := List.mem_map.1 h
      exact .inl ⟨e1, he1, rfl⟩
    · exact .inr h

/-! ## Repetitions -/
theorem ctr_head (n : Nat) (lo hi : Int) : (lo, hi) ∈ ctr n lo hi := by cases n <;> simp [ctr]
theorem ctr_dec : ∀ (n : Nat) (lo hi : Int), lo ≤ n → hi ≤ n → ∀ q ∈ ctr n lo hi, (decI q.1, decI q.2) ∈ ctr n lo hi
  | 0, lo, hi, h1, h2, q, hq => by
    simp only [ctr, List.mem_singleton] at hq ⊢; subst hq
    simp only [decI]; rw [if_neg (by omega), if_neg (by omega)]
  | n + 1, lo, hi, h1, h2, q, hq => by
    simp only [ctr, List.mem_cons] at hq ⊢
    rcases hq with rfl | hq
    · exact .inr (ctr_head n _ _)
    · refine .inr (ctr_dec n _ _ ?_ ?_ q hq)
      · unfold decI; split <;> omega
      · unfold decI; split <;> omega
theorem ctr_ok : ∀ (n : Nat) (lo hi : Int), 0 ≤ lo → (hi = -1 ∨ lo ≤ hi) → ∀ q ∈ ctr n lo hi, 0 ≤ q.1 ∧ (q.2 = -1 ∨ q.1 ≤ q.2)
  | 0, lo, hi, h0, h1, q, hq => by simp only [ctr, List.mem_singleton] at hq; subst hq; exact ⟨h0, h1⟩
  | n + 1, lo, hi, h0, h1, q, hq => by
    simp only [ctr, List.mem_cons] at hq
    rcases hq with rfl | hq
    · exact ⟨h0, h1⟩
    · refine ctr_ok n _ _ ?_ ?_ q hq
      · unfold decI; split <;> omega
      · unfold decI; split <;> split <;> omega
theorem ctr_len : ∀ (n : Nat) (lo hi : Int), (ctr n lo hi).length = n + 1
  | 0, lo, hi => rfl
  | n + 1, lo, hi => by simp [ctr, ctr_len n]
theorem mem_repE {lo hi : Int} {x t : Tm} {ex : List Tm} : t ∈ repE lo hi x ex ↔ ∃ q ∈ ctr (max lo hi).toNat lo hi, t = repS x q.1 q.2 ∨ ∃ e ∈ ex, t = catS e (repS x q.1 q.2) := by
  simp only [repE, List.mem_flatMap, List.mem_cons, List.mem_map]
  constructor
  · rintro ⟨q, hq, h | ⟨e, he, h⟩⟩
    · exact ⟨q, hq, .inl h⟩
    · exact ⟨q, hq, .inr ⟨e, he, h.symm⟩⟩
  · rintro ⟨q, hq, h | ⟨e, he, h⟩⟩
    · exact ⟨q, hq, .inl h⟩
    · exact ⟨q, hq, .inr ⟨e, he, h.symm⟩⟩

theorem rep_seg (x : Tm) (lo hi : Int) (hx : Nf x) (h0 : 0 ≤ lo) (h1 : hi = -1 ∨ (lo ≤ hi ∧ 1 ≤ hi)) (k2 : isNo x = false) (k3 : isEm x = false) (ihx : ∀ r, ∀ e ∈ es r x, Fam x r e) : ∀ r e, e ∈ segs r (repT x lo hi) → ∀ t ∈ trm 3 e, (∃ q ∈ ctr (max lo hi).toNat lo hi, t = repS x q.1 q.2 ∨ ∃ e ∈ es r x, t = catS e (repS x q.1 q.2)) := by
  have hp : Nf (repT x lo hi) := nf_rep hx h0 h1 k2 k3
  generalize hQ : ctr (max lo hi).toNat lo hi = Q
  have hQd : ∀ q ∈ Q, (decI q.1, decI q.2) ∈ Q := by rw [← hQ]; exact ctr_dec _ lo hi (by omega) (by omega)
  have hQ0 : (lo, hi) ∈ Q := by rw [← hQ]; exact ctr_head _ _ _
  have hR : ∀ q ∈ Q, Nf (repS x q.1 q.2) ∧ (repS x q.1 q.2 = emptT ∨ repS x q.1 q.2 = repT x q.1 q.2) := by
    intro q hq
    rw [← hQ] at hq
    have := ctr_ok _ lo hi h0 (by omega) q hq
    refine ⟨nf_repS hx this.1 this.2, ?_⟩
    unfold repS; rw [k2, k3]; split <;> simp
  have hS : ∀ (r : List Int) (t : Tm), (∃ q ∈ Q, t = repS x q.1 q.2 ∨ ∃ e ∈ es r x, t = catS e (repS x q.1 q.2)) → t ∈ es r (repT x lo hi) := by
    intro r t ht
    rw [es_rep]
    exact List.mem_append_right _ (mem_repE.2 (by rw [hQ]; exact ht))
  have htR : ∀ q ∈ Q, trm 3 (repS x q.1 q.2) = [repS x q.1 q.2] := by
    intro q hq
    rcases (hR q hq).2 with h | h <;> rw [h] <;> simp [trm, emptT, repT, isNo]
  have hstr : ∀ r e1, e1 ∈ es r x → ∀ q ∈ Q, ∀ t ∈ trm 3 (catS e1 (repS x q.1 q.2)), (∃ q ∈ Q, t = repS x q.1 q.2 ∨ ∃ e ∈ es r x, t = catS e (repS x q.1 q.2)) := by
    intro r e1 he1 q hq t ht
    have hF := ihx r e1 he1
    rcases trm_cat hF.nf (hR q hq).1 ht with ⟨_, h⟩ | ⟨h, h'⟩ | ⟨_, _, _, _, h, _⟩
    · rw [htR q hq] at h; simp only [List.mem_singleton] at h
      exact ⟨q, hq, .inl h⟩
    · have e := nf_em (hR q hq).1 h
      refine ⟨q, hq, .inr ⟨t, hF.mem t h', ?_⟩⟩
      rw [e, catS_em_r (trm_nf (.inl rfl) hF.nf h').1]
    · exact ⟨q, hq, .inr ⟨e1, he1, h⟩⟩
  have hdR : ∀ (r : List Int) c, ∀ q ∈ Q, ∀ t ∈ trm 3 (dv c (repS x q.1 q.2)), (∃ q ∈ Q, t = repS x q.1 q.2 ∨ ∃ e ∈ es (c :: r) x, t = catS e (repS x q.1 q.2)) := by
    intro r c q hq t ht
    rcases (hR q hq).2 with h | h
    · rw [h, dv_empt, trm_noth 3 (.inl rfl)] at ht; simp at ht
    · rw [h, dv_rep] at ht
      exact hstr (c :: r) _ (es_left c (segs_self r x)) _ (hQd q hq) t ht
  refine segs_ind ?_ ?_
  · intro r t ht
    have : trm 3 (repT x lo hi) = [repT x lo hi] := by simp [trm, repT, isNo]
    rw [this] at ht; simp only [List.mem_singleton] at ht; subst ht
    refine ⟨_, hQ0, .inl ?_⟩
    simp only [repS]; rw [if_neg (by omega), k2, k3]; simp
  · intro r c e he h t ht
    obtain ⟨u, hu, hx'⟩ := (trm_dv c (segs_nf hp r e he) t).1 ht
    rcases h u hu with ⟨q, hq, rfl | ⟨e1, he1, rfl⟩⟩
    · exact hdR r c q hq t hx'
    · rcases (ihx r e1 he1).stp c _ (hR q hq).1 t hx' with ⟨e', he', ht'⟩ | ht'
      · exact hstr (c :: r) e' he' q hq t ht'
      · exact hdR r c q hq t ht'
theorem fam_rep (x : Tm) (lo hi : Int) (hx : Nf x) (h0 : 0 ≤ lo) (h1 : hi = -1 ∨ (lo ≤ hi ∧ 1 ≤ hi)) (k2 : isNo x = false) (k3 : isEm x = false) (ihx : ∀ r, ∀ e ∈ es r x, Fam x r e) (r : List Int) :
    ∀ e ∈ es r (repT x lo hi), Fam (repT x lo hi) r e := by
  have hp : Nf (repT x lo hi) := nf_rep hx h0 h1 k2 k3
  generalize hQ : ctr (max lo hi).toNat lo hi = Q
  have hQd : ∀ q ∈ Q, (decI q.1, decI q.2) ∈ Q := by rw [← hQ]; exact ctr_dec _ lo hi (by omega) (by omega)
  have hQ0 : (lo, hi) ∈ Q := by rw [← hQ]; exact ctr_head _ _ _
  have hR : ∀ q ∈ Q, Nf (repS x q.1 q.2) ∧ (repS x q.1 q.2 = emptT ∨ repS x q.1 q.2 = repT x q.1 q.2) := by
    intro q hq
    rw [← hQ] at hq
    have := ctr_ok _ lo hi h0 (by omega) q hq
    refine ⟨nf_repS hx this.1 this.2, ?_⟩
    unfold repS; rw [k2, k3]; split <;> simp
  have hS : ∀ (r : List Int) (t : Tm), (∃ q ∈ Q, t = repS x q.1 q.2 ∨ ∃ e ∈ es r x, t = catS e (repS x q.1 q.2)) → t ∈ es r (repT x lo hi) := by
    intro r t ht
    rw [es_rep]
    exact List.mem_append_right _ (mem_repE.2 (by rw [hQ]; exact ht))
  have htR : ∀ q ∈ Q, trm 3 (repS x q.1 q.2) = [repS x q.1 q.2] := by
    intro q hq
    rcases (hR q hq).2 with h | h <;> rw [h] <;> simp [trm, emptT, repT, isNo]
  have hstr : ∀ r e1, e1 ∈ es r x → ∀ q ∈ Q, ∀ t ∈ trm 3 (catS e1 (repS x q.1 q.2)), (∃ q ∈ Q, t = repS x q.1 q.2 ∨ ∃ e ∈ es r x, t = catS e (repS x q.1 q.2)) := by
    intro r e1 he1 q hq t ht
    have hF := ihx r e1 he1
    rcases trm_cat hF.nf (hR q hq).1 ht with ⟨_, h⟩ | ⟨h, h'⟩ | ⟨_, _, _, _, h, _⟩
    · rw [htR q hq] at h; simp only [List.mem_singleton] at h
      exact ⟨q, hq, .inl h⟩
    · have e := nf_em (hR q hq).1 h
      refine ⟨q, hq, .inr ⟨t, hF.mem t h', ?_⟩⟩
      rw [e, catS_em_r (trm_nf (.inl rfl) hF.nf h').1]
    · exact ⟨q, hq, .inr ⟨e1, he1, h⟩⟩
  have hdR : ∀ (r : List Int) c, ∀ q ∈ Q, ∀ t ∈ trm 3 (dv c (repS x q.1 q.2)), (∃ q ∈ Q, t = repS x q.1 q.2 ∨ ∃ e ∈ es (c :: r) x, t = catS e (repS x q.1 q.2)) := by
    intro r c q hq t ht
    rcases (hR q hq).2 with h | h
    · rw [h, dv_empt, trm_noth 3 (.inl rfl)] at ht; simp at ht
    · rw [h, dv_rep] at ht
      exact hstr (c :: r) _ (es_left c (segs_self r x)) _ (hQd q hq) t ht
  have hs := rep_seg x lo hi hx h0 h1 k2 k3 ihx
  rw [hQ] at hs
  have ha : aT (repT x lo hi) = aT x := aT_rep x lo hi
  have hap := aT_pos x hx
  have hstF : ∀ e, (∃ q ∈ Q, e = repS x q.1 q.2 ∨ ∃ e1 ∈ es r x, e = catS e1 (repS x q.1 q.2)) → Fam (repT x lo hi) r e := by
    have hRep : ∀ q ∈ Q, Fam (repT x lo hi) r (repS x q.1 q.2) := by
      intro q hq
      have hm := hS r _ ⟨q, hq, .inl rfl⟩
      have hn := (hR q hq).1
      rcases (hR q hq).2 with h | h
      · rw [h] at hm ⊢; exact fam_empt hm (by omega)
      · have hd : ∀ c, dv c (repS x q.1 q.2) ∈ es (c :: r) (repT x lo hi) := by
          intro c
          rw [h, dv_rep]
          exact hS (c :: r) _ ⟨_, hQd q hq, .inr ⟨_, es_left c (segs_self r x), rfl⟩⟩
        rw [h] at hm hn hd ⊢
        exact fam_plain hn (by simp [repT]) (by simp [repT]) (by simp [repT]) hm (by omega) hd
    rintro e ⟨q, hq, rfl | ⟨e1, he1, rfl⟩⟩
    · exact hRep q hq
    · have hF := ihx r e1 he1
      have hnR := (hR q hq).1
      refine ⟨nf_catS hF.nf hnR, fun t ht => hS r t (hstr r e1 he1 q hq t ht), ?_, ?_, ?_⟩
      · intro a b hab
        cases hE : isEm (repS x q.1 q.2)
        · rcases rest_catS hF.nf hnR hE hab with ⟨_, h⟩ | ⟨a1, b1, h, _, h'⟩ | ⟨_, h⟩
          · rcases (hR q hq).2 with h' | h' <;> rw [h'] at h <;> simp [emptT, repT, catT] at h
          · rw [h']; exact hS r _ ⟨q, hq, .inr ⟨b1, hF.rest a1 b1 h, rfl⟩⟩
          · rw [h]; exact hS r _ ⟨q, hq, .inl rfl⟩
        · have e := nf_em hnR hE
          rw [e, catS_em_r hF.nf] at hab
          have hb := hF.rest a b hab
          refine hS r _ ⟨q, hq, .inr ⟨b, hb, ?_⟩⟩
          rw [e, catS_em_r (ihx r b hb).nf]
      · by_cases h4 : (catS e1 (repS x q.1 q.2)).kind = 4
        · have hn : isNo (catS e1 (repS x q.1 q.2)) = false := by simp [isNo, h4]
          rcases trm_cat hF.nf hnR (trm_self (by omega) hn) with ⟨h, _⟩ | ⟨h, _⟩ | ⟨_, _, _, _, _, h⟩
          · have := nf_em hF.nf h; subst this
            rw [catS_em_l hnR] at h4
            rcases (hR q hq).2 with h' | h' <;> rw [h'] at h4 <;> simp [emptT, repT] at h4
          · have e := nf_em hnR h
            rw [e, catS_em_r hF.nf, ha]; exact hF.few
          · omega
        · exact Nat.le_trans (trm_len h4) (by omega)
      · intro c B hB t ht
        rw [catS_assoc e1 _ B hF.nf hnR hB] at ht
        rcases hF.stp c (catS (repS x q.1 q.2) B) (nf_catS hnR hB) t ht with ⟨e', he', ht'⟩ | ht'
        · refine .inl ⟨catS e' (repS x q.1 q.2), hS _ _ ⟨q, hq, .inr ⟨e', he', rfl⟩⟩, ?_⟩
          rw [catS_assoc e' _ B (ihx (c :: r) e' he').nf hnR hB]; exact ht'
        · exact (hRep q hq).stp c B hB t ht'
  intro e he
  rw [es_rep] at he
  rcases List.mem_append.1 he with he | he
  · have hnf := segs_nf hp r e he
    by_cases h3 : e.kind = 3
    · exact ⟨hnf, fun t ht => hS r t (hs r e he t ht), fun a b hab => by subst hab; simp [catT] at h3, Nat.le_trans (trm_len (by omega)) (by omega), stp_plain hnf (by omega) fun c => es_left c he⟩
    · cases hn : isNo e
      · exact hstF e (hs r e he e (trm_self h3 hn))
      · rw [nf_no hnf hn]; exact fam_noth
  · have := mem_repE.1 he
    rw [hQ] at this
    exact hstF e this

theorem fam_all : ∀ (p : Tm), Nf p → ∀ r, ∀ e ∈ es r p, Fam p r e := by
  refine Tm.ind ?_
  intro p ih h
  revert ih
  refine nf_cases (P := fun p => (∀ k ∈ p.kids, Nf k → ∀ r, ∀ e ∈ es r k, Fam k r e) → ∀ r, ∀ e ∈ es r p, Fam p r e) p h ?_ ?_ ?_ ?_ ?_ ?_
  · intro s _ r; exact fam_set s r
  · intro _ r; exact fam_emptT r
  · intro x y hx hy k1 k2 k3 k4 ih r
    exact fam_cat x y hx hy k1 k2 k3 k4 (ih x (by simp [catT]) hx) (ih y (by simp [catT]) hy) r
  · intro k l hk h2 h3 h4 h5 ih r
    have ih' : ∀ x ∈ l, ∀ r, ∀ e ∈ es r x, Fam x r e := fun x hx => ih x (by simpa [sevT] using hx) (h5 x hx)
    rcases hk with rfl | rfl
    · exact fam_or l (nf_sev (.inl rfl) h2 h3 h4 h5) h5 h4 ih' r
    · exact fam_and l h2 (nf_sev (.inr rfl) h2 h3 h4 h5) h5 h4 ih' r
  · intro x hx _ r; exact fam_not x hx r
  · intro x lo hi hx h0 h1 k2 k3 ih r; exact fam_rep x lo hi hx h0 h1 k2 k3 (ih x (by simp [repT]) hx) r

end Go.Proofs.YtbjohedenfindaaGreatDoor

namespace Go.Proofs.YtbjohedenfindaaGreatDoor
set_option linter.unusedVariables false

/-- a measure of the family -/
def gT (t : Tm) : Nat := match t with
  | ⟨k, s, a, b, ks⟩ => if k = 6 then 1 + ((max a b).toNat + 1) * (1 + (ks.map gT).sum) else 1 + (ks.map gT).sum
theorem gT_eq (t : Tm) : gT t = if t.kind = 6 then 1 + ((max t.mn t.mx).toNat + 1) * (1 + (t.kids.map gT).sum) else 1 + (t.kids.map gT).sum := by
  obtain ⟨k, s, a, b, ks⟩ := t; rw [gT]
theorem gT_set (s : List Rg) : gT (setT s) = 1 := by rw [gT_eq]; simp [setT]
theorem gT_empt : gT emptT = 1 := by rw [gT_eq]; simp [emptT]
theorem gT_not (x : Tm) : gT (notT x) = 1 + gT x := by rw [gT_eq]; simp [notT]
theorem gT_cat (x y : Tm) : gT (catT x y) = 1 + (gT x + gT y) := by rw [gT_eq]; simp [catT]
theorem gT_sev (k : Int) (l : List Tm) (hk : k = 3 ∨ k = 4) : gT (sevT k l) = 1 + (l.map gT).sum := by rw [gT_eq]; rcases hk with rfl | rfl <;> simp [sevT]
theorem gT_rep (x : Tm) (lo hi : Int) : gT (repT x lo hi) = 1 + ((max lo hi).toNat + 1) * (1 + gT x) := by rw [gT_eq]; simp [repT]

theorem sum_scale (l : List Tm) (m : Nat) : (l.map fun x => m * gT x).sum = m * (l.map gT).sum := by
  induction l with
  | nil => simp
  | cons a l ih => simp only [List.map_cons, List.sum_cons, ih, Nat.mul_add]
theorem flatMap_len {β : Type} (l : List β) (f : β → List Tm) (n : Nat) (h : ∀ x ∈ l, (f x).length = n) : (l.flatMap f).length = l.length * n := by
  induction l with
  | nil => simp
  | cons a l ih =>
    rw [List.flatMap_cons, List.length_append, h a (by simp), ih fun x hx => h x (by simp [hx]), List.length_cons, Nat.add_mul]; omega
theorem es_len : ∀ (p : Tm), Nf p → ∀ r : List Int, (es r p).length ≤ (r.length + 2) * gT p := by
  refine Tm.ind ?_
  intro p ih h
  revert ih
  refine nf_cases (P := fun p => (∀ k ∈ p.kids, Nf k → ∀ r : List Int, (es r k).length ≤ (r.length + 2) * gT k) → ∀ r : List Int, (es r p).length ≤ (r.length + 2) * gT p) p h ?_ ?_ ?_ ?_ ?_ ?_
  · intro s _ r; rw [es_set, gT_set]; simp [segs_len]
  · intro _ r; rw [es_empt, gT_empt]; simp [segs_len]
  · intro x y hx hy _ _ _ _ ih r
    have h1 := ih x (by simp [catT]) hx r
    have h2 := ih y (by simp [catT]) hy r
    rw [es_cat, gT_cat, Nat.mul_add, Nat.mul_add]; simp only [List.length_append, segs_len, List.length_map]; omega
  · intro k l hk _ _ _ h5 ih r
    have h1 := flat_len l (es r) (fun x => (r.length + 2) * gT x) fun x hx => ih x (by simpa [sevT] using hx) (h5 x hx) r
    rw [sum_scale] at h1
    rw [es_sev r k l hk, gT_sev k l hk, Nat.mul_add]; simp only [List.length_append, segs_len]; omega
  · intro x _ _ r; rw [es_not, gT_not, Nat.mul_add]; simp only [segs_len]; omega
  · intro x lo hi hx _ _ _ _ ih r
    have h1 := ih x (by simp [repT]) hx r
    rw [es_rep, gT_rep]
    have h2 : (repE lo hi x (es r x)).length = ((max lo hi).toNat + 1) * (1 + (es r x).length) := by
      unfold repE
      rw [flatMap_len _ _ (1 + (es r x).length) (fun q _ => by simp; omega), ctr_len]
    simp only [List.length_append, segs_len, h2]
    have h3 : 1 + (es r x).length ≤ (r.length + 2) * (1 + gT x) := by rw [Nat.mul_add]; omega
    have h4 := Nat.mul_le_mul_left ((max lo hi).toNat + 1) h3
    have h5 : ((max lo hi).toNat + 1) * ((r.length + 2) * (1 + gT x)) = (r.length + 2) * (((max lo hi).toNat + 1) * (1 + gT x)) := by
      rw [← Nat.mul_assoc, ← Nat.mul_assoc, Nat.mul_comm ((max lo hi).toNat + 1)]
    rw [Nat.mul_add (r.length + 2) 1]; omega

theorem aT_gT : ∀ (p : Tm), aT p ≤ gT p := by
  refine Tm.ind ?_
  intro t ih
  have : (t.kids.map aT).sum ≤ (t.kids.map gT).sum := by
    generalize t.kids = l at ih
    induction l with
    | nil => simp
    | cons a l ih2 =>
      have h1 := ih a (by simp)
      have h2 := ih2 fun k hk => ih k (by simp [hk])
      simp only [List.map_cons, List.sum_cons]; omega
  rw [aT_eq, gT_eq]
  have h3 : (t.kids.map gT).sum ≤ ((max t.mn t.mx).toNat + 1) * (1 + (t.kids.map gT).sum) := by
    rw [Nat.add_mul]; omega
  split <;> split <;> (try split) <;> omega

/-! ## Small all the way down -/
def NodeF (N N1 : Nat) (c : Int) (t : Tm) : Prop := t.kids.length ≤ N ∧ (t.kind = 4 → t.kids.length ≤ N1) ∧ (trm 3 (dv c t)).length ≤ N ∧ (trm 4 (dv c t)).length ≤ N1
def Fine (N N1 : Nat) (c : Int) (t : Tm) : Prop := match t with
  | ⟨k, s, a, b, ks⟩ => NodeF N N1 c ⟨k, s, a, b, ks⟩ ∧ ∀ x, (h : x ∈ ks) → Fine N N1 c x
theorem fine_iff {N N1 : Nat} {c : Int} {t : Tm} : Fine N N1 c t ↔ NodeF N N1 c t ∧ ∀ x ∈ t.kids, Fine N N1 c x := by
  obtain ⟨k, s, a, b, ks⟩ := t; rw [Fine]
theorem node_fam {N N1 : Nat} {p : Tm} (hp : Nf p) {r : List Int} (hN : (r.length + 3) * gT p ≤ N) (h2 : 2 ≤ N) (h1 : aT p ≤ N1) (c : Int) {e : Tm} (he : e ∈ es r p) : NodeF N N1 c e := by
  have hF := fam_all p hp r e he
  have hd : ∀ t ∈ trm 3 (dv c e), t ∈ es (c :: r) p := by
    intro t ht
    rcases hF.stp c emptT nf_empt t (by rw [catS_em_r hF.nf]; exact ht) with ⟨e', he', ht'⟩ | ht'
    · have hF' := fam_all p hp (c :: r) e' he'
      rw [catS_em_r hF'.nf] at ht'
      exact hF'.mem t ht'
    · rw [dv_empt, trm_noth 3 (.inl rfl)] at ht'; simp at ht'
  have hnd := nf_dv c e hF.nf
  have l1 := es_len p hp (c :: r)
  have l0 := es_len p hp r
  have ha := aT_pos p hp
  have l2 : (r.length + 2) * gT p ≤ (r.length + 3) * gT p := Nat.mul_le_mul_right _ (by omega)
  have hk4 : e.kind = 4 → e.kids.length ≤ N1 := by
    intro h4
    have := hF.few
    have e4 : trm 4 e = e.kids := by simp [trm, h4]
    rw [e4] at this; omega
  refine ⟨?_, hk4, ?_, ?_⟩
  · by_cases h3 : e.kind = 3
    · have e3 : trm 3 e = e.kids := by simp [trm, h3]
      have hs := trm_srt (.inl rfl) hF.nf
      have := nodup_le e.kids (es r p) (by rw [← e3]; exact hs.nodup) (by rw [← e3]; exact hF.mem)
      omega
    · by_cases h4 : e.kind = 4
      · have e4 : trm 4 e = e.kids := by simp [trm, h4]
        have hs := trm_srt (.inr rfl) hF.nf
        have := hF.few
        rw [e4] at this
        have := aT_gT p
        have : gT p ≤ (r.length + 3) * gT p := Nat.le_mul_of_pos_left _ (by omega)
        omega
      · have : e.kids.length ≤ 2 := by
          revert h3 h4
          refine nf_cases (P := fun e => e.kind ≠ 3 → e.kind ≠ 4 → e.kids.length ≤ 2) e hF.nf ?_ ?_ ?_ ?_ ?_ ?_
          · intro s _ _; simp [setT]
          · intro _ _; simp [emptT]
          · intro x y _ _ _ _ _ _ _ _; simp [catT]
          · intro k l hk _ _ _ _ h3 h4; simp only [sevT] at h3 h4; omega
          · intro x _ _ _; simp [notT]
          · intro x _ _ _ _ _ _ _ _ _; simp [repT]
        omega
  · have := nodup_le _ (es (c :: r) p) (trm_srt (.inl rfl) hnd).nodup hd
    have e3 : (c :: r).length + 2 = r.length + 3 := by simp
    rw [e3] at l1
    omega
  · by_cases h4 : (dv c e).kind = 4
    · have hm := hd (dv c e) (trm_self (by omega) (by simp [isNo, h4]))
      have := (fam_all p hp (c :: r) _ hm).few
      omega
    · have := trm_len h4
      omega

theorem fine_noth {N N1 : Nat} {c : Int} : Fine N N1 c nothT := by
  rw [fine_iff, NodeF, dv_noth, trm_noth 3 (.inl rfl), trm_noth 4 (.inr rfl)]; simp [nothT]
theorem fine_all (N N1 : Nat) (n : Nat) (h2 : 2 ≤ N) (c : Int) : ∀ (p : Tm), Nf p → (n + 3) * gT p ≤ N → aT p ≤ N1 → ∀ r : List Int, r.length ≤ n → ∀ e ∈ es r p, Fine N N1 c e := by
  refine Tm.ind ?_
  intro p ih hp hN h1 r hr
  have hnode : ∀ e ∈ es r p, NodeF N N1 c e := fun e he => node_fam hp (Nat.le_trans (Nat.mul_le_mul_right _ (by omega)) hN) h2 h1 c he
  revert ih hp hN h1 hnode
  refine fun ih hp => nf_cases (P := fun p => (∀ k ∈ p.kids, Nf k → (n + 3) * gT k ≤ N → aT k ≤ N1 → ∀ r : List Int, r.length ≤ n → ∀ e ∈ es r k, Fine N N1 c e) → (n + 3) * gT p ≤ N → aT p ≤ N1 → (∀ e ∈ es r p, NodeF N N1 c e) → ∀ e ∈ es r p, Fine N N1 c e) p hp ?_ ?_ ?_ ?_ ?_ ?_ ih
  · intro s _ _ _ hnode e he
    refine fine_iff.2 ⟨hnode e he, ?_⟩
    rw [es_set] at he
    have : e = setT s ∨ e = emptT ∨ e = nothT := by
      rcases List.mem_append.1 he with he | he
      · exact set_forms s r e he
      · simp only [List.mem_singleton] at he; exact .inr (.inl he)
    rcases this with rfl | rfl | rfl <;> simp [setT, emptT, nothT]
  · intro _ _ _ hnode e he
    refine fine_iff.2 ⟨hnode e he, ?_⟩
    rw [es_empt] at he
    rcases empt_forms r e he with rfl | rfl <;> simp [emptT, nothT]
  · intro x y hx hy k1 k2 k3 k4 ih hN h1 hnode
    rw [gT_cat] at hN
    rw [aT_cat] at h1
    have gx : (n + 3) * gT x ≤ N := Nat.le_trans (Nat.mul_le_mul_left _ (by omega)) hN
    have gy : (n + 3) * gT y ≤ N := Nat.le_trans (Nat.mul_le_mul_left _ (by omega)) hN
    have fx := ih x (by simp [catT]) hx gx (by omega) r hr
    have fy := ih y (by simp [catT]) hy gy (by omega) r hr
    have hy' := fy y (es_self r y)
    have hstr : ∀ e1, e1 ∈ es r x → Fine N N1 c (catS e1 y) := by
      refine Tm.ind ?_
      intro e1 ih1 he1
      have hF := fam_all x hx r e1 he1
      have hno := hnode (catS e1 y) (mem_cat_l he1)
      have f1 := fx e1 he1
      cases n1 : isNo e1
      · by_cases hk : e1.kind = 2
        · revert ih1 he1 hno f1 hk
          refine nf_cases (P := fun e1 => (∀ k ∈ e1.kids, k ∈ es r x → Fine N N1 c (catS k y)) → e1 ∈ es r x → NodeF N N1 c (catS e1 y) → Fine N N1 c e1 → e1.kind = 2 → Fine N N1 c (catS e1 y)) e1 hF.nf ?_ ?_ ?_ ?_ ?_ ?_
          · intro s _ _ _ _ h; simp [setT] at h
          · intro _ _ _ _ _; rw [catS_em_l hy]; exact hy'
          · intro a b _ _ _ _ _ _ ih1 he1 hno f1 _
            rw [catS_cat k3 k4] at hno ⊢
            refine fine_iff.2 ⟨hno, ?_⟩
            intro z hz
            simp only [catT, List.mem_cons, List.not_mem_nil, or_false] at hz
            rcases hz with rfl | rfl
            · exact (fine_iff.1 f1).2 z (by simp [catT])
            · exact ih1 b (by simp [catT]) ((fam_all x hx r _ he1).rest a b rfl)
          · intro k l hk _ _ _ _ _ _ _ _ h; simp only [sevT] at h; omega
          · intro x _ _ _ _ _ h; simp [notT] at h
          · intro x _ _ _ _ _ _ _ _ _ _ _ h; simp [repT] at h
        · rw [catS_plain hk n1 k3 k4] at hno ⊢
          refine fine_iff.2 ⟨hno, ?_⟩
          intro z hz
          simp only [catT, List.mem_cons, List.not_mem_nil, or_false] at hz
          rcases hz with rfl | rfl
          · exact f1
          · exact hy'
      · rw [catS_no_l n1]; exact fine_noth
    have hst : ∀ t, ((∃ e1 ∈ es r x, t = catS e1 y) ∨ t ∈ es r y) → Fine N N1 c t := by
      rintro t (⟨e1, he1, rfl⟩ | h)
      · exact hstr e1 he1
      · exact fy t h
    have hseg := cat_seg x y hx hy k1 k2 k3 k4 (fam_all x hx) (fam_all y hy) r
    intro e he
    have he' := he
    rw [es_cat] at he
    rcases List.mem_append.1 he with he | he
    · by_cases h3 : e.kind = 3
      · refine fine_iff.2 ⟨hnode e he', fun t ht => hst t (hseg e he t (by simpa [trm, h3] using ht))⟩
      · cases hn : isNo e
        · exact hst e (hseg e he e (trm_self h3 hn))
        · rw [nf_no (segs_nf (nf_cat hx hy k1 k2 k3 k4) r e he) hn]; exact fine_noth
    · refine hst e ?_
      rcases List.mem_append.1 he with h | h
      · obtain ⟨e1, he1, rfl⟩ := List.mem_map.1 h
        exact .inl ⟨e1, he1, rfl⟩
      · exact .inr h
  · intro k l hk k2 k3 k4 k5 ih hN h1 hnode
    have hp' := nf_sev hk k2 k3 k4 k5
    rw [gT_sev k l hk] at hN
    rw [aT_sev k l hk] at h1
    have fx : ∀ x ∈ l, ∀ e ∈ es r x, Fine N N1 c e := by
      intro x hx
      have g := sum_mem gT hx
      have a := sum_mem aT hx
      exact ih x (by simpa [sevT] using hx) (k5 x hx) (Nat.le_trans (Nat.mul_le_mul_left _ (by omega)) hN) (by omega) r hr
    intro e he
    have he' := he
    rw [es_sev r k l hk] at he
    rcases List.mem_append.1 he with he | he
    · rcases hk with rfl | rfl
      · have hseg := or_seg l hp' k5 k4 (fun x hx => fam_all x (k5 x hx)) r e he
        by_cases h3 : e.kind = 3
        · refine fine_iff.2 ⟨hnode e he', fun t ht => ?_⟩
          obtain ⟨x, hx, h⟩ := hseg t (by simpa [trm, h3] using ht)
          exact fx x hx t h
        · cases hn : isNo e
          · obtain ⟨x, hx, h⟩ := hseg e (trm_self h3 hn)
            exact fx x hx e h
          · rw [nf_no (segs_nf hp' r e he) hn]; exact fine_noth
      · obtain ⟨u, hu, hq⟩ := segs_dvs r e he
        have hA := and_seg l k2 hp' k5 k4 u
        rw [← hu] at hA
        rcases hA with h | ⟨hk, hm, hn⟩ | ⟨x, hx, h⟩
        · rw [h]; exact fine_noth
        · refine fine_iff.2 ⟨hnode e he', fun t ht => ?_⟩
          obtain ⟨x, hx, ht⟩ := (hm t).1 ht
          have f := fx x hx _ (es_segs (hq x))
          unfold trm at ht
          split at ht
          · exact (fine_iff.1 f).2 t ht
          · split at ht
            · simp at ht
            · simp only [List.mem_singleton] at ht; subst ht; exact f
        · rw [h]; exact fx x hx _ (es_segs (hq x))
    · obtain ⟨m, hm, he⟩ := List.mem_flatten.1 he
      obtain ⟨x, hx, rfl⟩ := List.mem_map.1 hm
      exact fx x hx e he
  · intro x hx ih hN h1 hnode e he
    have he' := he
    rw [es_not] at he
    obtain ⟨u, rfl, hu⟩ := not_forms x r e he
    refine fine_iff.2 ⟨hnode _ he', ?_⟩
    intro z hz
    simp only [notT, List.mem_singleton] at hz; subst hz
    rw [gT_not] at hN
    rw [aT_not] at h1
    exact ih x (by simp [notT]) hx (Nat.le_trans (Nat.mul_le_mul_left _ (by omega)) hN) h1 r hr _ (es_segs hu)
  · intro x lo hi hx h0 h3 k2 k3 ih hN h1 hnode
    have hp' := nf_rep hx h0 h3 k2 k3
    rw [gT_rep] at hN
    rw [aT_rep] at h1
    have gx : (n + 3) * gT x ≤ N := by
      refine Nat.le_trans (Nat.mul_le_mul_left _ ?_) hN
      rw [Nat.add_mul]; omega
    have fx := ih x (by simp [repT]) hx gx h1 r hr
    have hR : ∀ q ∈ ctr (max lo hi).toNat lo hi, repS x q.1 q.2 = emptT ∨ repS x q.1 q.2 = repT x q.1 q.2 := by
      intro q hq
      unfold repS; rw [k2, k3]; split <;> simp
    have hnR : ∀ q ∈ ctr (max lo hi).toNat lo hi, Nf (repS x q.1 q.2) := by
      intro q hq
      have := ctr_ok _ lo hi h0 (by omega) q hq
      exact nf_repS hx this.1 this.2
    have hin : ∀ t, (∃ q ∈ ctr (max lo hi).toNat lo hi, t = repS x q.1 q.2 ∨ ∃ e ∈ es r x, t = catS e (repS x q.1 q.2)) → t ∈ es r (repT x lo hi) := by
      intro t ht; rw [es_rep]; exact List.mem_append_right _ (mem_repE.2 ht)
    have hRf : ∀ q ∈ ctr (max lo hi).toNat lo hi, Fine N N1 c (repS x q.1 q.2) := by
      intro q hq
      refine fine_iff.2 ⟨hnode _ (hin _ ⟨q, hq, .inl rfl⟩), ?_⟩
      rcases hR q hq with h | h <;> rw [h]
      · simp [emptT]
      · simp only [repT, List.mem_singleton]; rintro z rfl; exact fx z (es_self r z)
    have hstr : ∀ q ∈ ctr (max lo hi).toNat lo hi, ∀ e1, e1 ∈ es r x → Fine N N1 c (catS e1 (repS x q.1 q.2)) := by
      intro q hq
      have hy := hnR q hq
      have fR := hRf q hq
      have hmem : ∀ e1, e1 ∈ es r x → NodeF N N1 c (catS e1 (repS x q.1 q.2)) := fun e1 he1 => hnode _ (hin _ ⟨q, hq, .inr ⟨e1, he1, rfl⟩⟩)
      generalize repS x q.1 q.2 = y at hy fR hmem
      cases k4 : isEm y
      · cases k3 : isNo y
        · refine Tm.ind ?_
          intro e1 ih1 he1
          have hF := fam_all x hx r e1 he1
          have hno := hmem e1 he1
          have f1 := fx e1 he1
          cases n1 : isNo e1
          · by_cases hk : e1.kind = 2
            · revert ih1 he1 hno f1 hk
              refine nf_cases (P := fun e1 => (∀ k ∈ e1.kids, k ∈ es r x → Fine N N1 c (catS k y)) → e1 ∈ es r x → NodeF N N1 c (catS e1 y) → Fine N N1 c e1 → e1.kind = 2 → Fine N N1 c (catS e1 y)) e1 hF.nf ?_ ?_ ?_ ?_ ?_ ?_
              · intro s _ _ _ _ h; simp [setT] at h
              · intro _ _ _ _ _; rw [catS_em_l hy]; exact fR
              · intro a b _ _ _ _ _ _ ih1 he1 hno f1 _
                rw [catS_cat k3 k4] at hno ⊢
                refine fine_iff.2 ⟨hno, ?_⟩
                intro z hz
                simp only [catT, List.mem_cons, List.not_mem_nil, or_false] at hz
                rcases hz with rfl | rfl
                · exact (fine_iff.1 f1).2 z (by simp [catT])
                · exact ih1 b (by simp [catT]) ((fam_all x hx r _ he1).rest a b rfl)
              · intro k l hk _ _ _ _ _ _ _ _ h; simp only [sevT] at h; omega
              · intro x _ _ _ _ _ h; simp [notT] at h
              · intro x _ _ _ _ _ _ _ _ _ _ _ h; simp [repT] at h
            · rw [catS_plain hk n1 k3 k4] at hno ⊢
              refine fine_iff.2 ⟨hno, ?_⟩
              intro z hz
              simp only [catT, List.mem_cons, List.not_mem_nil, or_false] at hz
              rcases hz with rfl | rfl
              · exact f1
              · exact fR
          · rw [catS_no_l n1]; exact fine_noth
        · intro e1 _; rw [catS_no_r k3]; exact fine_noth
      · have e := nf_em hy k4
        intro e1 he1
        rw [e, catS_em_r (fam_all x hx r e1 he1).nf]; exact fx e1 he1
    have hst : ∀ t, (∃ q ∈ ctr (max lo hi).toNat lo hi, t = repS x q.1 q.2 ∨ ∃ e ∈ es r x, t = catS e (repS x q.1 q.2)) → Fine N N1 c t := by
      rintro t ⟨q, hq, rfl | ⟨e, he, rfl⟩⟩
      · exact hRf q hq
      · exact hstr q hq e he
    have hseg := rep_seg x lo hi hx h0 h3 k2 k3 (fam_all x hx) r
    intro e he
    have he' := he
    rw [es_rep] at he
    rcases List.mem_append.1 he with he | he
    · by_cases h3 : e.kind = 3
      · refine fine_iff.2 ⟨hnode e he', fun t ht => hst t (hseg e he t (by simpa [trm, h3] using ht))⟩
      · cases hn : isNo e
        · exact hst e (hseg e he e (trm_self h3 hn))
        · rw [nf_no (segs_nf hp' r e he) hn]; exact fine_noth
    · exact hst e (mem_repE.1 he)
/-- behind any text of at most n points what is left is small -/
theorem fine_dvs {N N1 n : Nat} (h2 : 2 ≤ N) (c : Int) {p : Tm} (hp : Nf p) (hN : (n + 3) * gT p ≤ N) (h1 : aT p ≤ N1) (r : List Int) (hr : r.length ≤ n) : Fine N N1 c (dvs r p) := by
  have hin : ∀ r : List Int, dvs r p ∈ segs r p := by
    intro r
    induction r with
    | nil => simp [segs, dvs]
    | cons c r ih => exact segs_step c ih
  exact fine_all N N1 n h2 c p hp hN h1 r hr _ (es_segs (hin r))

end Go.Proofs.YtbjohedenfindaaGreatDoor
