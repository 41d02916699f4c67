/- Texts of the proof, put together: DvE, DvF. -/
import Derived.Test.YtbjohedenfindaaGreatDoorMg24
namespace Go.Proofs.YtbjohedenfindaaGreatDoor
set_option linter.unusedVariables false

theorem mem_sev {r : List Int} {k : Int} (hk : k = 3 ∨ k = 4) {l : List Tm} {x e : Tm} (hx : x ∈ l) (he : e ∈ es r x) : e ∈ es r (sevT k l) := by
  rw [es_sev r k l hk]
  exact List.mem_append_right _ (List.mem_flatten.2 ⟨es r x, List.mem_map_of_mem hx, he⟩)
theorem aT_mem {k : Int} (hk : k = 3 ∨ k = 4) {l : List Tm} {x : Tm} (hx : x ∈ l) : aT x ≤ aT (sevT k l) := by
  rw [aT_sev k l hk]; exact sum_mem aT hx

theorem or_seg (l : List Tm) (hp : Nf (sevT 3 l)) (h5 : ∀ x ∈ l, Nf x) (h4 : ∀ x ∈ l, x.kind ≠ 3 ∧ isNo x = false) (ih : ∀ x ∈ l, ∀ r, ∀ e ∈ es r x, Fam x r e) : ∀ r e, e ∈ segs r (sevT 3 l) → ∀ t ∈ trm 3 e, ∃ x ∈ l, t ∈ es r x := by
  have hs : ∀ r e, e ∈ segs r (sevT 3 l) → ∀ t ∈ trm 3 e, ∃ x ∈ l, ∃ e' ∈ segs r x, t ∈ trm 3 e' := by
    refine segs_ind ?_ ?_
    · intro r t ht
      have ht : t ∈ l := by simpa [trm, sevT] using ht
      exact ⟨t, ht, t, segs_self r t, trm_self (h4 t ht).1 (h4 t ht).2⟩
    · intro r c e he h t ht
      obtain ⟨u, hu, hx⟩ := (trm_dv c (segs_nf hp r e he) t).1 ht
      obtain ⟨x, hxl, e', he', hu'⟩ := h u hu
      exact ⟨x, hxl, dv c e', segs_step c he', (trm_dv c (segs_nf (h5 x hxl) r e' he') t).2 ⟨u, hu', hx⟩⟩
  intro r e he t ht
  obtain ⟨x, hx, e', he', ht'⟩ := hs r e he t ht
  exact ⟨x, hx, (ih x hx r e' (es_segs he')).mem t ht'⟩
theorem fam_or (l : List Tm) (hp : Nf (sevT 3 l)) (h5 : ∀ x ∈ l, Nf x) (h4 : ∀ x ∈ l, x.kind ≠ 3 ∧ isNo x = false) (ih : ∀ x ∈ l, ∀ r, ∀ e ∈ es r x, Fam x r e) (r : List Int) : ∀ e ∈ es r (sevT 3 l), Fam (sevT 3 l) r e := by
  have hm := or_seg l hp h5 h4 ih
  have hlift : ∀ x ∈ l, ∀ e, Fam x r e → Fam (sevT 3 l) r e := fun x hx e h => h.lift (fun r y hy => mem_sev (.inl rfl) hx hy) (aT_mem (.inl rfl) hx)
  intro e he
  rw [es_sev r 3 l (.inl rfl)] at he
  rcases List.mem_append.1 he with he | he
  · have hnf := segs_nf hp r e he
    by_cases h3 : e.kind = 3
    · refine ⟨hnf, ?_, ?_, Nat.le_trans (trm_len (by omega)) (aT_pos _ hp), stp_plain hnf (by omega) fun c => es_left c he⟩
      · intro t ht
        obtain ⟨x, hx, h⟩ := hm r e he t ht
        exact mem_sev (.inl rfl) hx h
      · intro a b hab; subst hab; simp [catT] at h3
    · cases hn : isNo e
      · obtain ⟨x, hx, h⟩ := hm r e he e (trm_self h3 hn)
        exact hlift x hx e (ih x hx r e h)
      · rw [nf_no hnf hn]; exact fam_noth
  · obtain ⟨m, hm, he⟩ := List.mem_flatten.1 he
    obtain ⟨x, hx, rfl⟩ := List.mem_map.1 hm
    exact hlift x hx e (ih x hx r e he)

/-- the members of what is left of both, where none is nothing -/
theorem trm4_dv (c : Int) {y : Tm} (h : Nf y) (hn : isNo y = false) (hk : ∀ k ∈ trm 4 y, isNo (dv c k) = false) :
    isNo (dv c y) = false ∧ ∀ t, t ∈ trm 4 (dv c y) ↔ ∃ k ∈ trm 4 y, t ∈ trm 4 (dv c k) := by
  by_cases h4 : y.kind = 4
  · revert h4 hk
    refine nf_cases (P := fun y => (∀ k ∈ trm 4 y, isNo (dv c k) = false) → y.kind = 4 → isNo (dv c y) = false ∧ ∀ t, t ∈ trm 4 (dv c y) ↔ ∃ k ∈ trm 4 y, t ∈ trm 4 (dv c k)) y h ?_ ?_ ?_ ?_ ?_ ?_
    · intro s _ h; simp [setT] at h
    · intro _ h; simp [emptT] at h
    · intro x y _ _ _ _ _ _ _ h; simp [catT] at h
    · intro k l hk h2 _ h4 h5 hno hkk
      simp only [sevT] at hkk; subst hkk
      have e : trm 4 (sevT 4 l) = l := by simp [trm, sevT]
      rw [e] at hno ⊢
      have hany : ¬ ((4 : Int) = 4 ∧ (l.map (dv c)).any isNo = true) := by
        rintro ⟨_, h⟩
        simp only [List.any_eq_true, List.mem_map] at h
        obtain ⟨_, ⟨u, hu, rfl⟩, h⟩ := h
        rw [hno u hu] at h; simp at h
      have hnfs : ∀ t ∈ l.map (dv c), Nf t := by
        intro t ht; obtain ⟨u, hu, rfl⟩ := List.mem_map.1 ht; exact nf_dv c u (h5 u hu)
      have hone := nf_oneS (.inr rfl) (srt_gatA 4 (l.map (dv c)) [] srt_nil) (gatA_nf (.inr rfl) hnfs)
      have hmem : ∀ t, t ∈ gatA 4 [] (l.map (dv c)) ↔ ∃ k ∈ l, t ∈ trm 4 (dv c k) := by
        intro t; rw [mem_gatA]; simp only [List.not_mem_nil, false_or, List.mem_map]
        exact ⟨fun ⟨_, ⟨k, hk, e⟩, ht⟩ => ⟨k, hk, by rw [e]; exact ht⟩, fun ⟨k, hk, ht⟩ => ⟨_, ⟨k, hk, rfl⟩, ht⟩⟩
      rw [dv_sev c 4 l (.inr rfl), joinS, if_neg hany]
      refine ⟨?_, fun t => by rw [hone.2]; exact hmem t⟩
      match l, h2 with
      | x :: l', h2 =>
        have hx : isNo (dv c x) = false := hno x (by simp)
        have hnx := nf_dv c x (h5 x (by simp))
        have : ∃ t, t ∈ trm 4 (dv c x) := by
          by_cases hk : (dv c x).kind = 4
          · revert hk
            refine nf_cases (P := fun z => z.kind = 4 → ∃ t, t ∈ trm 4 z) (dv c x) hnx ?_ ?_ ?_ ?_ ?_ ?_
            · intro s h; simp [setT] at h
            · intro h; simp [emptT] at h
            · intro x y _ _ _ _ _ _ h; simp [catT] at h
            · intro k l hk h2 _ _ _ hkk
              match l, h2 with
              | z :: l, _ => exact ⟨z, by simp only [sevT] at hkk; simp [trm, sevT, hkk]⟩
            · intro x _ h; simp [notT] at h
            · intro x _ _ _ _ _ _ _ h; simp [repT] at h
          · exact ⟨_, trm_self hk hx⟩
        obtain ⟨t, ht⟩ := this
        have hin := (hmem t).2 ⟨x, by simp, ht⟩
        generalize gatA 4 [] (List.map (dv c) (x :: l')) = L at hin hone
        cases hL : isNo (oneS 4 L)
        · rfl
        · have := nf_no hone.1 hL
          have h7 := hone.2
          rw [this, trm_noth 4 (.inr rfl)] at h7
          rw [← h7] at hin; simp at hin
    · intro x _ _ h; simp [notT] at h
    · intro x _ _ _ _ _ _ _ _ h; simp [repT] at h
  · have e : trm 4 y = [y] := by simp [trm, h4, hn]
    rw [e] at hk ⊢
    exact ⟨hk y (by simp), fun t => by simp⟩

def AndQ (l : List Tm) (u : List Int) (e : Tm) : Prop :=
  e = nothT ∨ (e.kind = 4 ∧ (∀ t, t ∈ e.kids ↔ ∃ x ∈ l, t ∈ trm 4 (dvs u x)) ∧ ∀ x ∈ l, isNo (dvs u x) = false) ∨ ∃ x ∈ l, e = dvs u x
theorem dvs_nf {p : Tm} (h : Nf p) : ∀ u, Nf (dvs u p)
  | [] => h
  | c :: u => nf_dv c _ (dvs_nf h u)
theorem single {y k : Tm} (h : Nf y) (hn : isNo y = false) (hm : ∀ t, t ∈ trm 4 y → t = k) : y = k := by
  by_cases h4 : y.kind = 4
  · exfalso
    revert h4 hm
    refine nf_cases (P := fun y => (∀ t, t ∈ trm 4 y → t = k) → y.kind = 4 → False) y h ?_ ?_ ?_ ?_ ?_ ?_
    · intro s _ h; simp [setT] at h
    · intro _ h; simp [emptT] at h
    · intro x y _ _ _ _ _ _ _ h; simp [catT] at h
    · intro k' l hk h2 h3 _ _ hm hkk
      simp only [sevT] at hkk; subst hkk
      have e : trm 4 (sevT 4 l) = l := by simp [trm, sevT]
      rw [e] at hm
      match l, h2, h3, hm with
      | x :: z :: l, _, h3, hm =>
        have h6 := (List.pairwise_cons.1 h3).1 z (by simp)
        have e1 := hm x (by simp)
        have e2 := hm z (by simp)
        rw [e1, e2] at h6
        have := ord_zero.2 (rfl : k = k); omega
    · intro x _ _ h; simp [notT] at h
    · intro x _ _ _ _ _ _ _ _ h; simp [repT] at h
  · exact hm y (trm_self h4 hn)
theorem and_seg (l : List Tm) (h2 : 2 ≤ l.length) (hp : Nf (sevT 4 l)) (h5 : ∀ x ∈ l, Nf x) (h4 : ∀ x ∈ l, x.kind ≠ 4 ∧ isNo x = false) : ∀ u, AndQ l u (dvs u (sevT 4 l))
  | [] => .inr (.inl ⟨rfl, fun t => by
      simp only [dvs, sevT]
      constructor
      · intro ht; exact ⟨t, ht, trm_self (h4 t ht).1 (h4 t ht).2⟩
      · rintro ⟨x, hx, ht⟩
        have : trm 4 x = [x] := by simp [trm, (h4 x hx).1, (h4 x hx).2]
        rw [this] at ht; simp only [List.mem_singleton] at ht; subst ht; exact hx, fun x hx => (h4 x hx).2⟩)
  | c :: u => by
    have hnf := dvs_nf hp u
    rcases and_seg l h2 hp h5 h4 u with h | ⟨hk, hm, hn⟩ | ⟨x, hx, h⟩
    · exact .inl (by simp only [dvs, h, dv_noth])
    · simp only [dvs, AndQ]
      generalize dvs u (sevT 4 l) = e at hnf hk hm
      revert hk hm
      refine nf_cases (P := fun e => e.kind = 4 → (∀ t, t ∈ e.kids ↔ ∃ x ∈ l, t ∈ trm 4 (dvs u x)) → dv c e = nothT ∨ ((dv c e).kind = 4 ∧ (∀ t, t ∈ (dv c e).kids ↔ ∃ x ∈ l, t ∈ trm 4 (dv c (dvs u x))) ∧ ∀ x ∈ l, isNo (dv c (dvs u x)) = false) ∨ ∃ x ∈ l, dv c e = dv c (dvs u x)) e hnf ?_ ?_ ?_ ?_ ?_ ?_
      · intro s h; simp [setT] at h
      · intro h; simp [emptT] at h
      · intro x y _ _ _ _ _ _ h; simp [catT] at h
      · intro k' ks hk k2 k3 k4 k5 hkk hm
        simp only [sevT] at hkk hm; subst hkk
        rw [dv_sev c 4 ks (.inr rfl)]
        by_cases hany : (4 : Int) = 4 ∧ (ks.map (dv c)).any isNo = true
        · exact .inl (by rw [joinS, if_pos hany])
        · have hno : ∀ k ∈ ks, isNo (dv c k) = false := by
            intro k hk
            cases h : isNo (dv c k)
            · rfl
            · exact absurd ⟨rfl, List.any_eq_true.2 ⟨dv c k, List.mem_map_of_mem hk, h⟩⟩ hany
          rw [joinS, if_neg hany]
          have hx4 : ∀ x ∈ l, isNo (dv c (dvs u x)) = false ∧ ∀ t, t ∈ trm 4 (dv c (dvs u x)) ↔ ∃ k ∈ trm 4 (dvs u x), t ∈ trm 4 (dv c k) :=
            fun x hx => trm4_dv c (dvs_nf (h5 x hx) u) (hn x hx) fun k hk => hno k ((hm k).2 ⟨x, hx, hk⟩)
          have hmem : ∀ t, t ∈ gatA 4 [] (ks.map (dv c)) ↔ ∃ x ∈ l, t ∈ trm 4 (dv c (dvs u x)) := by
            intro t
            rw [mem_gatA]
            simp only [List.not_mem_nil, false_or, List.mem_map]
            constructor
            · rintro ⟨_, ⟨k, hk, rfl⟩, ht⟩
              obtain ⟨x, hx, hkx⟩ := (hm k).1 hk
              exact ⟨x, hx, ((hx4 x hx).2 t).2 ⟨k, hkx, ht⟩⟩
            · rintro ⟨x, hx, ht⟩
              obtain ⟨k, hk, ht⟩ := ((hx4 x hx).2 t).1 ht
              exact ⟨_, ⟨k, (hm k).2 ⟨x, hx, hk⟩, rfl⟩, ht⟩
          have hlast : ∀ x ∈ l, isNo (dv c (dvs u x)) = false := fun x hx => (hx4 x hx).1
          generalize gatA 4 [] (ks.map (dv c)) = L at hmem
          match L, hmem with
          | [], _ => exact .inl rfl
          | [k], hmem =>
            match l, h2, hmem, hlast, h5 with
            | x :: l', _, hmem, hlast, h5 =>
              refine .inr (.inr ⟨x, by simp, ?_⟩)
              refine (single (nf_dv c _ (dvs_nf (h5 x (by simp)) u)) (hlast x (by simp)) ?_).symm
              intro t ht
              have := (hmem t).2 ⟨x, by simp, ht⟩
              simp only [List.mem_singleton] at this
              exact this
          | k :: k2 :: L, hmem => exact .inr (.inl ⟨rfl, hmem, hlast⟩)
      · intro x _ h; simp [notT] at h
      · intro x _ _ _ _ _ _ _ h; simp [repT] at h
    · exact .inr (.inr ⟨x, hx, by simp only [dvs, h]⟩)
theorem flat_len (l : List Tm) (f : Tm → List Tm) (g : Tm → Nat) (h : ∀ x ∈ l, (f x).length ≤ g x) : ((l.map f).flatten).length ≤ (l.map g).sum := by
  induction l with
  | nil => simp
  | cons a l ih =>
    have h1 := h a (by simp)
    have h2 := ih fun x hx => h x (by simp [hx])
    simp only [List.map_cons, List.flatten_cons, List.length_append, List.sum_cons]; omega
theorem fam_and (l : List Tm) (h2 : 2 ≤ l.length) (hp : Nf (sevT 4 l)) (h5 : ∀ x ∈ l, Nf x) (h4 : ∀ x ∈ l, x.kind ≠ 4 ∧ isNo x = false) (ih : ∀ x ∈ l, ∀ r, ∀ e ∈ es r x, Fam x r e) (r : List Int) : ∀ e ∈ es r (sevT 4 l), Fam (sevT 4 l) r e := by
  have hlift : ∀ x ∈ l, ∀ e, Fam x r e → Fam (sevT 4 l) r e := fun x hx e h => h.lift (fun r y hy => mem_sev (.inr rfl) hx hy) (aT_mem (.inr rfl) hx)
  intro e he
  rw [es_sev r 4 l (.inr rfl)] at he
  rcases List.mem_append.1 he with he | he
  · have hnf := segs_nf hp r e he
    obtain ⟨u, hu, hq⟩ := segs_dvs r e he
    have hA := and_seg l h2 hp h5 h4 u
    rw [← hu] at hA
    rcases hA with h | ⟨hk, hm, hn⟩ | ⟨x, hx, h⟩
    · rw [h]; exact fam_noth
    · refine ⟨hnf, ?_, ?_, ?_, stp_plain hnf (by omega) fun c => es_left c he⟩
      · unfold trm; rw [if_neg (by omega)]
        split
        · simp
        · intro t ht; simp only [List.mem_singleton] at ht; subst ht; exact es_segs he
      · intro a b hab; subst hab; simp [catT] at hk
      · have e4 : trm 4 e = e.kids := by simp [trm, hk]
        have hs := trm_srt (.inr rfl) hnf
        rw [e4] at hs ⊢
        rw [aT_sev 4 l (.inr rfl)]
        refine Nat.le_trans (nodup_le e.kids ((l.map fun x => trm 4 (dvs u x)).flatten) hs.nodup ?_) (flat_len l _ _ fun x hx => (ih x hx r _ (es_segs (hq x))).few)
        intro t ht
        obtain ⟨x, hx, ht⟩ := (hm t).1 ht
        exact List.mem_flatten.2 ⟨_, List.mem_map_of_mem hx, ht⟩
    · rw [h]; exact hlift x hx _ (ih x hx r _ (es_segs (hq x)))
  · obtain ⟨m, hm, he⟩ := List.mem_flatten.1 he
    obtain ⟨x, hx, rfl⟩ := List.mem_map.1 hm
    exact hlift x hx e (ih x hx r e he)

end Go.Proofs.YtbjohedenfindaaGreatDoor

namespace Go.Proofs.YtbjohedenfindaaGreatDoor
set_option linter.unusedVariables false

theorem mem_cat_l {r : List Int} {x y e : Tm} (h : e ∈ es r x) : catS e y ∈ es r (catT x y) := by
  rw [es_cat]; exact List.mem_append_right _ (List.mem_append_left _ (List.mem_map.2 ⟨e, h, rfl⟩))
theorem mem_cat_r {r : List Int} {x y e : Tm} (h : e ∈ es r y) : e ∈ es r (catT x y) := by
  rw [es_cat]; exact List.mem_append_right _ (List.mem_append_right _ h)
/-- what stands behind the head of a row that was put together -/
theorem rest_catS {e1 y a b : Tm} (h1 : Nf e1) (hy : Nf y) (he : isEm y = false) (h : catS e1 y = catT a b) : (e1 = emptT ∧ y = catT a b) ∨ (∃ a1 b1, e1 = catT a1 b1 ∧ a = a1 ∧ b = catS b1 y) ∨ (a = e1 ∧ b = y) := by
  have hcat : ∀ u v : Tm, catT u v = catT a b → u = a ∧ v = b := by
    intro u v h; simpa [catT] using h
  cases n1 : isNo e1
  · cases n2 : isNo y
    · by_cases hk : e1.kind = 2
      · revert h hk n1
        refine nf_cases (P := fun e1 => catS e1 y = catT a b → isNo e1 = false → e1.kind = 2 → (e1 = emptT ∧ y = catT a b) ∨ (∃ a1 b1, e1 = catT a1 b1 ∧ a = a1 ∧ b = catS b1 y) ∨ (a = e1 ∧ b = y)) e1 h1 ?_ ?_ ?_ ?_ ?_ ?_
        · intro s _ _ h; simp [setT] at h
        · intro h _ _; rw [catS_em_l hy] at h; exact .inl ⟨rfl, h⟩
        · intro x z _ _ _ _ _ _ h _ _
          rw [catS_cat n2 he] at h
          obtain ⟨e1, e2⟩ := hcat _ _ h
          exact .inr (.inl ⟨x, z, rfl, e1.symm, e2.symm⟩)
        · intro k l hk _ _ _ _ _ _ h; simp only [sevT] at h; omega
        · intro x _ _ _ h; simp [notT] at h
        · intro x _ _ _ _ _ _ _ _ _ h; simp [repT] at h
      · rw [catS_plain hk n1 n2 he] at h
        obtain ⟨e1, e2⟩ := hcat _ _ h
        exact .inr (.inr ⟨e1.symm, e2.symm⟩)
    · rw [catS_no_r n2] at h; simp [nothT, catT] at h
  · rw [catS_no_l n1] at h; simp [nothT, catT] at h

theorem cat_str (x y : Tm) (hx : Nf x) (hy : Nf y) (k1 : x.kind ≠ 2) (k2 : isNo x = false) (k3 : isNo y = false) (k4 : isEm y = false) (ihx : ∀ r, ∀ e ∈ es r x, Fam x r e) (ihy : ∀ r, ∀ e ∈ es r y, Fam y r e) : ∀ r e1, e1 ∈ es r x → ∀ t ∈ trm 3 (catS e1 y), (∃ e ∈ es r x, t = catS e y) ∨ t ∈ es r y := by
  intro r e1 he1 t ht
  rcases trm_cat (ihx r e1 he1).nf hy ht with ⟨_, h⟩ | ⟨h, _⟩ | ⟨_, _, _, _, h, _⟩
  · exact .inr ((ihy r y (es_self r y)).mem t h)
  · rw [k4] at h; simp at h
  · exact .inl ⟨e1, he1, h⟩
theorem cat_seg (x y : Tm) (hx : Nf x) (hy : Nf y) (k1 : x.kind ≠ 2) (k2 : isNo x = false) (k3 : isNo y = false) (k4 : isEm y = false) (ihx : ∀ r, ∀ e ∈ es r x, Fam x r e) (ihy : ∀ r, ∀ e ∈ es r y, Fam y r e) : ∀ r e, e ∈ segs r (catT x y) → ∀ t ∈ trm 3 e, (∃ e ∈ es r x, t = catS e y) ∨ t ∈ es r y := by
  have hp : Nf (catT x y) := nf_cat hx hy k1 k2 k3 k4
  have hstr := cat_str x y hx hy k1 k2 k3 k4 ihx ihy
  refine segs_ind ?_ ?_
  · intro r t ht
    have : trm 3 (catT x y) = [catT x y] := by simp [trm, catT, isNo]
    rw [this] at ht; simp only [List.mem_singleton] at ht; subst ht
    exact .inl ⟨x, es_self r x, (catS_plain k1 k2 k3 k4).symm⟩
  · intro r c e he h t ht
    obtain ⟨u, hu, hx'⟩ := (trm_dv c (segs_nf hp r e he) t).1 ht
    rcases h u hu with ⟨e1, he1, rfl⟩ | hu
    · rcases (ihx r e1 he1).stp c y hy t hx' with ⟨e', he', ht'⟩ | ht'
      · exact hstr (c :: r) e' he' t ht'
      · exact .inr ((ihy (c :: r) _ (es_left c (segs_self r y))).mem t ht')
    · have hF := ihy r u hu
      rcases hF.stp c emptT nf_empt t (by rw [catS_em_r hF.nf]; exact hx') with ⟨e', he', ht'⟩ | ht'
      · have hF' := ihy (c :: r) e' he'
        rw [catS_em_r hF'.nf] at ht'
        exact .inr (hF'.mem t ht')
      · rw [dv_empt, trm_noth 3 (.inl rfl)] at ht'; simp at ht'
theorem fam_cat (x y : Tm) (hx : Nf x) (hy : Nf y) (k1 : x.kind ≠ 2) (k2 : isNo x = false) (k3 : isNo y = false) (k4 : isEm y = false) (ihx : ∀ r, ∀ e ∈ es r x, Fam x r e) (ihy : ∀ r, ∀ e ∈ es r y, Fam y r e) (r : List Int) :
    ∀ e ∈ es r (catT x y), Fam (catT x y) r e := by
  have hp : Nf (catT x y) := nf_cat hx hy k1 k2 k3 k4
  have hstr := cat_str x y hx hy k1 k2 k3 k4 ihx ihy
  have hs := cat_seg x y hx hy k1 k2 k3 k4 ihx ihy
  have hmem : ∀ t, ((∃ e ∈ es r x, t = catS e y) ∨ t ∈ es r y) → t ∈ es r (catT x y) := by
    rintro t (⟨e, he, rfl⟩ | h)
    · exact mem_cat_l he
    · exact mem_cat_r h
  have hlift : ∀ e, Fam y r e → Fam (catT x y) r e := fun e h => h.lift (fun r z hz => mem_cat_r hz) (by rw [aT_cat]; omega)
  have hstF : ∀ e, ((∃ e1 ∈ es r x, e = catS e1 y) ∨ e ∈ es r y) → Fam (catT x y) r e := by
    rintro e (⟨e1, he1, rfl⟩ | h)
    · have hF := ihx r e1 he1
      refine ⟨nf_catS hF.nf hy, fun t ht => hmem t (hstr r e1 he1 t ht), ?_, ?_, ?_⟩
      · intro a b hab
        rcases rest_catS hF.nf hy k4 hab with ⟨_, h⟩ | ⟨a1, b1, h, _, h'⟩ | ⟨_, h⟩
        · exact mem_cat_r ((ihy r y (es_self r y)).rest a b h)
        · rw [h']; exact mem_cat_l (hF.rest a1 b1 h)
        · rw [h]; exact mem_cat_r (es_self r y)
      · by_cases h4 : (catS e1 y).kind = 4
        · have hn : isNo (catS e1 y) = false := by simp [isNo, h4]
          rcases trm_cat hF.nf hy (trm_self (by omega) hn) with ⟨h, _⟩ | ⟨h, _⟩ | ⟨_, _, _, _, _, h⟩
          · have := nf_em hF.nf h; subst this
            rw [catS_em_l hy]
            have := (ihy r y (es_self r y)).few
            rw [aT_cat]; omega
          · rw [k4] at h; simp at h
          · omega
        · exact Nat.le_trans (trm_len h4) (aT_pos _ hp)
      · intro c B hB t ht
        rw [catS_assoc e1 y B hF.nf hy hB] at ht
        rcases hF.stp c (catS y B) (nf_catS hy hB) t ht with ⟨e', he', ht'⟩ | ht'
        · refine .inl ⟨catS e' y, mem_cat_l he', ?_⟩
          rw [catS_assoc e' y B (ihx (c :: r) e' he').nf hy hB]; exact ht'
        · rcases (ihy r y (es_self r y)).stp c B hB t ht' with ⟨e', he', ht'⟩ | ht'
          · exact .inl ⟨e', mem_cat_r he', ht'⟩
          · exact .inr ht'
    · exact hlift e (ihy r e h)
  intro e he
  rw [es_cat] at he
  rcases List.mem_append.1 he with he | he
  · have hnf := segs_nf hp r e he
    by_cases h3 : e.kind = 3
    · exact ⟨hnf, fun t ht => hmem t (hs r e he t ht), fun a b hab => by subst hab; simp [catT] at h3, Nat.le_trans (trm_len (by omega)) (aT_pos _ hp), stp_plain hnf (by omega) fun c => es_left c he⟩
    · cases hn : isNo e
      · exact hstF e (hs r e he e (trm_self h3 hn))
      · rw [nf_no hnf hn]; exact fam_noth
  · refine hstF e ?_
    rcases List.mem_append.1 he with h | h
    · obtain ⟨e1, he1, rfl⟩ := List.mem_map.1 h
      exact .inl ⟨e1, he1, rfl⟩
    · exact .inr h

/-! ## Repetitions -/
theorem ctr_head (n : Nat) (lo hi : Int) : (lo, hi) ∈ ctr n lo hi := by cases n <;> simp [ctr]
theorem ctr_dec : ∀ (n : Nat) (lo hi : Int), lo ≤ n → hi ≤ n → ∀ q ∈ ctr n lo hi, (decI q.1, decI q.2) ∈ ctr n lo hi
  | 0, lo, hi, h1, h2, q, hq => by
    simp only [ctr, List.mem_singleton] at hq ⊢; subst hq
    simp only [decI]; rw [if_neg (by omega), if_neg (by omega)]
  | n + 1, lo, hi, h1, h2, q, hq => by
    simp only [ctr, List.mem_cons] at hq ⊢
    rcases hq with rfl | hq
    · exact .inr (ctr_head n _ _)
    · refine .inr (ctr_dec n _ _ ?_ ?_ q hq)
      · unfold decI; split <;> omega
      · unfold decI; split <;> omega
theorem ctr_ok : ∀ (n : Nat) (lo hi : Int), 0 ≤ lo → (hi = -1 ∨ lo ≤ hi) → ∀ q ∈ ctr n lo hi, 0 ≤ q.1 ∧ (q.2 = -1 ∨ q.1 ≤ q.2)
  | 0, lo, hi, h0, h1, q, hq => by simp only [ctr, List.mem_singleton] at hq; subst hq; exact ⟨h0, h1⟩
  | n + 1, lo, hi, h0, h1, q, hq => by
    simp only [ctr, List.mem_cons] at hq
    rcases hq with rfl | hq
    · exact ⟨h0, h1⟩
    · refine ctr_ok n _ _ ?_ ?_ q hq
      · unfold decI; split <;> omega
      · unfold decI; split <;> split <;> omega
theorem ctr_len : ∀ (n : Nat) (lo hi : Int), (ctr n lo hi).length = n + 1
  | 0, lo, hi => rfl
  | n + 1, lo, hi => by simp [ctr, ctr_len n]
theorem mem_repE {lo hi : Int} {x t : Tm} {ex : List Tm} : t ∈ repE lo hi x ex ↔ ∃ q ∈ ctr (max lo hi).toNat lo hi, t = repS x q.1 q.2 ∨ ∃ e ∈ ex, t = catS e (repS x q.1 q.2) := by
  simp only [repE, List.mem_flatMap, List.mem_cons, List.mem_map]
  constructor
  · rintro ⟨q, hq, h | ⟨e, he, h⟩⟩
    · exact ⟨q, hq, .inl h⟩
    · exact ⟨q, hq, .inr ⟨e, he, h.symm⟩⟩
  · rintro ⟨q, hq, h | ⟨e, he, h⟩⟩
    · exact ⟨q, hq, .inl h⟩
    · exact ⟨q, hq, .inr ⟨e, he, h.symm⟩⟩

theorem rep_seg (x : Tm) (lo hi : Int) (hx : Nf x) (h0 : 0 ≤ lo) (h1 : hi = -1 ∨ (lo ≤ hi ∧ 1 ≤ hi)) (k2 : isNo x = false) (k3 : isEm x = false) (ihx : ∀ r, ∀ e ∈ es r x, Fam x r e) : ∀ r e, e ∈ segs r (repT x lo hi) → ∀ t ∈ trm 3 e, (∃ q ∈ ctr (max lo hi).toNat lo hi, t = repS x q.1 q.2 ∨ ∃ e ∈ es r x, t = catS e (repS x q.1 q.2)) := by
  have hp : Nf (repT x lo hi) := nf_rep hx h0 h1 k2 k3
  generalize hQ : ctr (max lo hi).toNat lo hi = Q
  have hQd : ∀ q ∈ Q, (decI q.1, decI q.2) ∈ Q := by rw [← hQ]; exact ctr_dec _ lo hi (by omega) (by omega)
  have hQ0 : (lo, hi) ∈ Q := by rw [← hQ]; exact ctr_head _ _ _
  have hR : ∀ q ∈ Q, Nf (repS x q.1 q.2) ∧ (repS x q.1 q.2 = emptT ∨ repS x q.1 q.2 = repT x q.1 q.2) := by
    intro q hq
    rw [← hQ] at hq
    have := ctr_ok _ lo hi h0 (by omega) q hq
    refine ⟨nf_repS hx this.1 this.2, ?_⟩
    unfold repS; rw [k2, k3]; split <;> simp
  have hS : ∀ (r : List Int) (t : Tm), (∃ q ∈ Q, t = repS x q.1 q.2 ∨ ∃ e ∈ es r x, t = catS e (repS x q.1 q.2)) → t ∈ es r (repT x lo hi) := by
    intro r t ht
    rw [es_rep]
    exact List.mem_append_right _ (mem_repE.2 (by rw [hQ]; exact ht))
  have htR : ∀ q ∈ Q, trm 3 (repS x q.1 q.2) = [repS x q.1 q.2] := by
    intro q hq
    rcases (hR q hq).2 with h | h <;> rw [h] <;> simp [trm, emptT, repT, isNo]
  have hstr : ∀ r e1, e1 ∈ es r x → ∀ q ∈ Q, ∀ t ∈ trm 3 (catS e1 (repS x q.1 q.2)), (∃ q ∈ Q, t = repS x q.1 q.2 ∨ ∃ e ∈ es r x, t = catS e (repS x q.1 q.2)) := by
    intro r e1 he1 q hq t ht
    have hF := ihx r e1 he1
    rcases trm_cat hF.nf (hR q hq).1 ht with ⟨_, h⟩ | ⟨h, h'⟩ | ⟨_, _, _, _, h, _⟩
    · rw [htR q hq] at h; simp only [List.mem_singleton] at h
      exact ⟨q, hq, .inl h⟩
    · have e := nf_em (hR q hq).1 h
      refine ⟨q, hq, .inr ⟨t, hF.mem t h', ?_⟩⟩
      rw [e, catS_em_r (trm_nf (.inl rfl) hF.nf h').1]
    · exact ⟨q, hq, .inr ⟨e1, he1, h⟩⟩
  have hdR : ∀ (r : List Int) c, ∀ q ∈ Q, ∀ t ∈ trm 3 (dv c (repS x q.1 q.2)), (∃ q ∈ Q, t = repS x q.1 q.2 ∨ ∃ e ∈ es (c :: r) x, t = catS e (repS x q.1 q.2)) := by
    intro r c q hq t ht
    rcases (hR q hq).2 with h | h
    · rw [h, dv_empt, trm_noth 3 (.inl rfl)] at ht; simp at ht
    · rw [h, dv_rep] at ht
      exact hstr (c :: r) _ (es_left c (segs_self r x)) _ (hQd q hq) t ht
  refine segs_ind ?_ ?_
  · intro r t ht
    have : trm 3 (repT x lo hi) = [repT x lo hi] := by simp [trm, repT, isNo]
    rw [this] at ht; simp only [List.mem_singleton] at ht; subst ht
    refine ⟨_, hQ0, .inl ?_⟩
    simp only [repS]; rw [if_neg (by omega), k2, k3]; simp
  · intro r c e he h t ht
    obtain ⟨u, hu, hx'⟩ := (trm_dv c (segs_nf hp r e he) t).1 ht
    rcases h u hu with ⟨q, hq, rfl | ⟨e1, he1, rfl⟩⟩
    · exact hdR r c q hq t hx'
    · rcases (ihx r e1 he1).stp c _ (hR q hq).1 t hx' with ⟨e', he', ht'⟩ | ht'
      · exact hstr (c :: r) e' he' q hq t ht'
      · exact hdR r c q hq t ht'
theorem fam_rep (x : Tm) (lo hi : Int) (hx : Nf x) (h0 : 0 ≤ lo) (h1 : hi = -1 ∨ (lo ≤ hi ∧ 1 ≤ hi)) (k2 : isNo x = false) (k3 : isEm x = false) (ihx : ∀ r, ∀ e ∈ es r x, Fam x r e) (r : List Int) :
    ∀ e ∈ es r (repT x lo hi), Fam (repT x lo hi) r e := by
  have hp : Nf (repT x lo hi) := nf_rep hx h0 h1 k2 k3
  generalize hQ : ctr (max lo hi).toNat lo hi = Q
  have hQd : ∀ q ∈ Q, (decI q.1, decI q.2) ∈ Q := by rw [← hQ]; exact ctr_dec _ lo hi (by omega) (by omega)
  have hQ0 : (lo, hi) ∈ Q := by rw [← hQ]; exact ctr_head _ _ _
  have hR : ∀ q ∈ Q, Nf (repS x q.1 q.2) ∧ (repS x q.1 q.2 = emptT ∨ repS x q.1 q.2 = repT x q.1 q.2) := by
    intro q hq
    rw [← hQ] at hq
    have := ctr_ok _ lo hi h0 (by omega) q hq
    refine ⟨nf_repS hx this.1 this.2, ?_⟩
    unfold repS; rw [k2, k3]; split <;> simp
  have hS : ∀ (r : List Int) (t : Tm), (∃ q ∈ Q, t = repS x q.1 q.2 ∨ ∃ e ∈ es r x, t = catS e (repS x q.1 q.2)) → t ∈ es r (repT x lo hi) := by
    intro r t ht
    rw [es_rep]
    exact List.mem_append_right _ (mem_repE.2 (by rw [hQ]; exact ht))
  have htR : ∀ q ∈ Q, trm 3 (repS x q.1 q.2) = [repS x q.1 q.2] := by
    intro q hq
    rcases (hR q hq).2 with h | h <;> rw [h] <;> simp [trm, emptT, repT, isNo]
  have hstr : ∀ r e1, e1 ∈ es r x → ∀ q ∈ Q, ∀ t ∈ trm 3 (catS e1 (repS x q.1 q.2)), (∃ q ∈ Q, t = repS x q.1 q.2 ∨ ∃ e ∈ es r x, t = catS e (repS x q.1 q.2)) := by
    intro r e1 he1 q hq t ht
    have hF := ihx r e1 he1
    rcases trm_cat hF.nf (hR q hq).1 ht with ⟨_, h⟩ | ⟨h, h'⟩ | ⟨_, _, _, _, h, _⟩
    · rw [htR q hq] at h; simp only [List.mem_singleton] at h
      exact ⟨q, hq, .inl h⟩
    · have e := nf_em (hR q hq).1 h
      refine ⟨q, hq, .inr ⟨t, hF.mem t h', ?_⟩⟩
      rw [e, catS_em_r (trm_nf (.inl rfl) hF.nf h').1]
    · exact ⟨q, hq, .inr ⟨e1, he1, h⟩⟩
  have hdR : ∀ (r : List Int) c, ∀ q ∈ Q, ∀ t ∈ trm 3 (dv c (repS x q.1 q.2)), (∃ q ∈ Q, t = repS x q.1 q.2 ∨ ∃ e ∈ es (c :: r) x, t = catS e (repS x q.1 q.2)) := by
    intro r c q hq t ht
    rcases (hR q hq).2 with h | h
    · rw [h, dv_empt, trm_noth 3 (.inl rfl)] at ht; simp at ht
    · rw [h, dv_rep] at ht
      exact hstr (c :: r) _ (es_left c (segs_self r x)) _ (hQd q hq) t ht
  have hs := rep_seg x lo hi hx h0 h1 k2 k3 ihx
  rw [hQ] at hs
  have ha : aT (repT x lo hi) = aT x := aT_rep x lo hi
  have hap := aT_pos x hx
  have hstF : ∀ e, (∃ q ∈ Q, e = repS x q.1 q.2 ∨ ∃ e1 ∈ es r x, e = catS e1 (repS x q.1 q.2)) → Fam (repT x lo hi) r e := by
    have hRep : ∀ q ∈ Q, Fam (repT x lo hi) r (repS x q.1 q.2) := by
      intro q hq
      have hm := hS r _ ⟨q, hq, .inl rfl⟩
      have hn := (hR q hq).1
      rcases (hR q hq).2 with h | h
      · rw [h] at hm ⊢; exact fam_empt hm (by omega)
      · have hd : ∀ c, dv c (repS x q.1 q.2) ∈ es (c :: r) (repT x lo hi) := by
          intro c
          rw [h, dv_rep]
          exact hS (c :: r) _ ⟨_, hQd q hq, .inr ⟨_, es_left c (segs_self r x), rfl⟩⟩
        rw [h] at hm hn hd ⊢
        exact fam_plain hn (by simp [repT]) (by simp [repT]) (by simp [repT]) hm (by omega) hd
    rintro e ⟨q, hq, rfl | ⟨e1, he1, rfl⟩⟩
    · exact hRep q hq
    · have hF := ihx r e1 he1
      have hnR := (hR q hq).1
      refine ⟨nf_catS hF.nf hnR, fun t ht => hS r t (hstr r e1 he1 q hq t ht), ?_, ?_, ?_⟩
      · intro a b hab
        cases hE : isEm (repS x q.1 q.2)
        · rcases rest_catS hF.nf hnR hE hab with ⟨_, h⟩ | ⟨a1, b1, h, _, h'⟩ | ⟨_, h⟩
          · rcases (hR q hq).2 with h' | h' <;> rw [h'] at h <;> simp [emptT, repT, catT] at h
          · rw [h']; exact hS r _ ⟨q, hq, .inr ⟨b1, hF.rest a1 b1 h, rfl⟩⟩
          · rw [h]; exact hS r _ ⟨q, hq, .inl rfl⟩
        · have e := nf_em hnR hE
          rw [e, catS_em_r hF.nf] at hab
          have hb := hF.rest a b hab
          refine hS r _ ⟨q, hq, .inr ⟨b, hb, ?_⟩⟩
          rw [e, catS_em_r (ihx r b hb).nf]
      · by_cases h4 : (catS e1 (repS x q.1 q.2)).kind = 4
        · have hn : isNo (catS e1 (repS x q.1 q.2)) = false := by simp [isNo, h4]
          rcases trm_cat hF.nf hnR (trm_self (by omega) hn) with ⟨h, _⟩ | ⟨h, _⟩ | ⟨_, _, _, _, _, h⟩
          · have := nf_em hF.nf h; subst this
            rw [catS_em_l hnR] at h4
            rcases (hR q hq).2 with h' | h' <;> rw [h'] at h4 <;> simp [emptT, repT] at h4
          · have e := nf_em hnR h
            rw [e, catS_em_r hF.nf, ha]; exact hF.few
          · omega
        · exact Nat.le_trans (trm_len h4) (by omega)
      · intro c B hB t ht
        rw [catS_assoc e1 _ B hF.nf hnR hB] at ht
        rcases hF.stp c (catS (repS x q.1 q.2) B) (nf_catS hnR hB) t ht with ⟨e', he', ht'⟩ | ht'
        · refine .inl ⟨catS e' (repS x q.1 q.2), hS _ _ ⟨q, hq, .inr ⟨e', he', rfl⟩⟩, ?_⟩
          rw [catS_assoc e' _ B (ihx (c :: r) e' he').nf hnR hB]; exact ht'
        · exact (hRep q hq).stp c B hB t ht'
  intro e he
  rw [es_rep] at he
  rcases List.mem_append.1 he with he | he
  · have hnf := segs_nf hp r e he
    by_cases h3 : e.kind = 3
    · exact ⟨hnf, fun t ht => hS r t (hs r e he t ht), fun a b hab => by subst hab; simp [catT] at h3, Nat.le_trans (trm_len (by omega)) (by omega), stp_plain hnf (by omega) fun c => es_left c he⟩
    · cases hn : isNo e
      · exact hstF e (hs r e he e (trm_self h3 hn))
      · rw [nf_no hnf hn]; exact fam_noth
  · have := mem_repE.1 he
    rw [hQ] at this
    exact hstF e this

theorem fam_all : ∀ (p : Tm), Nf p → ∀ r, ∀ e ∈ es r p, Fam p r e := by
  refine Tm.ind ?_
  intro p ih h
  revert ih
  refine nf_cases (P := fun p => (∀ k ∈ p.kids, Nf k → ∀ r, ∀ e ∈ es r k, Fam k r e) → ∀ r, ∀ e ∈ es r p, Fam p r e) p h ?_ ?_ ?_ ?_ ?_ ?_
  · intro s _ r; exact fam_set s r
  · intro _ r; exact fam_emptT r
  · intro x y hx hy k1 k2 k3 k4 ih r
    exact fam_cat x y hx hy k1 k2 k3 k4 (ih x (by simp [catT]) hx) (ih y (by simp [catT]) hy) r
  · intro k l hk h2 h3 h4 h5 ih r
    have ih' : ∀ x ∈ l, ∀ r, ∀ e ∈ es r x, Fam x r e := fun x hx => ih x (by simpa [sevT] using hx) (h5 x hx)
    rcases hk with rfl | rfl
    · exact fam_or l (nf_sev (.inl rfl) h2 h3 h4 h5) h5 h4 ih' r
    · exact fam_and l h2 (nf_sev (.inr rfl) h2 h3 h4 h5) h5 h4 ih' r
  · intro x hx _ r; exact fam_not x hx r
  · intro x lo hi hx h0 h1 k2 k3 ih r; exact fam_rep x lo hi hx h0 h1 k2 k3 (ih x (by simp [repT]) hx) r

end Go.Proofs.YtbjohedenfindaaGreatDoor
