/- Texts of the proof, put together: MMeet, DvJ, RTC, DvK. -/
import Derived.Test.YtbjohedenfindaaGreatDoorPb27
import Derived.Test.YtbjohedenfindaaGreatDoorPb26
namespace Go.Proofs.YtbjohedenfindaaGreatDoor
open Go.RowKit
set_option linter.unusedVariables false
set_option maxRecDepth 100000

theorem ownsRow_none {w : World} {B : Nat} {g c : Nat} {xs : List Value} {n : Nat} (h : w.ownsRow B 119 1 (.slice (some ⟨g, 0, none⟩) n c) n xs) : w.ownsRow B 119 1 (.slice (some ⟨g, 0, none⟩) 0 c) 0 [] := by
  rcases h.2 with ⟨h', _⟩ | ⟨g', cap, cur, h', hB, hg, hc, hm, hs, ht⟩
  · cases h'
  · cases h'
    exact ⟨rfl, .inr ⟨g, c, cur, rfl, hB, hg, Nat.zero_le _, hm, hs, by simp⟩⟩

set_option maxHeartbeats 2000000 in
theorem lmeet_none {w : World} {B : Nat} {u : Value} {N2 : Nat} (ok : Nat → Prop) (hu : LenV ok w u N2) : Calls Tryz.prog 96 #[.slice none 0 0, u] w fun e w' => Lens w B none 0 e w' := by
  have HO : Hid (OwnL w B (.slice none 0 0) 0) := ⟨[], .inl ⟨rfl, rfl⟩, World.ownsRow_nil _ _ _ _⟩
  have HG : Hid (w.grownBy w none) := World.grownBy.refl _ _
  obtain ⟨a, k, c, rfl, hk⟩ : ∃ a k c, u = .slice a k c ∧ k ≤ 1 := by
    rcases hu with ⟨_, a, c, rfl⟩ | ⟨g, off, c, rfl, _⟩
    · exact ⟨_, _, _, rfl, by omega⟩
    · exact ⟨_, _, _, rfl, by omega⟩
  clear hu
  have hmin : min (0 : Int) (k : Int) = 0 := by omega
  go_enter Tryz.func96, Tryz.ntmps96
  go_wp2
  go_loopw [15] (fun iv wr => iv = .int .i64 0 ∧ wr = w) (fun _ _ => 0)
  case atStart => exact ⟨rfl, rfl⟩
  case round =>
    obtain ⟨rfl, rfl⟩ := hrel
    go_wp2
    go_ret
    exact ⟨_, rfl, HO.out, HG.out, fun k hk => by cases hk⟩
set_option maxHeartbeats 2000000 in
theorem lmeet_zero {w : World} {B g c k k2 c2 : Nat} {a2 : Option Addr} (hk : k ≤ 1) (hk2 : k2 ≤ 1) (hz : min k k2 = 0) (hown : w.ownsRow B 119 1 (.slice (some ⟨g, 0, none⟩) 0 c) 0 []) : Calls Tryz.prog 96 #[.slice (some ⟨g, 0, none⟩) k c, .slice a2 k2 c2] w fun e w' => Lens w B (some g) 0 e w' := by
  have HO : Hid (OwnL w B (.slice (some ⟨g, 0, none⟩) 0 c) 0) := ⟨[], .inl ⟨rfl, rfl⟩, hown⟩
  have HG : Hid (w.grownBy w (some g)) := World.grownBy.refl _ _
  clear hown
  have hcs : (k = 0 ∧ k2 = 0) ∨ (k = 0 ∧ k2 = 1) ∨ (k = 1 ∧ k2 = 0) := by omega
  clear hk hk2 hz
  rcases hcs with ⟨rfl, rfl⟩ | ⟨rfl, rfl⟩ | ⟨rfl, rfl⟩
  all_goals
    go_enter Tryz.func96, Tryz.ntmps96
    go_wp2
    go_loopw [15] (fun iv wr => iv = .int .i64 0 ∧ wr = w) (fun _ _ => 0)
    case atStart => exact ⟨rfl, rfl⟩
    case round =>
      obtain ⟨rfl, rfl⟩ := hrel
      go_wp2
      go_ret
      exact ⟨_, rfl, HO.out, HG.out, fun k hk => .inl hk⟩
set_option maxHeartbeats 4000000 in
theorem lmeet_one {w : World} {B g c g2 off c2 : Nat} {N N2 : Nat} (hN : N < 2 ^ 64) (hN2 : N2 < 2 ^ 64) (hcap : 1 ≤ c) (hc2 : w.cell? ⟨g2, off, none⟩ = some (.int .u64 (N2 : Int))) (hown : w.ownsRow B 119 1 (.slice (some ⟨g, 0, none⟩) 1 c) 1 [.int .u64 (N : Int)]) :
    Calls Tryz.prog 96 #[.slice (some ⟨g, 0, none⟩) 1 c, .slice (some ⟨g2, off, none⟩) 1 c2] w fun e w' => Lens w B (some g) (N &&& N2) e w' := by
  have hand := andU64 N N2 hN hN2
  have hc0 : w.cell? ⟨g, 0, none⟩ = some (.int .u64 (N : Int)) := by
    have := hown.cellAt 0 (by simp); rw [this]; rfl
  have hf0 : w.frozen? ⟨g, 0, none⟩ = false := hown.frozenAt 0
  have HSt : Hid (∀ j, (((w.drewN j).setCell ⟨g, 0, none⟩ (.int .u64 ((N &&& N2 : Nat) : Int))).ownsRow B 119 1 (.slice (some ⟨g, 0, none⟩) 1 c) 1 [.int .u64 ((N &&& N2 : Nat) : Int)] ∧ w.grownBy ((w.drewN j).setCell ⟨g, 0, none⟩ (.int .u64 ((N &&& N2 : Nat) : Int))) (some g))) := fun j => by
    have hO : (w.drewN j).ownsRow B 119 1 (.slice (some ⟨g, 0, none⟩) 1 c) 1 [.int .u64 (N : Int)] := hown
    have h := hO.stored 0 (.int .u64 ((N &&& N2 : Nat) : Int))
    exact ⟨by simpa using h.1, ⟨h.2.os, h.2.tape, h.2.output, h.2.size, h.2.block⟩⟩
  clear hown
  generalize hR : N &&& N2 = R at *
  go_enter Tryz.func96, Tryz.ntmps96
  go_wp2
  go_loopw [15] (fun iv wr => (iv = .int .i64 0 ∧ wr = w) ∨ (iv = .int .i64 1 ∧ OwnL wr B (.slice (some ⟨g, 0, none⟩) 1 c) R ∧ w.grownBy wr (some g))) (fun iv _ => (1 - intOf iv).toNat)
  case atStart => exact .inl ⟨rfl, rfl⟩
  case round =>
    rcases hrel with ⟨rfl, rfl⟩ | ⟨rfl, hO, hg⟩
    · go_wp2
      go_region_with (fail)
      all_goals
        have hS := HSt.out 1
        have HO1 : Hid (OwnL (wr.drew.setCell ⟨g, 0, none⟩ (.int .u64 (R : Int))) B (.slice (some ⟨g, 0, none⟩) 1 c) R) := ⟨[R], .inr rfl, hS.1⟩
        have HG1 : Hid (wr.grownBy (wr.drew.setCell ⟨g, 0, none⟩ (.int .u64 (R : Int))) (some g)) := hS.2
        clear hS HSt
        go_wp2
        go_roundw
        case rel => exact .inr ⟨rfl, HO1.out, HG1.out⟩
        case measure => simp [intOf]
    · have HO : Hid (OwnL wr B (.slice (some ⟨g, 0, none⟩) 1 c) R) := hO
      clear hO
      go_wp2
      go_ret
      exact ⟨_, rfl, HO.out, hg, fun k hk => .inl hk⟩
theorem lmeet_any {ok : Nat → Prop} {w : World} {B : Nat} {v u : Value} {N N2 : Nat} (hN : N < 2 ^ 64) (hN2 : N2 < 2 ^ 64) (h : OwnL w B v N) (hu : LenV ok w u N2) :
    Calls Tryz.prog 96 #[v, u] w fun e w' => Lens w B v.ownBlock (N &&& N2) e w' := by
  obtain ⟨xs, hx, hown⟩ := h
  rcases hown.2 with ⟨rfl, h0⟩ | ⟨g, cap, cur, rfl, _, _, hc, _⟩
  · have : N = 0 := by
      rcases hx with ⟨_, h⟩ | rfl
      · exact h
      · simp at h0
    subst this
    rw [Nat.zero_and]
    exact lmeet_none ok hu
  · rcases hx with ⟨rfl, rfl⟩ | rfl
    · rw [Nat.zero_and]
      rcases hu with ⟨_, a, c, rfl⟩ | ⟨g2, off, c, rfl, _⟩
      · exact lmeet_zero (k := 0) (by omega) (by omega) (by omega) hown
      · exact lmeet_zero (k := 0) (by omega) (by omega) (by omega) hown
    · rcases hu with ⟨rfl, a, c, rfl⟩ | ⟨g2, off, c, rfl, _, _, hc2⟩
      · rw [Nat.and_zero]
        exact lmeet_zero (k := 1) (by omega) (by omega) (by omega) (ownsRow_none hown)
      · exact lmeet_one hN hN2 hc hc2 hown
end Go.Proofs.YtbjohedenfindaaGreatDoor

namespace Go.Proofs.YtbjohedenfindaaGreatDoor
set_option linter.unusedVariables false

def NumOk (t : Tm) : Prop := (1 ≤ t.kind ∧ t.kind ≤ 6) ∧ (-1 ≤ t.mn ∧ t.mn ≤ 50) ∧ (-1 ≤ t.mx ∧ t.mx ≤ 50) ∧ t.set.length ≤ 1000000 ∧ (∀ r ∈ t.set, (0 ≤ r.1 ∧ r.1 ≤ 1114111) ∧ 0 ≤ r.2 ∧ r.2 ≤ 1114111) ∧ t.kids.length ≤ 17592186000000
def Sml (t : Tm) : Prop := match t with
  | ⟨k, s, a, b, ks⟩ => NumOk ⟨k, s, a, b, ks⟩ ∧ ∀ x, (h : x ∈ ks) → Sml x
theorem sml_iff {t : Tm} : Sml t ↔ NumOk t ∧ ∀ x ∈ t.kids, Sml x := by
  obtain ⟨k, s, a, b, ks⟩ := t; rw [Sml]
theorem Sml.num {t : Tm} (h : Sml t) : NumOk t := (sml_iff.1 h).1
theorem Sml.kid {t x : Tm} (h : Sml t) (hx : x ∈ t.kids) : Sml x := (sml_iff.1 h).2 x hx
theorem sml_noth : Sml nothT := sml_iff.2 ⟨by simp [NumOk, nothT], by simp [nothT]⟩
theorem sml_empt : Sml emptT := sml_iff.2 ⟨by simp [NumOk, emptT], by simp [emptT]⟩
theorem sml_cat {x y : Tm} (hx : Sml x) (hy : Sml y) : Sml (catT x y) := sml_iff.2 ⟨by simp [NumOk, catT], by simp [catT, hx, hy]⟩
theorem sml_not {x : Tm} (hx : Sml x) : Sml (notT x) := sml_iff.2 ⟨by simp [NumOk, notT], by simp [notT, hx]⟩
theorem sml_rep {x : Tm} {lo hi : Int} (hx : Sml x) (h0 : -1 ≤ lo ∧ lo ≤ 50) (h1 : -1 ≤ hi ∧ hi ≤ 50) : Sml (repT x lo hi) := sml_iff.2 ⟨by simp [NumOk, repT, h0, h1], by simp [repT, hx]⟩
theorem sml_sev {k : Int} {l : List Tm} (hk : k = 3 ∨ k = 4) (hl : l.length ≤ 17592186000000) (h : ∀ x ∈ l, Sml x) : Sml (sevT k l) := sml_iff.2 ⟨by simp only [NumOk, sevT]; refine ⟨by omega, by omega, by omega, by simp, by simp, hl⟩, by simpa [sevT] using h⟩
theorem sml_catS : ∀ (a b : Tm), Nf a → Nf b → Sml a → Sml b → Sml (catS a b) := by
  refine Tm.ind ?_
  intro a ih b ha hb sa sb
  cases h1 : isNo a
  · cases h2 : isNo b
    · cases h3 : isEm b
      · by_cases hk : a.kind = 2
        · revert ih hk sa
          refine nf_cases (P := fun a => (∀ k ∈ a.kids, ∀ (b : Tm), Nf k → Nf b → Sml k → Sml b → Sml (catS k b)) → Sml a → a.kind = 2 → Sml (catS a b)) a ha ?_ ?_ ?_ ?_ ?_ ?_
          · intro s _ _ h; simp [setT] at h
          · intro _ _ _; rw [catS_em_l hb]; exact sb
          · intro x y _ hy _ _ _ _ ih sa _
            rw [catS_cat h2 h3]
            exact sml_cat (sa.kid (by simp [catT])) (ih y (by simp [catT]) b hy hb (sa.kid (by simp [catT])) sb)
          · intro k l hk _ _ _ _ _ _ h; simp only [sevT] at h; omega
          · intro x _ _ _ h; simp [notT] at h
          · intro x _ _ _ _ _ _ _ _ _ h; simp [repT] at h
        · rw [catS_plain hk h1 h2 h3]; exact sml_cat sa sb
      · have := nf_em hb h3; subst this; rw [catS_em_r ha]; exact sa
    · rw [catS_no_r h2]; exact sml_noth
  · rw [catS_no_l h1]; exact sml_noth
theorem sml_repS {x : Tm} {lo hi : Int} (hx : Sml x) (h0 : -1 ≤ lo ∧ lo ≤ 50) (h1 : -1 ≤ hi ∧ hi ≤ 50) : Sml (repS x lo hi) := by
  unfold repS; split
  · exact sml_empt
  · split
    · exact sml_noth
    · split
      · exact sml_empt
      · exact sml_rep hx h0 h1
theorem sml_trm {k : Int} {t x : Tm} (h : Sml t) (hx : x ∈ trm k t) : Sml x := by
  unfold trm at hx; split at hx
  · exact h.kid hx
  · split at hx
    · simp at hx
    · simp only [List.mem_singleton] at hx; subst hx; exact h
theorem sml_join {k : Int} (hk : k = 3 ∨ k = 4) {l : List Tm} (h : ∀ t ∈ l, Sml t) (hl : ¬ (k = 4 ∧ l.any isNo = true) → (gatA k [] l).length ≤ 17592186000000) : Sml (joinS k l) := by
  unfold joinS; split
  · exact sml_noth
  · rename_i hh
    have hm : ∀ x ∈ gatA k [] l, Sml x := by
      intro x hx
      obtain hx | ⟨t, ht, hx⟩ := (mem_gatA k l [] x).1 hx
      · simp at hx
      · exact sml_trm (h t ht) hx
    have hl' := hl hh
    generalize gatA k [] l = L at *
    match L, hm, hl' with
    | [], _, _ => exact sml_noth
    | [x], hm, _ => exact hm x (by simp)
    | x :: y :: L, hm, hl' => exact sml_sev hk hl' hm
theorem sml_dv {N N1 : Nat} (hN : N ≤ 17592186000000) (hN1 : N1 ≤ 17592186000000) (c : Int) : ∀ (t : Tm), Nf t → Sml t → Fine N N1 c t → Sml (dv c t) := by
  refine Tm.ind ?_
  intro t ih h hs hf
  have hnode := (fine_iff.1 hf).1
  have hkid := (fine_iff.1 hf).2
  clear hf
  revert ih hs hnode hkid
  refine nf_cases (P := fun t => (∀ k ∈ t.kids, Nf k → Sml k → Fine N N1 c k → Sml (dv c k)) → Sml t → NodeF N N1 c t → (∀ x ∈ t.kids, Fine N N1 c x) → Sml (dv c t)) t h ?_ ?_ ?_ ?_ ?_ ?_
  · intro s _ _ _ _; rw [dv_set]; split; exact sml_empt; exact sml_noth
  · intro _ _ _ _; rw [dv_empt]; exact sml_noth
  · intro x y hx hy _ _ _ _ ih hs hn hk
    have sx := ih x (by simp [catT]) hx (hs.kid (by simp [catT])) (hk x (by simp [catT]))
    have sy := ih y (by simp [catT]) hy (hs.kid (by simp [catT])) (hk y (by simp [catT]))
    have sc := sml_catS _ _ (nf_dv c x hx) hy sx (hs.kid (by simp [catT]))
    have h3 := hn.2.2.1
    rw [dv_cat] at h3 ⊢; split
    · rename_i hnul
      rw [if_pos hnul] at h3
      have hnf : ∀ t ∈ [catS (dv c x) y, dv c y], Nf t := by
        intro t ht
        simp only [List.mem_cons, List.not_mem_nil, or_false] at ht
        rcases ht with rfl | rfl
        · exact nf_catS (nf_dv c x hx) hy
        · exact nf_dv c y hy
      rw [trm_join3 hnf] at h3
      refine sml_join (.inl rfl) ?_ fun _ => by omega
      intro t ht
      simp only [List.mem_cons, List.not_mem_nil, or_false] at ht
      rcases ht with rfl | rfl
      · exact sc
      · exact sy
    · exact sc
  · intro k l hk _ _ _ h5 ih hs hn hkid
    have hnf : ∀ t ∈ l.map (dv c), Nf t := by
      intro t ht; obtain ⟨u, hu, rfl⟩ := List.mem_map.1 ht; exact nf_dv c u (h5 u hu)
    have hsm : ∀ t ∈ l.map (dv c), Sml t := by
      intro t ht; obtain ⟨u, hu, rfl⟩ := List.mem_map.1 ht
      exact ih u (by simpa [sevT] using hu) (h5 u hu) (hs.kid (by simpa [sevT] using hu)) (hkid u (by simpa [sevT] using hu))
    have h3 := hn.2.2
    rw [dv_sev c k l hk] at h3 ⊢
    refine sml_join hk hsm fun hany => ?_
    rcases hk with rfl | rfl
    · have := h3.1; rw [trm_join3 hnf] at this; omega
    · have := h3.2
      rw [joinS, if_neg hany, (nf_oneS (.inr rfl) (srt_gatA 4 _ [] srt_nil) (gatA_nf (.inr rfl) hnf)).2] at this
      omega
  · intro x hx ih hs _ hk; rw [dv_not]; exact sml_not (ih x (by simp [notT]) hx (hs.kid (by simp [notT])) (hk x (by simp [notT])))
  · intro x lo hi hx h0 h1 _ _ ih hs hn hk
    have sx := ih x (by simp [repT]) hx (hs.kid (by simp [repT])) (hk x (by simp [repT]))
    have hnum := hs.num
    simp only [NumOk, repT] at hnum
    have d0 : 0 ≤ decI lo := by unfold decI; split <;> omega
    have d1 : decI hi = -1 ∨ decI lo ≤ decI hi := by unfold decI; split <;> split <;> omega
    rw [dv_rep]
    refine sml_catS _ _ (nf_dv c x hx) (nf_repS hx d0 d1) sx (sml_repS (hs.kid (by simp [repT])) ?_ ?_)
    · unfold decI; split <;> omega
    · unfold decI; split <;> omega
theorem len_sum : ∀ (l : List Tm), l.length ≤ sumG gT l
  | [] => by simp
  | x :: l => by
    have := len_sum l; have := gT_pos x
    simp only [sumG, List.map_cons, List.sum_cons, List.length_cons] at *; omega
theorem sml_plain : ∀ (t : Tm), Org t → Sml t → wT t ≤ 24 → Sml (plainS t) := by
  refine Tm.ind ?_
  intro t ih h hs hw
  revert ih hs hw
  refine org_cases (P := fun t => (∀ k ∈ t.kids, Org k → Sml k → wT k ≤ 24 → Sml (plainS k)) → Sml t → wT t ≤ 24 → Sml (plainS t)) t h ?_ ?_ ?_ ?_ ?_
  · intro s _ hs _; rw [plain_set]; exact hs
  · intro l h5 ih hs hw
    rw [wT_sev 2 l (.inl rfl)] at hw
    have hk : ∀ x ∈ l, Sml (plainS x) := fun x hx => by
      have := sum_mem wT hx
      exact ih x (by simpa [sevT] using hx) (h5 x hx) (hs.kid (by simpa [sevT] using hx)) (by omega)
    rw [plain_row]
    have : ∀ (m : List Tm), (∀ x ∈ m, x ∈ l) → Sml ((m.map plainS).foldr catS emptT) := by
      intro m
      induction m with
      | nil => intro _; exact sml_empt
      | cons a m ihm =>
        intro hm
        refine sml_catS _ _ (nf_plain a (h5 a (hm a (by simp)))) (nf_row _ ?_) (hk a (hm a (by simp))) (ihm fun x hx => hm x (by simp [hx]))
        intro z hz; obtain ⟨u, hu, rfl⟩ := List.mem_map.1 hz; exact nf_plain u (h5 u (hm u (by simp [hu])))
    exact this l fun _ h => h
  · intro k l hk hl h5 ih hs hw
    have hw' := hw
    rw [wT_sev k l (.inr hk)] at hw
    have hks : ∀ x ∈ l, Sml (plainS x) := fun x hx => by
      have := sum_mem wT hx
      exact ih x (by simpa [sevT] using hx) (h5 x hx) (hs.kid (by simpa [sevT] using hx)) (by omega)
    rw [plain_sev k l hk]
    refine sml_join hk (fun t ht => by obtain ⟨u, hu, rfl⟩ := List.mem_map.1 ht; exact hks u hu) fun _ => ?_
    have h1 := len_sum (gatA k [] (l.map plainS))
    have h2 := sum_gat gT k (trm_gT k hk) (l.map plainS) []
    have h3 := pow_sum l fun x hx => (plain_small x (h5 x hx)).1
    have h4 : 3 ^ (l.map wT).sum ≤ 3 ^ 24 := Nat.pow_le_pow_right (by omega) (by omega)
    have e : sumG gT [] = 0 := rfl
    have : (3 : Nat) ^ 24 = 282429536481 := by decide
    omega
  · intro x hx ih hs hw
    rw [wT_not] at hw
    rw [plain_not]; exact sml_not (ih x (by simp [notT]) hx (hs.kid (by simp [notT])) (by omega))
  · intro x lo hi hx h0 h1 ih hs hw
    rw [wT_rep] at hw
    have hnum := hs.num
    simp only [NumOk, repT] at hnum
    have : wT x ≤ wT x * max (max lo hi).toNat 1 := Nat.le_mul_of_pos_right _ (by omega)
    rw [plain_rep]; exact sml_repS (ih x (by simp [repT]) hx (hs.kid (by simp [repT])) (by omega)) (by omega) (by omega)

end Go.Proofs.YtbjohedenfindaaGreatDoor

namespace Go.Proofs.YtbjohedenfindaaGreatDoor
open Go.RowKit
set_option linter.unusedVariables false
set_option maxRecDepth 100000

def NulC (t : Tm) : Prop := ∀ (ok : Nat → Prop) (w : World) (v : Value), TT ok w v t → Nf t → Sml t → Calls Tryz.prog 39 #[v] w fun e w' => e = .returned (.bool (nul t)) ∧ Below w.heap.size w w'

set_option maxHeartbeats 1000000 in
theorem tempty_set {w : World} {b : Nat} (c0 : w.cell? ⟨b, 0, none⟩ = some (.int .i64 1)) : Calls Tryz.prog 39 #[.pointer (some ⟨b, 0, none⟩)] w fun e w' => e = .returned (.bool false) ∧ w' = w := by
  go_enter Tryz.func39, Tryz.ntmps39
  go_wp2
  go_ret
  exact ⟨rfl, rfl⟩
set_option maxHeartbeats 1000000 in
theorem tempty_not {w : World} {b g off kc b1 : Nat} {z : Bool} (c0 : w.cell? ⟨b, 0, none⟩ = some (.int .i64 5)) (c4 : w.cell? ⟨b, 4, none⟩ = some (.slice (some ⟨g, off, none⟩) 1 kc)) (hu : w.cell? ⟨g, off, none⟩ = some (.pointer (some ⟨b1, 0, none⟩)))
    (HC : Hid (Calls Tryz.prog 39 #[.pointer (some ⟨b1, 0, none⟩)] w fun e w' => e = .returned (.bool z) ∧ Below w.heap.size w w')) :
    Calls Tryz.prog 39 #[.pointer (some ⟨b, 0, none⟩)] w fun e w' => e = .returned (.bool (!z)) ∧ Below w.heap.size w w' := by
  go_enter Tryz.func39, Tryz.ntmps39
  go_wp2_with fail
  refine HC.out.mono ?_
  rintro e w1 ⟨rfl, hb1⟩
  go_wp2
  go_ret
  exact ⟨rfl, hb1⟩
set_option maxHeartbeats 1000000 in
theorem tempty_rep0 {w : World} {b : Nat} (c0 : w.cell? ⟨b, 0, none⟩ = some (.int .i64 6)) (c2 : w.cell? ⟨b, 2, none⟩ = some (.int .i64 0)) :
    Calls Tryz.prog 39 #[.pointer (some ⟨b, 0, none⟩)] w fun e w' => e = .returned (.bool true) ∧ Below w.heap.size w w' := by
  go_enter Tryz.func39, Tryz.ntmps39
  go_wp2
  go_ret
  exact ⟨rfl, Below.refl _ _⟩
set_option maxHeartbeats 1000000 in
theorem tempty_rep {w : World} {b g off kc b1 : Nat} {lo : Int} {z : Bool} (hlo : (lo == 0) = false) (c0 : w.cell? ⟨b, 0, none⟩ = some (.int .i64 6)) (c2 : w.cell? ⟨b, 2, none⟩ = some (.int .i64 lo)) (c4 : w.cell? ⟨b, 4, none⟩ = some (.slice (some ⟨g, off, none⟩) 1 kc)) (hu : w.cell? ⟨g, off, none⟩ = some (.pointer (some ⟨b1, 0, none⟩)))
    (HC : Hid (Calls Tryz.prog 39 #[.pointer (some ⟨b1, 0, none⟩)] w fun e w' => e = .returned (.bool z) ∧ Below w.heap.size w w')) :
    Calls Tryz.prog 39 #[.pointer (some ⟨b, 0, none⟩)] w fun e w' => e = .returned (.bool z) ∧ Below w.heap.size w w' := by
  go_enter Tryz.func39, Tryz.ntmps39
  go_wp2_with fail
  refine HC.out.mono ?_
  rintro e w1 ⟨rfl, hb1⟩
  go_wp2
  go_ret
  exact ⟨rfl, hb1⟩

theorem any_take (f : Tm → Bool) (l : List Tm) (k : Nat) (h : k < l.length) : (l.take (k + 1)).any f = ((l.take k).any f || f (l.getD k nothT)) := by
  rw [List.take_succ_eq_append_getElem h, List.any_append]; simp [h]
theorem all_take (f : Tm → Bool) (l : List Tm) (k : Nat) (h : k < l.length) : (l.take (k + 1)).all f = ((l.take k).all f && f (l.getD k nothT)) := by
  rw [List.take_succ_eq_append_getElem h, List.all_append]; simp [h]
theorem getD_mem (l : List Tm) (k : Nat) (h : k < l.length) : l.getD k nothT ∈ l := by
  rw [List.getD_eq_getElem?_getD, List.getElem?_eq_getElem h]; exact List.getElem_mem h
set_option maxHeartbeats 4000000 in
theorem tempty_or {w : World} {b kc : Nat} {ka : Option Addr} {l : List Tm} (hlt : b < w.heap.size) (hl : l.length ≤ 17592186000000) (c0 : w.cell? ⟨b, 0, none⟩ = some (.int .i64 3)) (c4 : w.cell? ⟨b, 4, none⟩ = some (.slice ka l.length kc))
    (HK : Hid (∀ j, j < l.length → ∃ g off b1, ka = some ⟨g, off, none⟩ ∧ g < w.heap.size ∧ w.cell? ⟨g, off + j, none⟩ = some (.pointer (some ⟨b1, 0, none⟩)) ∧ ∀ w', Below w.heap.size w w' → Calls Tryz.prog 39 #[.pointer (some ⟨b1, 0, none⟩)] w' fun e w'' => e = .returned (.bool (nul (l.getD j nothT))) ∧ Below w'.heap.size w' w'')) :
    Calls Tryz.prog 39 #[.pointer (some ⟨b, 0, none⟩)] w fun e w' => e = .returned (.bool (l.any nul)) ∧ Below w.heap.size w w' := by
  have HR : Hid (∀ j, j < l.length → nul (l.getD j nothT) = true → l.any nul = true) := fun j hj h2 => by
    rw [List.any_eq_true]; exact ⟨_, getD_mem l j hj, h2⟩
  have HS : Hid (∀ j, j < l.length → (l.take j).any nul = false → nul (l.getD j nothT) = false → (l.take (j + 1)).any nul = false) := fun j hj h1 h2 => by
    rw [any_take nul l j hj, h1, h2]; rfl
  have HE : Hid ((l.take l.length).any nul = l.any nul) := (show (l.take l.length).any nul = l.any nul by rw [List.take_length])
  generalize l.any nul = res at *
  go_enter Tryz.func39, Tryz.ntmps39
  go_wp2
  go_loopw [4] (fun kv wr => ∃ j : Nat, j ≤ l.length ∧ kv = .int .i64 j ∧ (l.take j).any nul = false ∧ Below w.heap.size w wr) (fun kv _ => l.length - (intOf kv).toNat)
  case atStart => exact ⟨0, Nat.zero_le _, rfl, by simp, Below.refl _ _⟩
  case round =>
    obtain ⟨j, hj, rfl, hf, hbw⟩ := hrel
    have d0 := (hbw.cell (p := ⟨b, 0, none⟩) hlt).trans c0
    have d4 := (hbw.cell (p := ⟨b, 4, none⟩) hlt).trans c4
    clear c0 c4
    by_cases hlt2 : j < l.length
    · obtain ⟨g, off, b1, rfl, hg, hu, hc⟩ := HK.out j hlt2
      have hu' := (hbw.cell (p := ⟨g, off + j, none⟩) hg).trans hu
      have HC : Hid (Calls Tryz.prog 39 #[.pointer (some ⟨b1, 0, none⟩)] wr fun e w'' => e = .returned (.bool (nul (l.getD j nothT))) ∧ Below wr.heap.size wr w'') := hc wr hbw
      have hcell : Hid (∀ w', Below wr.heap.size wr w' → w'.cell? ⟨b, 0, none⟩ = some (.int .i64 3)) := fun w' hb => (hb.cell (p := ⟨b, 0, none⟩) (Nat.lt_of_lt_of_le hlt hbw.size)).trans d0
      have RR : Hid (nul (l.getD j nothT) = true → res = true) := HR.out j hlt2
      have SS : Hid (nul (l.getD j nothT) = false → (l.take (j + 1)).any nul = false) := HS.out j hlt2 hf
      generalize nul (l.getD j nothT) = z at *
      clear hc hu HR HS HE HK hf
      go_wp2_with fail
      refine HC.out.mono ?_
      rintro e w2 ⟨rfl, hb2⟩
      have hbw2 := hbw.trans (hb2.mono hbw.size)
      have d0' := hcell.out w2 hb2
      clear HC d0 d4 hu'
      by_cases hz : z = true
      · have hr := RR.out hz
        subst hz hr
        go_wp2
        go_ret
        exact ⟨rfl, hbw2⟩
      · have hz2 : z = false := by simpa using hz
        have hs := SS.out hz2
        subst hz2
        go_wp2
        go_roundw
        case rel => exact ⟨j + 1, by omega, by go_num, hs, hbw2⟩
        case measure => simp [intOf]; omega
    · have hj2 : j = l.length := by omega
      subst hj2
      have he := HE.out
      rw [hf] at he; subst he
      go_wp2
      go_ret
      exact ⟨rfl, hbw⟩
set_option maxHeartbeats 4000000 in
theorem tempty_all {w : World} {b kc : Nat} {k : Int} {ka : Option Addr} {l : List Tm} (hlt : b < w.heap.size) (hk : k = 2 ∨ k = 4) (hl : l.length ≤ 17592186000000) (c0 : w.cell? ⟨b, 0, none⟩ = some (.int .i64 k)) (c4 : w.cell? ⟨b, 4, none⟩ = some (.slice ka l.length kc))
    (HK : Hid (∀ j, j < l.length → ∃ g off b1, ka = some ⟨g, off, none⟩ ∧ g < w.heap.size ∧ w.cell? ⟨g, off + j, none⟩ = some (.pointer (some ⟨b1, 0, none⟩)) ∧ ∀ w', Below w.heap.size w w' → Calls Tryz.prog 39 #[.pointer (some ⟨b1, 0, none⟩)] w' fun e w'' => e = .returned (.bool (nul (l.getD j nothT))) ∧ Below w'.heap.size w' w'')) :
    Calls Tryz.prog 39 #[.pointer (some ⟨b, 0, none⟩)] w fun e w' => e = .returned (.bool (l.all nul)) ∧ Below w.heap.size w w' := by
  have q1 : (k == 1) = false := by rw [beq_eq_false_iff_ne]; omega
  have q3 : (k == 3) = false := by rw [beq_eq_false_iff_ne]; omega
  have q3' : (k != 3) = true := by rw [bne, q3]; rfl
  have q5 : (k == 5) = false := by rw [beq_eq_false_iff_ne]; omega
  have q6 : (k == 6) = false := by rw [beq_eq_false_iff_ne]; omega
  clear hk
  have HR : Hid (∀ j, j < l.length → nul (l.getD j nothT) = false → l.all nul = false) := fun j hj h2 => by
    cases ha : l.all nul
    · rfl
    · rw [List.all_eq_true] at ha; have := ha _ (getD_mem l j hj); rw [this] at h2; simp at h2
  have HS : Hid (∀ j, j < l.length → (l.take j).all nul = true → nul (l.getD j nothT) = true → (l.take (j + 1)).all nul = true) := fun j hj h1 h2 => by
    rw [all_take nul l j hj, h1, h2]; rfl
  have HE : Hid ((l.take l.length).all nul = l.all nul) := (show (l.take l.length).all nul = l.all nul by rw [List.take_length])
  generalize l.all nul = res at *
  go_enter Tryz.func39, Tryz.ntmps39
  go_wp2
  go_loopw [4] (fun kv wr => ∃ j : Nat, j ≤ l.length ∧ kv = .int .i64 j ∧ (l.take j).all nul = true ∧ Below w.heap.size w wr) (fun kv _ => l.length - (intOf kv).toNat)
  case atStart => exact ⟨0, Nat.zero_le _, rfl, by simp, Below.refl _ _⟩
  case round =>
    obtain ⟨j, hj, rfl, hf, hbw⟩ := hrel
    have d0 := (hbw.cell (p := ⟨b, 0, none⟩) hlt).trans c0
    have d4 := (hbw.cell (p := ⟨b, 4, none⟩) hlt).trans c4
    clear c0 c4
    by_cases hlt2 : j < l.length
    · obtain ⟨g, off, b1, rfl, hg, hu, hc⟩ := HK.out j hlt2
      have hu' := (hbw.cell (p := ⟨g, off + j, none⟩) hg).trans hu
      have HC : Hid (Calls Tryz.prog 39 #[.pointer (some ⟨b1, 0, none⟩)] wr fun e w'' => e = .returned (.bool (nul (l.getD j nothT))) ∧ Below wr.heap.size wr w'') := hc wr hbw
      have hcell : Hid (∀ w', Below wr.heap.size wr w' → w'.cell? ⟨b, 0, none⟩ = some (.int .i64 k)) := fun w' hb => (hb.cell (p := ⟨b, 0, none⟩) (Nat.lt_of_lt_of_le hlt hbw.size)).trans d0
      have RR : Hid (nul (l.getD j nothT) = false → res = false) := HR.out j hlt2
      have SS : Hid (nul (l.getD j nothT) = true → (l.take (j + 1)).all nul = true) := HS.out j hlt2 hf
      generalize nul (l.getD j nothT) = z at *
      clear hc hu HR HS HE HK hf
      go_wp2_with fail
      refine HC.out.mono ?_
      rintro e w2 ⟨rfl, hb2⟩
      have hbw2 := hbw.trans (hb2.mono hbw.size)
      have d0' := hcell.out w2 hb2
      clear HC d0 d4 hu'
      by_cases hz : z = false
      · have hr := RR.out hz
        subst hz hr
        go_wp2
        go_ret
        exact ⟨rfl, hbw2⟩
      · have hz2 : z = true := by simpa using hz
        have hs := SS.out hz2
        subst hz2
        go_wp2
        go_roundw
        case rel => exact ⟨j + 1, by omega, by go_num, hs, hbw2⟩
        case measure => simp [intOf]; omega
    · have hj2 : j = l.length := by omega
      subst hj2
      have he := HE.out
      rw [hf] at he; subst he
      go_wp2
      go_ret
      exact ⟨rfl, hbw⟩
theorem takesEmpty_any : ∀ (t : Tm), NulC t := by
  refine Tm.ind ?_
  intro t ih ok w v h hn hs
  obtain ⟨b, sv, ka, kc, hN⟩ := h.node
  have hlen := hs.num.2.2.2.2.2
  have e := hN.v_eq; subst e
  have hkid : ∀ j, j < t.kids.length → ∃ g off b1, ka = some ⟨g, off, none⟩ ∧ g < w.heap.size ∧ w.cell? ⟨g, off + j, none⟩ = some (.pointer (some ⟨b1, 0, none⟩)) ∧ ∀ w', Below w.heap.size w w' → Calls Tryz.prog 39 #[.pointer (some ⟨b1, 0, none⟩)] w' fun e w'' => e = .returned (.bool (nul (t.kids.getD j nothT))) ∧ Below w'.heap.size w' w'' := by
    intro j hj
    obtain ⟨g, off, u, h1, h2, _, h3, h4⟩ := hN.kid j hj
    obtain ⟨b1, rfl⟩ := h4.ptr
    exact ⟨g, off, b1, h1, h2, h3, fun w' hb => ih _ (getD_mem _ j hj) ok w' _ (h4.below hb) (hn.kid (getD_mem _ j hj)) (hs.kid (getD_mem _ j hj))⟩
  have c0 := hN.c0
  have c2 := hN.c2
  have c4 := hN.c4
  have hlt := hN.lt
  clear hN h ih
  revert hlen hkid c0 c2 c4
  refine nf_cases (P := fun t => t.kids.length ≤ 17592186000000 → (∀ j, j < t.kids.length → ∃ g off b1, ka = some ⟨g, off, none⟩ ∧ g < w.heap.size ∧ w.cell? ⟨g, off + j, none⟩ = some (.pointer (some ⟨b1, 0, none⟩)) ∧ ∀ w', Below w.heap.size w w' → Calls Tryz.prog 39 #[.pointer (some ⟨b1, 0, none⟩)] w' fun e w'' => e = .returned (.bool (nul (t.kids.getD j nothT))) ∧ Below w'.heap.size w' w'') →
    w.cell? ⟨b, 0, none⟩ = some (.int .i64 t.kind) → w.cell? ⟨b, 2, none⟩ = some (.int .i64 t.mn) → w.cell? ⟨b, 4, none⟩ = some (.slice ka t.kids.length kc) → Calls Tryz.prog 39 #[.pointer (some ⟨b, 0, none⟩)] w fun e w' => e = .returned (.bool (nul t)) ∧ Below w.heap.size w w') t hn ?_ ?_ ?_ ?_ ?_ ?_
  · intro s _ _ c0 _ _
    have e : nul (setT s) = false := by rw [nul_eq]; simp [setT]
    rw [e]
    exact (tempty_set c0).mono fun e w' ⟨h1, h2⟩ => ⟨h1, by rw [h2]; exact Below.refl _ _⟩
  · intro hl hk c0 _ c4
    have e : nul emptT = ([] : List Tm).all nul := by rw [nul_eq]; simp [emptT]
    rw [e]
    exact tempty_all (l := []) hlt (.inl rfl) (by simp) c0 c4 hk
  · intro x y _ _ _ _ _ _ hl hk c0 _ c4
    have e : nul (catT x y) = [x, y].all nul := by rw [nul_eq]; simp [catT]
    rw [e]
    exact tempty_all (l := [x, y]) hlt (.inl rfl) (by simp) c0 c4 hk
  · intro k l hkk _ _ _ _ hl hk c0 _ c4
    rcases hkk with rfl | rfl
    · have e : nul (sevT 3 l) = l.any nul := by rw [nul_eq]; simp [sevT]
      rw [e]
      exact tempty_or (l := l) hlt hl c0 c4 hk
    · have e : nul (sevT 4 l) = l.all nul := by rw [nul_eq]; simp [sevT]
      rw [e]
      exact tempty_all (l := l) hlt (.inr rfl) hl c0 c4 hk
  · intro x _ _ hk c0 _ c4
    obtain ⟨g, off, b1, rfl, hg, hu, hc⟩ := hk 0 (by simp [notT])
    have e : nul (notT x) = !nul x := by rw [nul_eq]; simp [notT]
    rw [e]
    exact tempty_not c0 c4 hu (hc w (Below.refl _ _))
  · intro x lo hi _ _ _ _ _ _ hk c0 c2 c4
    obtain ⟨g, off, b1, rfl, hg, hu, hc⟩ := hk 0 (by simp [repT])
    have e : nul (repT x lo hi) = if lo = 0 then true else nul x := by rw [nul_eq]; simp [repT]
    rw [e]
    by_cases h0 : lo = 0
    · rw [if_pos h0]; subst h0; exact tempty_rep0 c0 c2
    · rw [if_neg h0]
      exact tempty_rep (by rw [beq_eq_false_iff_ne]; exact h0) c0 c2 c4 hu (hc w (Below.refl _ _))

end Go.Proofs.YtbjohedenfindaaGreatDoor

namespace Go.Proofs.YtbjohedenfindaaGreatDoor
set_option linter.unusedVariables false

theorem cmpL_app : ∀ (p x y : List Int), cmpL (p ++ x) (p ++ y) = cmpL x y
  | [], x, y => rfl
  | a :: p, x, y => by simp only [List.cons_append, cmpL, if_true]; exact cmpL_app p x y
theorem cmpL_cons_ne {a b : Int} (x y : List Int) (h : a ≠ b) : cmpL (a :: x) (b :: y) = a - b := by simp [cmpL, h]
theorem cmpL_cons_eq (a : Int) (x y : List Int) : cmpL (a :: x) (a :: y) = cmpL x y := by simp [cmpL]
theorem cmpL_pre : ∀ (p q x y : List Int), (∀ r, p ++ r ≠ q) → (∀ r, q ++ r ≠ p) → cmpL (p ++ x) (q ++ y) = cmpL p q
  | [], q, x, y, h, _ => absurd rfl (h q)
  | _ :: _, [], x, y, _, h => absurd rfl (h _)
  | a :: p, b :: q, x, y, h, g => by
    simp only [List.cons_append, cmpL]
    split
    · subst_vars
      exact cmpL_pre p q x y (fun r e => h r (by simp [e])) (fun r e => g r (by simp [e]))
    · rfl
theorem ord_kind {t u : Tm} (h : t.kind ≠ u.kind) : ord t u = t.kind - u.kind := by
  unfold ord; rw [enc_eq, enc_eq]; exact cmpL_cons_ne _ _ h
theorem ord_mn {t u : Tm} (h0 : t.kind = u.kind) (h : t.mn ≠ u.mn) : ord t u = t.mn - u.mn := by
  unfold ord; rw [enc_eq, enc_eq, h0, cmpL_cons_eq]; exact cmpL_cons_ne _ _ h
theorem ord_mx {t u : Tm} (h0 : t.kind = u.kind) (h1 : t.mn = u.mn) (h : t.mx ≠ u.mx) : ord t u = t.mx - u.mx := by
  unfold ord; rw [enc_eq, enc_eq, h0, h1, cmpL_cons_eq, cmpL_cons_eq]; exact cmpL_cons_ne _ _ h
/-- the same up to the sets -/
def Head (t u : Tm) : Prop := t.kind = u.kind ∧ t.mn = u.mn ∧ t.mx = u.mx
theorem ord_head {t u : Tm} (h : Head t u) : ord t u = cmpL ((t.set.length : Int) :: (encR t.set ++ (t.kids.length : Int) :: (t.kids.map enc).flatten)) ((u.set.length : Int) :: (encR u.set ++ (u.kids.length : Int) :: (u.kids.map enc).flatten)) := by
  unfold ord; rw [enc_eq, enc_eq, h.1, h.2.1, h.2.2, cmpL_cons_eq, cmpL_cons_eq, cmpL_cons_eq]
theorem ord_len {t u : Tm} (h : Head t u) (hl : t.set.length ≠ u.set.length) : ord t u = (t.set.length : Int) - u.set.length := by
  rw [ord_head h]; exact cmpL_cons_ne _ _ (by omega)
theorem encR_app (a b : List Rg) : encR (a ++ b) = encR a ++ encR b := by simp [encR]
theorem split_at (l : List Rg) (i : Nat) (h : i < l.length) : l = l.take i ++ (l.getD i (0, 0) :: l.drop (i + 1)) := by
  have : l.getD i (0, 0) = l[i] := by simp [h]
  rw [this, ← List.drop_eq_getElem_cons h, List.take_append_drop]
theorem ord_at {t u : Tm} (h : Head t u) (hl : t.set.length = u.set.length) (i : Nat) (hi : i < t.set.length) (hp : t.set.take i = u.set.take i) :
    ((t.set.getD i (0, 0)).1 ≠ (u.set.getD i (0, 0)).1 → ord t u = (t.set.getD i (0, 0)).1 - (u.set.getD i (0, 0)).1) ∧
    ((t.set.getD i (0, 0)).1 = (u.set.getD i (0, 0)).1 → (t.set.getD i (0, 0)).2 ≠ (u.set.getD i (0, 0)).2 → ord t u = (t.set.getD i (0, 0)).2 - (u.set.getD i (0, 0)).2) ∧
    ((t.set.getD i (0, 0)).1 = (u.set.getD i (0, 0)).1 → (t.set.getD i (0, 0)).2 = (u.set.getD i (0, 0)).2 → t.set.take (i + 1) = u.set.take (i + 1)) := by
  have e := ord_head h
  rw [hl, cmpL_cons_eq] at e
  have s1 := split_at t.set i hi
  have s2 := split_at u.set i (by omega)
  have g1 : encR t.set = encR (t.set.take i) ++ ((t.set.getD i (0, 0)).1 :: (t.set.getD i (0, 0)).2 :: encR (t.set.drop (i + 1))) := by
    conv => lhs; rw [s1]
    rw [encR_app]; rfl
  have g2 : encR u.set = encR (t.set.take i) ++ ((u.set.getD i (0, 0)).1 :: (u.set.getD i (0, 0)).2 :: encR (u.set.drop (i + 1))) := by
    conv => lhs; rw [s2]
    rw [encR_app, hp]; rfl
  rw [g1, g2, List.append_assoc, List.append_assoc, cmpL_app] at e
  simp only [List.cons_append] at e
  refine ⟨fun hn => ?_, fun he hn => ?_, fun he he2 => ?_⟩
  · rw [e]; exact cmpL_cons_ne _ _ hn
  · rw [e, he, cmpL_cons_eq]; exact cmpL_cons_ne _ _ hn
  · have e1 : t.set.take (i + 1) = t.set.take i ++ [t.set.getD i (0, 0)] := by
      rw [List.take_succ_eq_append_getElem hi]; simp [hi]
    have e2 : u.set.take (i + 1) = u.set.take i ++ [u.set.getD i (0, 0)] := by
      rw [List.take_succ_eq_append_getElem (by omega)]; simp [show i < u.set.length by omega]
    rw [e1, e2, hp, Prod.ext he he2]
theorem ord_kids {t u : Tm} (h : Head t u) (hs : t.set = u.set) : ord t u = cmpL ((t.kids.length : Int) :: (t.kids.map enc).flatten) ((u.kids.length : Int) :: (u.kids.map enc).flatten) := by
  rw [ord_head h, hs, cmpL_cons_eq, cmpL_app]
theorem ord_klen {t u : Tm} (h : Head t u) (hs : t.set = u.set) (hl : t.kids.length ≠ u.kids.length) : ord t u = (t.kids.length : Int) - u.kids.length := by
  rw [ord_kids h hs]; exact cmpL_cons_ne _ _ (by omega)
theorem split_kid (l : List Tm) (i : Nat) (h : i < l.length) : l = l.take i ++ (l.getD i nothT :: l.drop (i + 1)) := by
  have : l.getD i nothT = l[i] := by simp [h]
  rw [this, ← List.drop_eq_getElem_cons h, List.take_append_drop]
theorem ord_kat {t u : Tm} (h : Head t u) (hs : t.set = u.set) (hl : t.kids.length = u.kids.length) (i : Nat) (hi : i < t.kids.length) (hp : t.kids.take i = u.kids.take i) :
    (ord (t.kids.getD i nothT) (u.kids.getD i nothT) ≠ 0 → ord t u = ord (t.kids.getD i nothT) (u.kids.getD i nothT)) ∧
    (ord (t.kids.getD i nothT) (u.kids.getD i nothT) = 0 → t.kids.take (i + 1) = u.kids.take (i + 1)) := by
  have e := ord_kids h hs
  rw [hl, cmpL_cons_eq] at e
  have s1 := split_kid t.kids i hi
  have s2 := split_kid u.kids i (by omega)
  have g1 : (t.kids.map enc).flatten = ((t.kids.take i).map enc).flatten ++ (enc (t.kids.getD i nothT) ++ ((t.kids.drop (i + 1)).map enc).flatten) := by
    conv => lhs; rw [s1]
    simp
  have g2 : (u.kids.map enc).flatten = ((t.kids.take i).map enc).flatten ++ (enc (u.kids.getD i nothT) ++ ((u.kids.drop (i + 1)).map enc).flatten) := by
    conv => lhs; rw [s2]
    rw [hp]; simp
  rw [g1, g2, cmpL_app] at e
  refine ⟨fun hn => ?_, fun he => ?_⟩
  · have hne : t.kids.getD i nothT ≠ u.kids.getD i nothT := fun h => hn (ord_zero.2 h)
    rw [e]
    refine cmpL_pre _ _ _ _ ?_ ?_
    · intro r h
      exact hne (enc_pre _ _ r [] (by rw [h]; simp)).1
    · intro r h
      exact hne (enc_pre _ _ r [] (by rw [h]; simp)).1.symm
  · have e1 : t.kids.take (i + 1) = t.kids.take i ++ [t.kids.getD i nothT] := by
      rw [List.take_succ_eq_append_getElem hi]; simp [hi]
    have e2 : u.kids.take (i + 1) = u.kids.take i ++ [u.kids.getD i nothT] := by
      rw [List.take_succ_eq_append_getElem (by omega)]; simp [show i < u.kids.length by omega]
    rw [e1, e2, hp, ord_zero.1 he]
theorem ord_same {t u : Tm} (h : Head t u) (hs : t.set = u.set) (hk : t.kids = u.kids) : ord t u = 0 := by
  rw [ord_zero]
  obtain ⟨k, s, a, b, ks⟩ := t
  obtain ⟨k', s', a', b', ks'⟩ := u
  obtain ⟨h1, h2, h3⟩ := h
  simp only at h1 h2 h3 hs hk
  subst h1 h2 h3 hs hk; rfl

end Go.Proofs.YtbjohedenfindaaGreatDoor
