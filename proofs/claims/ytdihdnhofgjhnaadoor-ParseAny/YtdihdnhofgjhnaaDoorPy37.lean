/- Texts of the proof, put together: YSam. -/
import Derived.Test.YtdihdnhofgjhnaaDoorPy34
namespace Go.Proofs.YtdihdnhofgjhnaaDoor
open Go.RowKit
set_option linter.unusedVariables false
set_option maxRecDepth 100000

/-- no tree in it has too many kids -/
def KidsOk (t : Tr) : Prop := ∀ m, okN m t
theorem KidsOk.leaf (a : Nat) : KidsOk (leafT a) := fun m => by
  cases m with
  | zero => trivial
  | succ m => exact ⟨by simp [leafT], fun k hk => by simp [leafT] at hk⟩
theorem KidsOk.node (p : Int) (ks : List Tr) (hl : ks.length ≤ 1000) (h : ∀ k ∈ ks, KidsOk k) : KidsOk (nodeT p ks) := fun m => by
  cases m with
  | zero => trivial
  | succ m => exact ⟨by show ks.length ≤ _; omega, fun k hk => h k hk m⟩
def PlK (σ : Pl) : Prop := ∀ x ∈ σ, KidsOk x.1
theorem redS_k {g : Gm} {tb : Tb} {σ σ' : Pl} {p : Int} (hf : fitsB g tb = true) (h : PlK σ) (hp : 0 ≤ p ∧ p < g.prods.length) (hr : redS g tb p σ = some σ') : PlK σ' := by
  unfold redS at hr
  split at hr
  · cases hr
  · split at hr
    · cases hr
    · obtain rfl := Option.some.inj hr
      have hl := (pd_ok (fits_parts hf).1 hp).2.2
      intro x hx
      rcases List.mem_cons.1 hx with rfl | hx
      · refine KidsOk.node p _ ?_ fun k hk => ?_
        · rw [List.length_reverse, List.length_map, List.length_take]; omega
        · rw [List.mem_reverse, List.mem_map] at hk
          obtain ⟨y, hy, rfl⟩ := hk
          exact h y (List.mem_of_mem_take hy)
      · exact h x (List.mem_of_mem_drop hx)
theorem setS_k {g : Gm} {tb : Tb} {t : Int} (hf : fitsB g tb = true) (ht : 0 ≤ t ∧ t ≤ g.terms) : ∀ (m : Nat) (σ : Pl), PlOk g tb σ → PlK σ → PlK (setS g tb t m σ).2.2
  | 0, σ, h, hk => by
    rw [setS_at]
    split
    · exact hk
    · split
      · exact hk
      · split
        · split <;> exact hk
        · exact hk
  | m + 1, σ, h, hk => by
    obtain ⟨hf1, hf2, _⟩ := fits_parts hf
    have ha := (act_ok hf (topS_ok h hf2) ht).2
    rw [setS_at]
    by_cases h0 : (actOf tb (topS σ) t).kind = 0
    · rw [if_pos h0]; exact hk
    · rw [if_neg h0]
      by_cases h1 : (actOf tb (topS σ) t).kind = 1
      · rw [if_pos h1]; exact hk
      · rw [if_neg h1]
        by_cases h3 : (actOf tb (topS σ) t).kind = 3
        · rw [if_pos h3]; split <;> exact hk
        · rw [if_neg h3, if_neg (by omega)]
          have hp : 0 ≤ (actOf tb (topS σ) t).to ∧ (actOf tb (topS σ) t).to < g.prods.length := by
            unfold actB at ha
            simp [h0, h1, h3] at ha
            exact ⟨ha.1.2, ha.2⟩
          cases hq : redS g tb (actOf tb (topS σ) t).to σ with
          | none => exact hk
          | some σ' => exact setS_k hf ht m σ' (redS_ok hf h hp hq).1 (redS_k hf hk hp hq)
theorem readS_k {g : Gm} {tb : Tb} (hf : fitsB g tb = true) : ∀ (inp : List Int) (i : Nat) (σ : Pl), PlOk g tb σ → PlK σ → (readS g tb inp i σ).1 = 0 → PlK (readS g tb inp i σ).2.2
  | [], i, σ, h, hk, _ => by rw [readS]; exact hk
  | x :: r, i, σ, h, hk, h0 => by
    rw [readS] at h0 ⊢
    by_cases hx : x < 0 ∨ g.terms ≤ x
    · rw [if_pos hx] at h0; simp at h0
    · rw [if_neg hx] at h0 ⊢
      by_cases hs : (setS g tb x 10000 σ).1 = 0
      · rw [if_pos hs] at h0 ⊢
        obtain ⟨k1, k2, k3, k4⟩ := setS_ok hf (t := x) ⟨by omega, by omega⟩ 10000 σ h
        have hk2 := setS_k hf (t := x) ⟨by omega, by omega⟩ 10000 σ h hk
        refine readS_k hf r (i + 1) _ ⟨fun z hz => ?_, fun z hz => ?_⟩ (fun z hz => ?_) h0
        · rcases List.mem_cons.1 hz with rfl | hz
          · exact ⟨k3, k4⟩
          · exact k1.states z hz
        · rcases List.mem_cons.1 hz with rfl | hz
          · exact ⟨rfl, by simp [leafT], by simp [leafT]; omega⟩
          · exact k1.trees z hz
        · rcases List.mem_cons.1 hz with rfl | hz
          · exact KidsOk.leaf i
          · exact hk2 z hz
      · rw [if_neg hs] at h0; exact absurd h0 hs
theorem parseS_k {g : Gm} {tb : Tb} {inp : List Int} (hf : fitsB g tb = true) (h : (parseS g tb inp).1 = 0) : KidsOk (parseS g tb inp).2.2 := by
  unfold parseS at h ⊢
  by_cases h0 : (readS g tb inp 0 []).1 = 0
  · rw [if_pos h0] at h ⊢
    by_cases h1 : (setS g tb g.terms 10000 (readS g tb inp 0 []).2.2).1 = 0
    · rw [if_pos h1] at h ⊢
      have hT0 : 0 ≤ g.terms := by
        have h := (fits_parts hf).1
        unfold gOkB at h
        simp only [Bool.and_eq_true, decide_eq_true_eq] at h
        exact h.1.1
      have hz : PlOk g tb [] := ⟨fun x hx => by simp at hx, fun x hx => by simp at hx⟩
      have hk := setS_k hf (t := g.terms) ⟨hT0, Int.le_refl _⟩ 10000 _ (readS_ok hf inp 0 [] hz h0).1 (readS_k hf inp 0 [] hz (fun x hx => by simp at hx) h0)
      have ha := setS_end hf (readS_ok hf inp 0 [] hz h0).1 h1
      generalize (setS g tb g.terms 10000 (readS g tb inp 0 []).2.2).2.2 = σ at *
      match σ, ha with
      | [], h => simp [accB] at h
      | x :: r, _ => exact hk x (by simp)
    · rw [if_neg h1] at h; exact absurd h h1
  · rw [if_neg h0] at h; exact absurd h h0

set_option maxHeartbeats 4000000 in
theorem same_nil (w : World) : Calls Tryd.prog 13 #[.pointer none, .pointer none] w fun e w' => e = .returned (.bool true) ∧ Below w.heap.size w w' := by
  go_enter Tryd.func13, Tryd.ntmps13
  go_wp2_with fail
  go_ret
  exact ⟨rfl, Below.refl _ _⟩

set_option maxHeartbeats 8000000 in
theorem same_tree : ∀ (n : Nat) (w : World) (v v' : Value) (t : Tr), KidsOk t → IsTr (fun _ => True) n w v t → IsTr (fun _ => True) n w v' t → Calls Tryd.prog 13 #[v, v'] w fun e w' => e = .returned (.bool true) ∧ Below w.heap.size w w'
  | 0, w, v, v', t, _, h, _ => h.elim
  | n + 1, w, v, v', t, hk, h, h' => by
    rcases h with ⟨rfl, rfl⟩ | ⟨hi, b, kv, rfl, _, hc, hK⟩
    · rcases h' with ⟨_, rfl⟩ | ⟨hi', _⟩
      · exact same_nil w
      · simp [nilT] at hi'
    · rcases h' with ⟨rfl, _⟩ | ⟨_, b', kv', rfl, _, hc', hK'⟩
      · simp [nilT] at hi
      · have HIH : Hid (∀ (w : World) (v v' : Value) (t : Tr), KidsOk t → IsTr (fun _ => True) n w v t → IsTr (fun _ => True) n w v' t → Calls Tryd.prog 13 #[v, v'] w fun e w' => e = .returned (.bool true) ∧ Below w.heap.size w w') := same_tree n
        obtain ⟨ka, kc, rfl⟩ := hK.slice
        obtain ⟨ka', kc', rfl⟩ := hK'.slice
        have HKK : Hid (∀ k ∈ t.kids, KidsOk k) := fun k hm m => (hk (m + 1)).2 k hm
        have hlen : t.kids.length ≤ 1000000000000000 := (hk 1).1
        have hbl : b < w.heap.size := (Array.getElem?_eq_some_iff.1 hc).1
        have hbl' : b' < w.heap.size := (Array.getElem?_eq_some_iff.1 hc').1
        have c0 : w.cell? ⟨b, 0, none⟩ = some (.int .i64 t.prod) := by simp [World.cell?, hc]
        have c1 : w.cell? ⟨b, 1, none⟩ = some (.int .i64 t.tok) := by simp [World.cell?, hc]
        have c2 : w.cell? ⟨b, 2, none⟩ = some (.slice ka t.kids.length kc) := by simp [World.cell?, hc]
        have d0 : w.cell? ⟨b', 0, none⟩ = some (.int .i64 t.prod) := by simp [World.cell?, hc']
        have d1 : w.cell? ⟨b', 1, none⟩ = some (.int .i64 t.tok) := by simp [World.cell?, hc']
        have d2 : w.cell? ⟨b', 2, none⟩ = some (.slice ka' t.kids.length kc') := by simp [World.cell?, hc']
        have HC2 : Hid (w.cell? ⟨b, 2, none⟩ = some (.slice ka t.kids.length kc)) := c2
        have HD2 : Hid (w.cell? ⟨b', 2, none⟩ = some (.slice ka' t.kids.length kc')) := d2
        have HK1 : Hid (KidsT (IsTr (fun _ => True) n w) (fun _ => True) w (.slice ka t.kids.length kc) t.kids) := hK
        have HK2 : Hid (KidsT (IsTr (fun _ => True) n w) (fun _ => True) w (.slice ka' t.kids.length kc') t.kids) := hK'
        clear hK hK' hc hc' hk
        generalize t.prod = tp at *
        generalize t.tok = tt at *
        generalize hKs : t.kids = ks at *
        clear hKs hi
        generalize hN : ks.length = N at *
        have HN : Hid (ks.length = N) := hN
        clear hN
        go_enter Tryd.func13, Tryd.ntmps13
        go_wp2_with fail
        go_quiet (fail)
        have HB1 : Hid (Below w.heap.size w (w.drewN nq)) := below_drewG (Below.refl _ _) nq
        generalize w.drewN nq = W1 at *
        clear c0 c1 c2 d0 d1 d2
        go_wp2_with fail
        go_loopw [5] (fun iv wr => ∃ i : Nat, i ≤ N ∧ iv = .int .i64 i ∧ Hid (Below w.heap.size w wr)) (fun iv _ => N - (intOf iv).toNat)
        case atStart => exact ⟨0, Nat.zero_le _, rfl, HB1⟩
        case round =>
          obtain ⟨i, hi, rfl, HBW⟩ := hrel
          have hb := Nat.lt_of_lt_of_le hbl HBW.out.size
          have hb' := Nat.lt_of_lt_of_le hbl' HBW.out.size
          have c2 := (HBW.out.cell (p := ⟨b, 2, none⟩) hbl).trans HC2.out
          have d2 := (HBW.out.cell (p := ⟨b', 2, none⟩) hbl').trans HD2.out
          by_cases hlt : i < N
          · obtain ⟨g1, o1, u1, rfl, hg1, k1, p1⟩ := HK1.out.at (k := i) (by rw [HN.out]; exact hlt)
            obtain ⟨g2, o2, u2, rfl, hg2, k2, p2⟩ := HK2.out.at (k := i) (by rw [HN.out]; exact hlt)
            have e1 := (HBW.out.cell (p := ⟨g1, o1 + i, none⟩) hg1).trans k1
            have e2 := (HBW.out.cell (p := ⟨g2, o2 + i, none⟩) hg2).trans k2
            have HCall : Hid (Calls Tryd.prog 13 #[u1, u2] wr.drew fun e w' => e = .returned (.bool true) ∧ Below w.heap.size w w') := by
              have hd : Below w.heap.size w wr.drew := below_drewY HBW.out
              refine (HIH.out wr.drew u1 u2 (ks.getD i nilT) (HKK.out _ (by rw [List.getD_eq_getElem?_getD, List.getElem?_eq_getElem (by rw [HN.out]; exact hlt)]; exact List.getElem_mem _)) (p1.below hd) (p2.below hd)).mono ?_
              rintro e w' ⟨h1, h2⟩
              exact ⟨h1, hd.trans (h2.mono hd.size)⟩
            have HX : Hid (∀ w', Below w.heap.size w w' → w'.cell? ⟨b, 2, none⟩ = some (.slice (some ⟨g1, o1, none⟩) N kc) ∧ w'.cell? ⟨b', 2, none⟩ = some (.slice (some ⟨g2, o2, none⟩) N kc') ∧ w'.cell? ⟨g1, o1 + i, none⟩ = some u1 ∧ w'.cell? ⟨g2, o2 + i, none⟩ = some u2) := fun w' h => ⟨(h.cell (p := ⟨b, 2, none⟩) hbl).trans HC2.out, (h.cell (p := ⟨b', 2, none⟩) hbl').trans HD2.out, (h.cell (p := ⟨g1, o1 + i, none⟩) hg1).trans k1, (h.cell (p := ⟨g2, o2 + i, none⟩) hg2).trans k2⟩
            clear p1 p2 k1 k2
            go_wp2_with fail
            go_region_held3 (fun w' => w'.cell? ⟨b, 2, none⟩ = some (.slice (some ⟨g1, o1, none⟩) N kc) ∧ w'.cell? ⟨b', 2, none⟩ = some (.slice (some ⟨g2, o2, none⟩) N kc') ∧ w'.cell? ⟨g1, o1 + i, none⟩ = some u1 ∧ w'.cell? ⟨g2, o2 + i, none⟩ = some u2) (go_keep) ((go_at_call 13; refine HCall.out.mono ?_; rintro e w4 ⟨rfl, hb4⟩; have f := HX.out w4 hb4; obtain ⟨f0, f1, f2, f3⟩ := f))
            all_goals
              have HB4 : Hid (Below w.heap.size w w4) := hb4
              clear f0 f1 f2 f3 hb4 c2 d2 e1 e2
              go_wp2_with fail
              go_roundw
              case rel => exact ⟨i + 1, by omega, by go_num, HB4⟩
              case measure => simp [intOf]; omega
          · obtain rfl : i = N := by omega
            go_wp2_with fail
            go_ret
            exact ⟨rfl, HBW.out⟩

end Go.Proofs.YtdihdnhofgjhnaaDoor
