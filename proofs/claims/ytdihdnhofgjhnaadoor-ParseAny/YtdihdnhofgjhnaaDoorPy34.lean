/- Texts of the proof, put together: YRpa. -/
import Derived.Test.YtdihdnhofgjhnaaDoorPy33
namespace Go.Proofs.YtdihdnhofgjhnaaDoor
open Go.RowKit
set_option linter.unusedVariables false
set_option maxRecDepth 100000

/-- what the document's Parse answers -/
def RpaP (w : World) (ab ar ae : Addr) (q : Int × Nat × Tr) (e : Ending) (w' : World) : Prop :=
  Below w.heap.size w w' ∧ ((q.1 = 0 ∧ ∃ tl, e = .returned (.tuple #[.pointer (some ⟨tl, 0, none⟩), .nilIface, .int .i64 0]) ∧ Tree (fun _ => True) w' (.pointer (some ⟨tl, 0, none⟩)) q.2.2) ∨ (q.1 ≠ 0 ∧ e = .returned (.tuple #[.pointer none, errV ab ar ae q.1, .int .i64 q.2.1])))
/-- an accepted end has one tree -/
theorem setS_end {g : Gm} {tb : Tb} {m : Nat} : ∀ {σ : Pl}, fitsB g tb = true → PlOk g tb σ → (setS g tb g.terms m σ).1 = 0 → accB g (setS g tb g.terms m σ).2.2 = true := by
  induction m with
  | zero =>
    intro σ hf hok h
    obtain ⟨hf1, hf2, _⟩ := fits_parts hf
    have hT0 : 0 ≤ g.terms := by
      unfold gOkB at hf1
      simp only [Bool.and_eq_true, decide_eq_true_eq] at hf1
      exact hf1.1.1
    have hact := (act_ok hf (topS_ok hok hf2) ⟨hT0, Int.le_refl _⟩).2
    rw [setS_at] at h ⊢
    by_cases h0 : (actOf tb (topS σ) g.terms).kind = 0
    · rw [if_pos h0] at h; simp at h
    · rw [if_neg h0] at h ⊢
      by_cases h1 : (actOf tb (topS σ) g.terms).kind = 1
      · unfold actB at hact; simp [h1] at hact
      · rw [if_neg h1] at h ⊢
        by_cases h3 : (actOf tb (topS σ) g.terms).kind = 3
        · rw [if_pos h3] at h ⊢
          by_cases hA : accB g σ = true
          · rw [if_pos hA]; exact hA
          · rw [if_neg hA] at h; simp at h
        · rw [if_neg h3] at h; simp at h
  | succ m ih =>
    intro σ hf hok h
    obtain ⟨hf1, hf2, _⟩ := fits_parts hf
    have hT0 : 0 ≤ g.terms := by
      unfold gOkB at hf1
      simp only [Bool.and_eq_true, decide_eq_true_eq] at hf1
      exact hf1.1.1
    have hact := (act_ok hf (topS_ok hok hf2) ⟨hT0, Int.le_refl _⟩).2
    rw [setS_at] at h ⊢
    by_cases h0 : (actOf tb (topS σ) g.terms).kind = 0
    · rw [if_pos h0] at h; simp at h
    · rw [if_neg h0] at h ⊢
      by_cases h1 : (actOf tb (topS σ) g.terms).kind = 1
      · unfold actB at hact; simp [h1] at hact
      · rw [if_neg h1] at h ⊢
        by_cases h3 : (actOf tb (topS σ) g.terms).kind = 3
        · rw [if_pos h3] at h ⊢
          by_cases hA : accB g σ = true
          · rw [if_pos hA]; exact hA
          · rw [if_neg hA] at h; simp at h
        · rw [if_neg h3, if_neg (by omega)] at h ⊢
          have hp : 0 ≤ (actOf tb (topS σ) g.terms).to ∧ (actOf tb (topS σ) g.terms).to < g.prods.length := by
            unfold actB at hact
            simp [h0, h1, h3] at hact
            exact ⟨hact.1.2, hact.2⟩
          cases hq : redS g tb (actOf tb (topS σ) g.terms).to σ with
          | none => rw [hq] at h; simp at h
          | some σ' =>
            rw [hq] at h
            exact ih hf (redS_ok hf hok hp hq).1 h
/-- what is read is such that a parser can have it -/
theorem readS_ok {g : Gm} {tb : Tb} (hf : fitsB g tb = true) : ∀ (inp : List Int) (i : Nat) (σ : Pl), PlOk g tb σ → (readS g tb inp i σ).1 = 0 → PlOk g tb (readS g tb inp i σ).2.2 ∧ (readS g tb inp i σ).2.2.length ≤ σ.length + inp.length * 10001
  | [], i, σ, h, _ => by rw [readS]; exact ⟨h, by simp⟩
  | x :: r, i, σ, h, h0 => by
    rw [readS] at h0 ⊢
    by_cases hx : x < 0 ∨ g.terms ≤ x
    · rw [if_pos hx] at h0; simp at h0
    · rw [if_neg hx] at h0 ⊢
      by_cases hs : (setS g tb x 10000 σ).1 = 0
      · rw [if_pos hs] at h0 ⊢
        obtain ⟨k1, k2, k3, k4⟩ := setS_ok hf (t := x) ⟨by omega, by omega⟩ 10000 σ h
        have hp : PlOk g tb ((leafT i, (setS g tb x 10000 σ).2.1) :: (setS g tb x 10000 σ).2.2) := by
          refine ⟨fun z hz => ?_, fun z hz => ?_⟩
          · rcases List.mem_cons.1 hz with rfl | hz
            · exact ⟨k3, k4⟩
            · exact k1.states z hz
          · rcases List.mem_cons.1 hz with rfl | hz
            · exact ⟨rfl, by simp [leafT], by simp [leafT]; omega⟩
            · exact k1.trees z hz
        obtain ⟨j1, j2⟩ := readS_ok hf r (i + 1) _ hp h0
        refine ⟨j1, ?_⟩
        simp only [List.length_cons] at j2 ⊢
        omega
      · rw [if_neg hs] at h0; exact absurd h0 hs

set_option maxHeartbeats 8000000 in
theorem rparse_any (g : Gm) (pv lv sv : Value) (tb : Tb) (av ov cv iv : Value) (ab ar ae : Addr) (inp : List Int) (w : World) (hf : fitsB g tb = true) (hG : GrM w g pv lv sv) (hT : TbM w tb av ov cv) (hI : IntsR w iv inp) (hlen : inp.length ≤ 80) (hE : ErG w ab ar ae) :
    Calls Tryd.prog 11 #[gv g pv lv sv, tvv av ov cv, iv] w fun e w' => RpaP w ab ar ae (parseS g tb inp) e w' := by
  obtain ⟨hB0, hBX, hBT⟩ := boxT_all w g pv lv sv av ov cv
  have HRd : Hid (∀ w', Below w.heap.size w w' → Calls Tryd.prog 26 #[gv g pv lv sv, tvv av ov cv, iv] w' fun e w'' => Below w'.heap.size w' w'' ∧ ∃ a1 n1 c1 a2 n2 c2 us, e = .returned (.tuple #[.agg #[.slice a1 n1 c1, .slice a2 n2 c2], errV ab ar ae (readS g tb inp 0 []).1, .int .i64 (if (readS g tb inp 0 []).1 = 0 then 0 else (readS g tb inp 0 []).2.1)]) ∧ Hid ((readS g tb inp 0 []).1 = 0 → StM (w'.heap.size + 3) w'' (.slice a1 n1 c1) (.slice a2 n2 c2) (readS g tb inp 0 []).2.2 us)) := fun w' hb => rread_any g pv lv sv tb av ov cv iv ab ar ae inp w' hf (hG.below hb) (hT.below hb) (hI.below hb) hlen (hE.below hb)
  have HSet : Hid (∀ B w' xs xt σ us, Below w.heap.size w w' → B ≤ w'.heap.size → StM B w' xs xt σ us → PlOk g tb σ → σ.length ≤ 900000 → Calls Tryd.prog 27 #[gv g pv lv sv, tvv av ov cv, .agg #[xs, xt], .int .i64 g.terms] w' fun e w'' => SetP B w' ab ar ae (setS g tb g.terms 10000 σ) e w'') := fun B w' xs xt σ us hb hs h1 h2 h3 => rset_any g pv lv sv tb av ov cv xs xt ab ar ae B σ us g.terms w' hf (hG.below hb) (hT.below hb) h1 h2 hs h3 ⟨by
    have h := (fits_parts hf).1
    unfold gOkB at h
    simp only [Bool.and_eq_true, decide_eq_true_eq] at h
    exact h.1.1, Int.le_refl _⟩ (hE.below hb)
  have HPS : Hid (parseS g tb inp = if (readS g tb inp 0 []).1 = 0 then (if (setS g tb g.terms 10000 (readS g tb inp 0 []).2.2).1 = 0 then (0, 0, ((setS g tb g.terms 10000 (readS g tb inp 0 []).2.2).2.2.headD (nilT, 0)).1) else ((setS g tb g.terms 10000 (readS g tb inp 0 []).2.2).1, inp.length, nilT)) else ((readS g tb inp 0 []).1, (readS g tb inp 0 []).2.1, nilT)) := rfl
  have HRO : Hid ((readS g tb inp 0 []).1 = 0 → PlOk g tb (readS g tb inp 0 []).2.2 ∧ (readS g tb inp 0 []).2.2.length ≤ 900000) := fun h0 => by
    obtain ⟨h1, h2⟩ := readS_ok hf inp 0 [] ⟨fun x hx => by simp at hx, fun x hx => by simp at hx⟩ h0
    refine ⟨h1, ?_⟩
    simp at h2
    omega
  have HFT : Hid (fitsB g tb = true) := hf
  generalize parseS g tb inp = Q at *
  generalize readS g tb inp 0 [] = r at *
  obtain ⟨ia, ic, rfl⟩ := hI.slice
  clear hG hT hI hE hf
  have HB0 : Hid (Below w.heap.size w (boxT w g pv lv sv av ov cv)) := hB0
  have HBX : Hid (BoxG (boxT w g pv lv sv av ov cv) w.heap.size g pv lv sv) := hBX
  have HBT : Hid (BoxT (boxT w g pv lv sv av ov cv) (w.heap.size + 1) av ov cv) := hBT
  clear hB0 hBX hBT
  unfold gv gvs tvv tvs at *
  have HWB : Hid ((w.alloc (.cells #[.int .i64 g.terms, .int .i64 g.names, .int .i64 g.start, pv, lv, sv] 25)).alloc (.cells #[av, ov, cv] 30) = boxT w g pv lv sv av ov cv) := rfl
  generalize boxT w g pv lv sv av ov cv = W1 at *
  obtain ⟨q0, q1, q2, q3, q4, q5, q6⟩ := HBX.out
  obtain ⟨t0, t1, t2, t3⟩ := HBT.out
  generalize inp.length = Ni at *
  go_enter Tryd.func11, Tryd.ntmps11
  go_upto_region 1 with fail
  rw [HWB.out]
  go_wp2_with fail
  go_at_call 26
  refine (HRd.out _ HB0.out).mono ?_
  rintro e w2 ⟨hb2, a1, n1, c1, a2, n2, c2, us, rfl, HS2⟩
  have HB2 : Hid (Below w.heap.size w w2) := HB0.out.trans (hb2.mono HB0.out.size)
  have HX2 : Hid (BoxG w2 w.heap.size g pv lv sv) := HBX.out.below HBX.out.lt hb2
  have HT2 : Hid (BoxT w2 (w.heap.size + 1) av ov cv) := HBT.out.below HBT.out.lt hb2
  have HGE : Hid (W1.heap.size + 3 ≤ w2.heap.size ∨ ¬ r.1 = 0) := by
    by_cases h : r.1 = 0
    · left
      have h9 := HS2.out h
      have := (h9.st.form (by omega))
      obtain ⟨g', c', _, k1, k2⟩ := this
      omega
    · exact .inr h
  clear q0 q1 q2 q3 q4 q5 q6 t0 t1 t2 t3 hb2 HBX HBT HB0 HWB HRd
  by_cases hr0 : r.1 = 0
  · obtain ⟨hok, hln⟩ := HRO.out hr0
    have HQ : Hid (Q = if (setS g tb g.terms 10000 r.2.2).1 = 0 then (0, 0, ((setS g tb g.terms 10000 r.2.2).2.2.headD (nilT, 0)).1) else ((setS g tb g.terms 10000 r.2.2).1, Ni, nilT)) := by show _ = _; rw [HPS.out, if_pos hr0]
    have HST : Hid (StM (W1.heap.size + 3) w2 (.slice a1 n1 c1) (.slice a2 n2 c2) r.2.2 us) := HS2.out hr0
    have hge : W1.heap.size + 3 ≤ w2.heap.size := by
      rcases HGE.out with h | h
      · exact h
      · exact absurd hr0 h
    have hbA := alloc_below w2 (.cells #[.slice a1 n1 c1, .slice a2 n2 c2] 75)
    have HSC : Hid (Calls Tryd.prog 27 #[.agg #[.int .i64 g.terms, .int .i64 g.names, .int .i64 g.start, pv, lv, sv], .agg #[av, ov, cv], .agg #[.slice a1 n1 c1, .slice a2 n2 c2], .int .i64 g.terms] (w2.alloc (.cells #[.slice a1 n1 c1, .slice a2 n2 c2] 75)) fun e w'' => SetP (W1.heap.size + 3) (w2.alloc (.cells #[.slice a1 n1 c1, .slice a2 n2 c2] 75)) ab ar ae (setS g tb g.terms 10000 r.2.2) e w'') := HSet.out (W1.heap.size + 3) _ _ _ _ us (HB2.out.trans (hbA.mono HB2.out.size)) (Nat.le_trans hge hbA.size) (HST.out.below hbA) hok hln
    have HAC : Hid ((setS g tb g.terms 10000 r.2.2).1 = 0 → accB g (setS g tb g.terms 10000 r.2.2).2.2 = true) := fun h => setS_end HFT.out hok h
    generalize setS g tb g.terms 10000 r.2.2 = S at *
    have HB3 : Hid (Below w.heap.size w (w2.alloc (.cells #[.slice a1 n1 c1, .slice a2 n2 c2] 75))) := HB2.out.trans (hbA.mono HB2.out.size)
    obtain ⟨q0, q1, q2, q3, q4, q5, q6⟩ := HX2.out
    obtain ⟨t0, t1, t2, t3⟩ := HT2.out
    have hev : errV ab ar ae r.1 = .nilIface := by rw [hr0]; rfl
    rw [hev]
    clear hev HSet HPS HRO hok hln HS2 HGE hbA
    go_wp2_with fail
    go_at_call 27
    refine HSC.out.mono ?_
    rintro e w4 ⟨hb4, xs', xt', us', rfl, hst⟩
    have HB4 : Hid (Below w.heap.size w w4) := HB3.out.trans (hb4.mono HB3.out.size)
    obtain ⟨gs', cs', rfl, _, _, _, _⟩ := hst.states
    obtain ⟨ta', tc', rfl, hul, hxt⟩ := hst.trees
    clear q0 q1 q2 q3 q4 q5 q6 t0 t1 t2 t3 HSC
    by_cases hs0 : S.1 = 0
    · have HQ2 : Hid (Q = (0, 0, (S.2.2.headD (nilT, 0)).1)) := by show _ = _; rw [HQ.out, if_pos hs0]
      obtain ⟨x, hx⟩ : ∃ x, S.2.2 = [x] := by
        have hacc := HAC.out hs0
        match hσ : S.2.2, hacc with
        | [], h => simp [accB] at h
        | [x], _ => exact ⟨x, rfl⟩
        | x :: y :: r, h => simp [accB] at h
      have hl1 : S.2.2.length = 1 := by rw [hx]; rfl
      have htr := (hst.tr.2.2 0 (by rw [trL_len]; omega)).2
      obtain ⟨⟨tl, htl⟩, _⟩ := hst.tr.2.2 0 (by rw [trL_len]; omega)
      rw [hl1] at hxt
      obtain ⟨gt, rfl, hgt, _, _, hxc⟩ : ∃ g, ta' = some ⟨g, 0, none⟩ ∧ g < w4.heap.size ∧ 1 ≤ tc' ∧ tc' ≤ maxLen ∧ ∀ j, j < 1 → w4.cell? ⟨g, j, none⟩ = some (us'.getD j .nilFunc) := by
        rcases hxt with ⟨_, _, h⟩ | h
        · omega
        · exact h
      have z0 := hxc 0 (by omega)
      rw [htl] at z0 htr
      have HTr : Hid (Tree (fun _ => True) w4 (.pointer (some ⟨tl, 0, none⟩)) x.1) := by
        have e9 : (trL S.2.2).getD 0 nilT = x.1 := by rw [hx]; rfl
        rw [e9] at htr
        exact htr.imp fun _ _ _ => trivial
      have HQ3 : Hid (Q = (0, 0, x.1)) := by show _ = _; rw [HQ2.out, hx]; rfl
      rw [hs0, show errV ab ar ae 0 = .nilIface from rfl, hl1]
      clear hxc htr hst hxt hb4
      have HB5 : Hid (Below w4.heap.size w4 (w4.alloc (.cells #[.slice (some ⟨gs', 0, none⟩) (1 + 1) cs', .slice (some ⟨gt, 0, none⟩) 1 tc'] 75))) := alloc_below _ _
      go_wp2_with fail
      go_ret3
      exact ⟨HB4.out.trans (HB5.out.mono HB4.out.size), .inl ⟨by rw [HQ3.out], tl, rfl, by rw [HQ3.out]; exact HTr.out.moved HB5.out.size fun b hb hok => ⟨trivial, HB5.out.block b hb⟩⟩⟩
    · have HQ2 : Hid (Q = (S.1, Ni, nilT)) := by show _ = _; rw [HQ.out, if_neg hs0]
      obtain ⟨z, hz⟩ := errV_some ab ar ae S.1 hs0
      have HZ : Hid (errV ab ar ae S.1 = .iface 137 (.pointer (some z))) := hz
      rw [hz]
      clear hst hxt hz
      generalize S.2.2.length = N' at *
      have HB5 : Hid (Below w4.heap.size w4 (w4.alloc (.cells #[.slice (some ⟨gs', 0, none⟩) (N' + 1) cs', .slice ta' N' tc'] 75))) := alloc_below _ _
      go_wp2_with fail
      go_ret3
      exact ⟨HB4.out.trans (HB5.out.mono HB4.out.size), .inr ⟨by rw [HQ2.out]; exact hs0, by rw [HQ2.out]; simp only; rw [HZ.out]; rfl⟩⟩
  · have HQ2 : Hid (Q = (r.1, r.2.1, nilT)) := by show _ = _; rw [HPS.out, if_neg hr0]
    obtain ⟨z, hz⟩ := errV_some ab ar ae r.1 hr0
    have HZ : Hid (errV ab ar ae r.1 = .iface 137 (.pointer (some z))) := hz
    rw [hz, if_neg hr0]
    clear hz HS2
    have HB5 : Hid (Below w2.heap.size w2 (w2.alloc (.cells #[.slice a1 n1 c1, .slice a2 n2 c2] 75))) := alloc_below _ _
    go_wp2_with fail
    go_ret3
    exact ⟨HB2.out.trans (HB5.out.mono HB2.out.size), .inr ⟨by rw [HQ2.out]; exact hr0, by rw [HQ2.out]; simp only; rw [HZ.out]; rfl⟩⟩

end Go.Proofs.YtdihdnhofgjhnaaDoor
