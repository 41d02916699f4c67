/- Texts of the proof, put together: YRnx. -/
import Derived.Test.YtdihdnhofgjhnaaDoorPy34
namespace Go.Proofs.YtdihdnhofgjhnaaDoor
open Go.RowKit
set_option linter.unusedVariables false
set_option maxRecDepth 100000

theorem ints_of_own {w : World} {B n : Nat} {v : Value} {l : List Int} (h : w.ownsRow B 3 1 v n (intV l)) : IntsR w v l := by
  have hl : l.length = n := by have := h.1; simpa [intV_len] using this
  obtain ⟨a, c, rfl⟩ := own_sliceE h
  have hcap : n ≤ c := by
    rcases h.2 with ⟨e, h0⟩ | ⟨g, cap, cur, e, _, _, hc, _⟩
    · omega
    · simp only [Value.slice.injEq] at e; omega
  refine ⟨a, c, by rw [hl], by omega, ?_⟩
  rcases Nat.eq_zero_or_pos n with h0 | h0
  · exact .inl (List.eq_nil_of_length_eq_zero (by omega))
  · obtain ⟨g, c', e, h1, h2⟩ := h.form h0
    simp only [Value.slice.injEq, true_and] at e
    obtain ⟨rfl, rfl⟩ := e
    refine .inr ⟨g, 0, rfl, h2, fun j hj => ?_⟩
    rw [Nat.zero_add, own_cellE h (by omega), intV_get _ _ hj]
theorem nextUp_len (g : Gm) (tb : Tb) (σ : Pl) : ∀ k, (nextUp g tb σ k).length ≤ k
  | 0 => by simp [nextUp]
  | k + 1 => by
    have := nextUp_len g tb σ k
    rw [nextUp]
    split <;> simp <;> omega
theorem intV_snoc (l : List Int) (x : Int) : intV (l ++ [x]) = intV l ++ [.int .i64 x] := by simp [intV]

set_option maxHeartbeats 8000000 in
theorem rnext_any (g : Gm) (pv lv sv : Value) (tb : Tb) (av ov cv iv : Value) (ab ar ae : Addr) (inp : List Int) (w : World) (hf : fitsB g tb = true) (hG : GrM w g pv lv sv) (hT : TbM w tb av ov cv) (hI : IntsR w iv inp) (hlen : inp.length ≤ 80) (hE : ErG w ab ar ae) :
    Calls Tryd.prog 15 #[gv g pv lv sv, tvv av ov cv, iv] w fun e w' => Below w.heap.size w w' ∧ ∃ v, e = .returned v ∧ IntsR w' v (nextS g tb inp) := by
  obtain ⟨hB0, hBX, hBT⟩ := boxT_all w g pv lv sv av ov cv
  obtain ⟨i1, hi0, hi1, hi2, hi3⟩ := info_parts Tryd.infoIntY
  have hTT : 0 ≤ g.terms ∧ g.terms ≤ 300 := by
    have h := (fits_parts hf).1
    unfold gOkB at h
    simp only [Bool.and_eq_true, decide_eq_true_eq] at h
    exact ⟨h.1.1, h.1.2.1⟩
  have HRd : Hid (∀ w', Below w.heap.size w w' → Calls Tryd.prog 26 #[gv g pv lv sv, tvv av ov cv, iv] w' fun e w'' => Below w'.heap.size w' w'' ∧ ∃ a1 n1 c1 a2 n2 c2 us, e = .returned (.tuple #[.agg #[.slice a1 n1 c1, .slice a2 n2 c2], errV ab ar ae (readS g tb inp 0 []).1, .int .i64 (if (readS g tb inp 0 []).1 = 0 then 0 else (readS g tb inp 0 []).2.1)]) ∧ Hid ((readS g tb inp 0 []).1 = 0 → StM (w'.heap.size + 3) w'' (.slice a1 n1 c1) (.slice a2 n2 c2) (readS g tb inp 0 []).2.2 us)) := fun w' hb => rread_any g pv lv sv tb av ov cv iv ab ar ae inp w' hf (hG.below hb) (hT.below hb) (hI.below hb) hlen (hE.below hb)
  have HSet : Hid (∀ B w' xs xt σ us t, Below w.heap.size w w' → B ≤ w'.heap.size → StM B w' xs xt σ us → PlOk g tb σ → σ.length ≤ 900000 → 0 ≤ t ∧ t ≤ g.terms → Calls Tryd.prog 27 #[gv g pv lv sv, tvv av ov cv, .agg #[xs, xt], .int .i64 t] w' fun e w'' => SetP B w' ab ar ae (setS g tb t 10000 σ) e w'') := fun B w' xs xt σ us t hb hs h1 h2 h3 h4 => rset_any g pv lv sv tb av ov cv xs xt ab ar ae B σ us t w' hf (hG.below hb) (hT.below hb) h1 h2 hs h3 h4 (hE.below hb)
  have HPS : Hid (nextS g tb inp = if (readS g tb inp 0 []).1 = 0 then nextUp g tb (readS g tb inp 0 []).2.2 (g.terms.toNat + 1) else []) := rfl
  have HRO : Hid ((readS g tb inp 0 []).1 = 0 → PlOk g tb (readS g tb inp 0 []).2.2 ∧ (readS g tb inp 0 []).2.2.length ≤ 900000) := fun h0 => by
    obtain ⟨h1, h2⟩ := readS_ok hf inp 0 [] ⟨fun x hx => by simp at hx, fun x hx => by simp at hx⟩ h0
    refine ⟨h1, ?_⟩
    simp at h2
    omega
  generalize nextS g tb inp = Q at *
  generalize readS g tb inp 0 [] = r at *
  obtain ⟨ia, ic, rfl⟩ := hI.slice
  obtain ⟨hT0, hT1⟩ := hTT
  clear hG hT hI hE hf
  have HB0 : Hid (Below w.heap.size w (boxT w g pv lv sv av ov cv)) := hB0
  have HBX : Hid (BoxG (boxT w g pv lv sv av ov cv) w.heap.size g pv lv sv) := hBX
  have HBT : Hid (BoxT (boxT w g pv lv sv av ov cv) (w.heap.size + 1) av ov cv) := hBT
  clear hB0 hBX hBT
  unfold gv gvs tvv tvs at *
  have HWB : Hid ((w.alloc (.cells #[.int .i64 g.terms, .int .i64 g.names, .int .i64 g.start, pv, lv, sv] 25)).alloc (.cells #[av, ov, cv] 30) = boxT w g pv lv sv av ov cv) := rfl
  generalize boxT w g pv lv sv av ov cv = W1 at *
  obtain ⟨q0, q1, q2, q3, q4, q5, q6⟩ := HBX.out
  obtain ⟨t0, t1, t2, t3⟩ := HBT.out
  generalize inp.length = Ni at *
  go_enter Tryd.func15, Tryd.ntmps15
  go_upto_region 1 with fail
  rw [HWB.out]
  go_wp2_with fail
  go_at_call 26
  refine (HRd.out _ HB0.out).mono ?_
  rintro e w2 ⟨hb2, a1, n1, c1, a2, n2, c2, us, rfl, HS2⟩
  have hbA := alloc_below w2 (.cells #[.slice a1 n1 c1, .slice a2 n2 c2] 75)
  have HB2 : Hid (Below w.heap.size w (w2.alloc (.cells #[.slice a1 n1 c1, .slice a2 n2 c2] 75))) := (HB0.out.trans (hb2.mono HB0.out.size)).trans (hbA.mono (Nat.le_trans HB0.out.size hb2.size))
  have hb3 := hb2.trans (hbA.mono hb2.size)
  have HX2 : Hid (BoxG (w2.alloc (.cells #[.slice a1 n1 c1, .slice a2 n2 c2] 75)) w.heap.size g pv lv sv) := HBX.out.below HBX.out.lt hb3
  have HT2 : Hid (BoxT (w2.alloc (.cells #[.slice a1 n1 c1, .slice a2 n2 c2] 75)) (w.heap.size + 1) av ov cv) := HBT.out.below HBT.out.lt hb3
  have HXX : Hid (BoxX (w2.alloc (.cells #[.slice a1 n1 c1, .slice a2 n2 c2] 75)) w2.heap.size (.slice a1 n1 c1) (.slice a2 n2 c2)) := ⟨by simp, heap_alloc_new _ _⟩
  have HS3 : Hid (r.1 = 0 → StM (W1.heap.size + 3) (w2.alloc (.cells #[.slice a1 n1 c1, .slice a2 n2 c2] 75)) (.slice a1 n1 c1) (.slice a2 n2 c2) r.2.2 us) := fun h => (HS2.out h).below hbA
  clear q0 q1 q2 q3 q4 q5 q6 t0 t1 t2 t3 hb2 hb3 hbA HBX HBT HB0 HWB HRd HS2
  by_cases hr0 : r.1 = 0
  · obtain ⟨hok, hln⟩ := HRO.out hr0
    have HOK : Hid (PlOk g tb r.2.2) := hok
    have HQ : Hid (Q = nextUp g tb r.2.2 (g.terms.toNat + 1)) := by show _ = _; rw [HPS.out, if_pos hr0]
    have HST : Hid (StM (W1.heap.size + 3) (w2.alloc (.cells #[.slice a1 n1 c1, .slice a2 n2 c2] 75)) (.slice a1 n1 c1) (.slice a2 n2 c2) r.2.2 us) := HS3.out hr0
    have hev : errV ab ar ae r.1 = .nilIface := by rw [hr0]; rfl
    rw [hev]
    clear hev HPS HRO hok HS3
    generalize r.2.2 = σ at *
    have HW2 : Hid (∀ W2 : World, W2 = W2) := fun _ => rfl
    go_wp2_with fail
    generalize w2.alloc (.cells #[.slice a1 n1 c1, .slice a2 n2 c2] 75) = W2 at *
    generalize w2.heap.size = X at *
    go_loopw [7, 11] (fun lv' kv wr => ∃ (k : Nat), (k : Int) ≤ g.terms + 1 ∧ kv = .int .i64 k ∧ Hid (wr.ownsRow W2.heap.size 3 1 lv' (nextUp g tb σ k).length (intV (nextUp g tb σ k))) ∧ Hid (Below W2.heap.size W2 wr)) (fun _ kv _ => g.terms.toNat + 1 - (intOf kv).toNat)
    case atStart => exact ⟨0, by omega, rfl, ⟨rfl, .inl ⟨rfl, rfl⟩⟩, Below.refl _ _⟩
    case round =>
      obtain ⟨k, hk, rfl, HO, HBW⟩ := hrel
      obtain ⟨la, lc, rfl⟩ := own_sliceE HO.out
      have hbw := HB2.out.trans (HBW.out.mono HB2.out.size)
      obtain ⟨q0, q1, q2, q3, q4, q5, q6⟩ := HX2.out.below HX2.out.lt HBW.out
      obtain ⟨t0, t1, t2, t3⟩ := HT2.out.below HT2.out.lt HBW.out
      have hXb := HXX.out.below HXX.out.lt HBW.out
      have x0 := hXb.c0
      have x1 := hXb.c1
      have xl := hXb.lt
      clear hXb
      by_cases hlt : (k : Int) ≤ g.terms
      · have hst := HST.out.below HBW.out
        have hge : W1.heap.size + 3 ≤ wr.heap.size := by
          obtain ⟨g', c', _, k1, k2⟩ := hst.st.form (by omega)
          omega
        have HSC : Hid (Calls Tryd.prog 27 #[.agg #[.int .i64 g.terms, .int .i64 g.names, .int .i64 g.start, pv, lv, sv], .agg #[av, ov, cv], .agg #[.slice a1 n1 c1, .slice a2 n2 c2], .int .i64 k] wr fun e w'' => ∃ b1 m1 d1 b2 m2 d2, e = .returned (.tuple #[.agg #[.slice b1 m1 d1, .slice b2 m2 d2], .int .i64 (setS g tb k 10000 σ).2.1, errV ab ar ae (setS g tb k 10000 σ).1]) ∧ Hid (Below wr.heap.size wr w'')) := by
          refine (HSet.out (W1.heap.size + 3) wr _ _ σ us k hbw hge hst HOK.out hln ⟨by omega, hlt⟩).mono ?_
          rintro e w' ⟨h1, xs', xt', us', rfl, h2⟩
          obtain ⟨gs', cs', rfl, _, _, _, _⟩ := h2.states
          obtain ⟨ta', tc', rfl, _, _⟩ := h2.trees
          exact ⟨_, _, _, _, _, _, rfl, h1⟩
        have HNU : Hid (nextUp g tb σ (k + 1) = nextUp g tb σ k ++ (if (setS g tb k 10000 σ).1 = 0 then [(k : Int)] else [])) := rfl
        have hnl := nextUp_len g tb σ k
        generalize setS g tb k 10000 σ = S at *
        generalize hLe : nextUp g tb σ k = L at *
        clear hLe hst
        have hsz := HBW.out.size
        go_wp2_with fail
        go_at_call 27
        refine HSC.out.mono ?_
        rintro e w3 ⟨b1, m1, d1, b2, m2, d2, rfl, HB3⟩
        have hbA := alloc_below w3 (.cells #[.slice b1 m1 d1, .slice b2 m2 d2] 75)
        have HB4 : Hid (Below wr.heap.size wr (w3.alloc (.cells #[.slice b1 m1 d1, .slice b2 m2 d2] 75))) := HB3.out.trans (hbA.mono HB3.out.size)
        have HO4 : Hid ((w3.alloc (.cells #[.slice b1 m1 d1, .slice b2 m2 d2] 75)).ownsRow W2.heap.size 3 1 (.slice la L.length lc) L.length (intV L)) := own_belowE HO.out HB4.out
        clear q0 q1 q2 q3 q4 q5 q6 t0 t1 t2 t3 x0 x1 xl hbA HSC
        by_cases hs0 : S.1 = 0
        · have HN2 : Hid (nextUp g tb σ (k + 1) = L ++ [(k : Int)]) := by show _ = _; rw [HNU.out, if_pos hs0]
          rw [hs0, show errV ab ar ae 0 = .nilIface from rfl]
          go_upto_region 7 with fail
          generalize w3.alloc (.cells #[.slice b1 m1 d1, .slice b2 m2 d2] 75) = W4 at *
          have hs4 := HB4.out.size
          go_wp2_with (at_builtin; refine wpList_append_lies _ rfl _ _ 23 rfl W2.heap.size 3 i1 (.int .i64 0) 1 8 Tryd.underlying23 hi0 hi1 hi2 hi3 rfl (by decide) (.slice la L.length lc) L.length (intV L) rfl (World.ownsRow.alloc HO4.out _) ⟨W4.heap.size, 0, none⟩ 1 1 [.int .i64 k] rfl rfl (cell_one_new W4 _ _) (by intro x hx; simp at hx; subst hx; rfl) (by omega) (by unfold maxLen; omega) (by omega) (by simp; omega) (W4.heap.size + 1) (by simp) ?_)
          intro g9 cap9 w9 hown9 hg9 hat9 hlt9
          have HO9 : Hid (w9.ownsRow W2.heap.size 3 1 (.slice (some ⟨g9, 0, none⟩) (L.length + 1) cap9) (nextUp g tb σ (k + 1)).length (intV (nextUp g tb σ (k + 1)))) := by
            rw [HN2.out, intV_snoc, List.length_append]
            exact hown9
          have HB9 : Hid (Below W2.heap.size W2 w9) := below_grownY (HBW.out.trans (HB4.out.mono hsz)) hg9 (fun b e => (HO4.out.lt b e).1) (by omega)
          clear hown9 hg9 hat9 hlt9 HO4 HO
          go_wp2_with fail
          go_roundw
          case rel => exact ⟨k + 1, by omega, by go_num, HO9, HB9⟩
          case measure => simp [intOf]; omega
        · have HN2 : Hid (nextUp g tb σ (k + 1) = L) := by show _ = _; rw [HNU.out, if_neg hs0, List.append_nil]
          obtain ⟨z, hz⟩ := errV_some ab ar ae S.1 hs0
          rw [hz]
          clear hz
          go_wp2_with fail
          generalize w3.alloc (.cells #[.slice b1 m1 d1, .slice b2 m2 d2] 75) = W4 at *
          go_roundw
          case rel => exact ⟨k + 1, by omega, by go_num, (by rw [HN2.out]; exact HO4), HBW.out.trans (HB4.out.mono hsz)⟩
          case measure => simp [intOf]; omega
      · have HKE : Hid (k = g.terms.toNat + 1) := by show _ = _; omega
        go_wp2_with fail
        go_ret
        refine ⟨hbw, _, rfl, ?_⟩
        rw [HQ.out, ← HKE.out]
        exact ints_of_own HO.out
  · have HQ : Hid (Q = []) := by show _ = _; rw [HPS.out, if_neg hr0]
    obtain ⟨z, hz⟩ := errV_some ab ar ae r.1 hr0
    rw [hz]
    clear hz HS3
    obtain ⟨q0, q1, q2, q3, q4, q5, q6⟩ := HX2.out
    go_wp2_with fail
    generalize w2.alloc (.cells #[.slice a1 n1 c1, .slice a2 n2 c2] 75) = W2 at *
    refine wp_loop_rounds 1 ?_
    rw [rounds_succ]
    have d0 : decide ((0 : Int) ≤ g.terms) = true := decide_eq_true hT0
    go_wp2_with fail
    go_ret
    exact ⟨HB2.out, _, rfl, by rw [HQ.out]; exact ⟨none, 0, rfl, by simp, .inl rfl⟩⟩

end Go.Proofs.YtdihdnhofgjhnaaDoor
