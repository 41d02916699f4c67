/- The program's Cost. -/
import Derived.Test.YtnakafgbalkciaaCPrg
namespace Go.Proofs.Ytnakafgbalkciaa
open Go.RowKit
set_option linter.unusedVariables false
set_option maxRecDepth 100000

theorem insB_mono {m n : Nat} {l : List Int} (h : insB m l = true) (hmn : m ≤ n) : insB n l = true := by
  unfold insB at *
  rw [List.all_eq_true] at *
  intro z hz
  have := h z hz
  simp at this ⊢
  omega

set_option maxHeartbeats 8000000 in
theorem pCost_any (put leave fr to : List Int) (pv lv fv tv : Value) (w : World) (hza : fr.length ≤ 40) (hzt : to.length ≤ 40) (hzp : put.length ≤ 10) (hzl : leave.length ≤ 10)
    (hp : IntsR w pv put) (hl : IntsR w lv leave) (hf : IntsR w fv fr) (ht : IntsR w tv to) :
    Calls Try.prog 5 #[.agg #[pv, lv], fv, tv] w fun e w' => e = .returned (.int .i64 (costS put leave fr to)) ∧ Below w.heap.size w w' := by
  have hB0 := boxC_below w pv lv
  have hB1 := boxC_size w pv lv
  have hB2 := boxC_box w pv lv
  have hH := holds_any put leave pv lv (boxC w pv lv) hzp hzl (hp.below hB0) (hl.below hB0)
  have HM : Hid (∀ (v : Value) (l : List Int) (wx : World), IntsR w v l → l.length ≤ 40 → Below w.heap.size w wx → Calls Try.prog 8 #[v, .int .i64 ((min put.length leave.length : Nat) : Int)] wx fun e w' => e = .returned (.bool (insB (min put.length leave.length) l)) ∧ Below wx.heap.size wx w') := fun v l wx hv hz hb => mendable_any l v _ wx (by omega) (by omega) (hv.below hb)
  have HLC : Hid (∀ wx, costsB put = true → costsB leave = true → insB (min put.length leave.length) fr = true → insB (min put.length leave.length) to = true → Below w.heap.size w wx → Calls Try.prog 9 #[.agg #[pv, lv], fv, tv] wx fun e w' => e = .returned (.int .i64 (dist (costP put) (costP leave) fr to)) ∧ Below wx.heap.size wx w') := fun wx h1 h2 h3 h4 hb =>
    leastCost_any put leave fr to pv lv fv tv wx h1 h2 (insB_mono h3 (by omega)) (insB_mono h4 (by omega)) hza hzt hzp hzl (hp.below hb) (hl.below hb) (hf.below hb) (ht.below hb)
  have HMf := HM.out fv fr
  have HMt := HM.out tv to
  have HM1 : Hid (∀ wx, Below w.heap.size w wx → Calls Try.prog 8 #[fv, .int .i64 ((min put.length leave.length : Nat) : Int)] wx fun e w' => e = .returned (.bool (insB (min put.length leave.length) fr)) ∧ Below wx.heap.size wx w') := fun wx hb => HMf wx hf hza hb
  have HM2 : Hid (∀ wx, Below w.heap.size w wx → Calls Try.prog 8 #[tv, .int .i64 ((min put.length leave.length : Nat) : Int)] wx fun e w' => e = .returned (.bool (insB (min put.length leave.length) to)) ∧ Below wx.heap.size wx w') := fun wx hb => HMt wx ht hzt hb
  clear HM HMf HMt
  have HBX : Hid (BoxC (boxC w pv lv) w.heap.size pv lv) := hB2
  obtain ⟨pa, pc, rfl⟩ := hp.slice
  obtain ⟨la, lc, rfl⟩ := hl.slice
  obtain ⟨fa, fc, rfl⟩ := hf.slice
  obtain ⟨ta, tc, rfl⟩ := ht.slice
  clear hp hl hf ht
  have HS : Hid (costS put leave fr to = if costsB put && costsB leave && insB (min put.length leave.length) fr && insB (min put.length leave.length) to then dist (costP put) (costP leave) fr to else -1) := rfl
  generalize costS put leave fr to = R at *
  have hmn : min (put.length : Int) (leave.length : Int) = ((min put.length leave.length : Nat) : Int) := by omega
  generalize min put.length leave.length = n at *
  obtain ⟨q0, q1, q2⟩ := hB2
  have HB1 : Hid ((boxC w (.slice pa put.length pc) (.slice la leave.length lc)).heap.size = w.heap.size + 1) := hB1
  clear hB1
  unfold boxC at *
  generalize dist (costP put) (costP leave) fr to = z at *
  generalize costsB put = b1 at *
  generalize costsB leave = b2 at *
  by_cases hb : (b1 && b2) = true
  · obtain ⟨rfl, rfl⟩ : b1 = true ∧ b2 = true := by simpa using hb
    go_enter Try.func5, Try.ntmps5
    go_wp2_with fail
    refine hH.mono ?_
    rintro e w2 ⟨rfl, hb2⟩
    have hbb := hB0.trans (hb2.mono (by rw [HB1.out]; omega))
    have HBX2 : Hid (BoxC w2 w.heap.size (.slice pa put.length pc) (.slice la leave.length lc)) := HBX.out.below (K := w.heap.size + 1) (Nat.lt_succ_self _) (by rw [← HB1.out]; exact hb2)
    have hb2s : w.heap.size + 1 ≤ w2.heap.size := by have := hb2.size; rw [HB1.out] at this; exact this
    clear hH q0 q1 q2 hb2 hB0
    have hC := HM1.out w2 hbb
    generalize insB n fr = b3 at *
    cases b3
    · have HSf : Hid (R = -1) := by show _ = _; rw [HS.out]; rfl
      go_wp2_with fail
      refine hC.mono ?_
      rintro e w3 ⟨rfl, hb3⟩
      have hbb3 := hbb.trans (hb3.mono hbb.size)
      clear hC hb3
      go_wp2
      go_ret
      exact ⟨by rw [HSf.out]; rfl, hbb3⟩
    · go_wp2_with fail
      refine hC.mono ?_
      rintro e w3 ⟨rfl, hb3⟩
      have hbb3 := hbb.trans (hb3.mono hbb.size)
      have HBX3 : Hid (BoxC w3 w.heap.size (.slice pa put.length pc) (.slice la leave.length lc)) := HBX2.out.below (K := w2.heap.size) (by omega) hb3
      have hb3s : w.heap.size + 1 ≤ w3.heap.size := Nat.le_trans hb2s hb3.size
      clear hC hb3 hb2s hbb
      have hC := HM2.out w3 hbb3
      generalize insB n to = b4 at *
      cases b4
      · have HSf : Hid (R = -1) := by show _ = _; rw [HS.out]; rfl
        go_wp2_with fail
        refine hC.mono ?_
        rintro e w4 ⟨rfl, hb4⟩
        have hbb4 := hbb3.trans (hb4.mono hbb3.size)
        clear hC hb4
        go_wp2
        go_ret
        exact ⟨by rw [HSf.out]; rfl, hbb4⟩
      · have HSf : Hid (R = z) := by show _ = _; rw [HS.out]; rfl
        go_wp2_with fail
        refine hC.mono ?_
        rintro e w4 ⟨rfl, hb4⟩
        have hbb4 := hbb3.trans (hb4.mono hbb3.size)
        obtain ⟨r0, r1, r2⟩ := HBX3.out.below (K := w3.heap.size) (by omega) hb4
        have hC2 := HLC.out w4 (by simp) (by simp) (by simp) (by simp) hbb4
        clear hC hb4 hbb3 hb3s
        go_wp2_with fail
        refine hC2.mono ?_
        rintro e w5 ⟨rfl, hb5⟩
        have hbb5 := hbb4.trans (hb5.mono hbb4.size)
        clear hC2 hb5
        go_wp2
        go_ret
        exact ⟨by rw [HSf.out]; rfl, hbb5⟩
  · have hbf : (b1 && b2) = false := by simpa using hb
    have HSf : Hid (R = -1) := by show _ = _; rw [HS.out, hbf]; rfl
    rw [hbf] at hH
    clear hb hbf
    go_enter Try.func5, Try.ntmps5
    go_wp2_with fail
    refine hH.mono ?_
    rintro e w2 ⟨rfl, hb2⟩
    have hbb := hB0.trans (hb2.mono (by rw [HB1.out]; omega))
    clear hH q0 q1 q2 hb2 hB0
    go_wp2
    go_ret
    exact ⟨by rw [HSf.out]; rfl, hbb⟩

end Go.Proofs.Ytnakafgbalkciaa
