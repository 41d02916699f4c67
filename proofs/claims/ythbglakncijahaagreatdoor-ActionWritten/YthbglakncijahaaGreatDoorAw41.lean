/- Texts of the proof, put together: PRowE. -/
import Derived.Test.YthbglakncijahaaGreatDoorAw39
namespace Go.Proofs.YthbglakncijahaaGreatDoor
open Go.RowKit
set_option linter.unusedVariables false
set_option maxRecDepth 100000

set_option maxHeartbeats 8000000 in
theorem oper_1 {w : World} {b c : Nat} {num : Int} {text : ByteArray} {a : Option Addr} {k0 k1 : Ex} (h : ExM w b 7 num text a 2 c) (hK : KiC w a [k0, k1]) (hl0 : (wrU k0 2).length ≤ 200000) (hl1 : (wrU k1 2).length ≤ 200000) (ht : text.size ≤ 200000) (hv : lvlP text.toList = 1) : Calls Tryz.prog 101 #[.pointer (some ⟨b, 0, none⟩)] w fun e w' => e = .returned (.string (baLw (wrU k0 2 ++ ([32] ++ (text.data.toList ++ ([32] ++ wrU k1 2)))))) ∧ Below w.heap.size w w' := by
  obtain ⟨g, off, u0, rfl, hg, cu0, hC0⟩ := hK.one (i := 0) (by simp)
  obtain ⟨g1, off1, u1, e1, hg1, cu1, hC1⟩ := hK.one (i := 1) (by simp)
  simp only [Option.some.injEq, Addr.mk.injEq, and_true] at e1
  obtain ⟨rfl, rfl⟩ := e1
  rw [Nat.add_zero] at cu0
  have HL : Hid (∀ w, Calls Tryz.prog 94 #[.string text] w fun e w' => e = .returned (.int .i64 1) ∧ w' = w) := fun w => by have := level_any text w; rw [hv] at this; exact this
  have H0 : Hid (∀ W u, Below w.heap.size w W → u = u0 → Calls Tryz.prog 28 #[u, .int .i64 2] W fun e w' => e = .returned (.string (baLw (wrU k0 2))) ∧ Below w.heap.size w w') := fun W u hW hu => by subst hu; exact (hC0 W hW 2 (by omega)).mono (by rintro e w' ⟨q1, q2⟩; exact ⟨q1, hW.trans (q2.mono hW.size)⟩)
  have H1 : Hid (∀ W u, Below w.heap.size w W → u = u1 → Calls Tryz.prog 28 #[u, .int .i64 2] W fun e w' => e = .returned (.string (baLw (wrU k1 2))) ∧ Below w.heap.size w w') := fun W u hW hu => by subst hu; exact (hC1 W hW 2 (by omega)).mono (by rintro e w' ⟨q1, q2⟩; exact ⟨q1, hW.trans (q2.mono hW.size)⟩)
  have htl : text.data.toList.length = text.size := by rw [Array.length_toList]; rfl
  have HJ : Hid (∀ w1, Below w.heap.size w w1 → Calls Tryz.prog 51 #[.slice (some ⟨w1.heap.size, 0, none⟩) 5 5] (w1.alloc (.cells #[.string (baLw (wrU k0 2)), .string ⟨#[32]⟩, .string text, .string ⟨#[32]⟩, .string (baLw (wrU k1 2))] 9)) fun e w' => e = .returned (.string (baLw (wrU k0 2 ++ ([32] ++ (text.data.toList ++ ([32] ++ wrU k1 2)))))) ∧ Below w.heap.size w w') := fun w1 hb => by
    have hf : flatU [baLw (wrU k0 2), ⟨#[32]⟩, text, ⟨#[32]⟩, baLw (wrU k1 2)] = wrU k0 2 ++ ([32] ++ (text.data.toList ++ ([32] ++ wrU k1 2))) := by simp [flatU, baLw]
    have := joined_new (w := w1) [baLw (wrU k0 2), ⟨#[32]⟩, text, ⟨#[32]⟩, baLw (wrU k1 2)] (by unfold sumU; rw [hf]; simp only [List.length_append, List.length_cons, List.length_nil]; omega) (by simp)
    rw [hf] at this
    refine Calls.mono this ?_
    rintro e w' ⟨q1, q2⟩
    exact ⟨q1, hb.trans (q2.mono hb.size)⟩
  obtain ⟨hlt, c0, c1, c2, c3⟩ := h
  obtain ⟨res, hR⟩ : ∃ res, wrU k0 2 ++ ([32] ++ (text.data.toList ++ ([32] ++ wrU k1 2))) = res := ⟨_, rfl⟩
  rw [hR] at HJ
  rw [hR]
  obtain ⟨tx0, hT0⟩ : ∃ tx, baLw (wrU k0 2) = tx := ⟨_, rfl⟩
  rw [hT0] at HJ H0
  obtain ⟨tx1, hT1⟩ : ∃ tx, baLw (wrU k1 2) = tx := ⟨_, rfl⟩
  rw [hT1] at HJ H1
  clear hK hR htl hT0 hC0 hl0 hT1 hC1 hl1 hv
  go_enter Tryz.func101, Tryz.ntmps101
  go_wp2_with fail
  go_at_call 94
  refine (HL.out _).mono ?_
  rintro e wq ⟨rfl, hwq⟩
  obtain rfl := hwq.symm
  clear hwq HL
  go_wp2_with fail
  go_region_held3 (fun w' => w'.cell? ⟨b, 2, none⟩ = some (.string text) ∧ w'.cell? ⟨b, 3, none⟩ = some (.slice (some ⟨g, off, none⟩) 2 c) ∧ w'.cell? ⟨g, off, none⟩ = some u0 ∧ w'.cell? ⟨g, off + 1, none⟩ = some u1) (go_keep) ((first | (go_at_call 51; refine (HJ.out _ (by first | exact hb1 | exact hb1.drew | exact hb1.drew.drew)).mono ?_; rintro e vz ⟨rfl, hbz⟩; have z0 := cell_later hbz c2; have z1 := cell_later hbz c3; have z2 := cell_later hbz cu0; have z3 := cell_later hbz cu1) | (have hq1 := hb0; go_at_call 28; refine (H1.out _ _ (by first | exact hb0 | exact hb0.drew | exact hb0.drew.drew) rfl).mono ?_; rintro e v1 ⟨rfl, hb1⟩; have f10 := cell_later hb1 c2; have f11 := cell_later hb1 c3; have f12 := cell_later hb1 cu0; have f13 := cell_later hb1 cu1; have fs1 := hb1.size; have fl1 : b < v1.heap.size := (by omega); have fg1 : g < v1.heap.size := (by omega)) | (go_at_call 28; refine (H0.out _ _ (Below.refl _ _).drew rfl).mono ?_; rintro e v0 ⟨rfl, hb0⟩; have f00 := cell_later hb0 c2; have f01 := cell_later hb0 c3; have f02 := cell_later hb0 cu0; have f03 := cell_later hb0 cu1; have fs0 := hb0.size; have fl0 : b < v0.heap.size := (by omega); have fg0 : g < v0.heap.size := (by omega))))
  all_goals
    go_wp2
    go_ret
    exact ⟨rfl, hbz⟩
set_option maxHeartbeats 8000000 in
theorem oper_2 {w : World} {b c : Nat} {num : Int} {text : ByteArray} {a : Option Addr} {k0 k1 : Ex} (h : ExM w b 7 num text a 2 c) (hK : KiC w a [k0, k1]) (hl0 : (wrU k0 2).length ≤ 200000) (hl1 : (wrU k1 3).length ≤ 200000) (ht : text.size ≤ 200000) (hv : lvlP text.toList = 2) : Calls Tryz.prog 101 #[.pointer (some ⟨b, 0, none⟩)] w fun e w' => e = .returned (.string (baLw (wrU k0 2 ++ ([32] ++ (text.data.toList ++ ([32] ++ wrU k1 3)))))) ∧ Below w.heap.size w w' := by
  obtain ⟨g, off, u0, rfl, hg, cu0, hC0⟩ := hK.one (i := 0) (by simp)
  obtain ⟨g1, off1, u1, e1, hg1, cu1, hC1⟩ := hK.one (i := 1) (by simp)
  simp only [Option.some.injEq, Addr.mk.injEq, and_true] at e1
  obtain ⟨rfl, rfl⟩ := e1
  rw [Nat.add_zero] at cu0
  have HL : Hid (∀ w, Calls Tryz.prog 94 #[.string text] w fun e w' => e = .returned (.int .i64 2) ∧ w' = w) := fun w => by have := level_any text w; rw [hv] at this; exact this
  have H0 : Hid (∀ W u, Below w.heap.size w W → u = u0 → Calls Tryz.prog 28 #[u, .int .i64 2] W fun e w' => e = .returned (.string (baLw (wrU k0 2))) ∧ Below w.heap.size w w') := fun W u hW hu => by subst hu; exact (hC0 W hW 2 (by omega)).mono (by rintro e w' ⟨q1, q2⟩; exact ⟨q1, hW.trans (q2.mono hW.size)⟩)
  have H1 : Hid (∀ W u, Below w.heap.size w W → u = u1 → Calls Tryz.prog 28 #[u, .int .i64 3] W fun e w' => e = .returned (.string (baLw (wrU k1 3))) ∧ Below w.heap.size w w') := fun W u hW hu => by subst hu; exact (hC1 W hW 3 (by omega)).mono (by rintro e w' ⟨q1, q2⟩; exact ⟨q1, hW.trans (q2.mono hW.size)⟩)
  have htl : text.data.toList.length = text.size := by rw [Array.length_toList]; rfl
  have HJ : Hid (∀ w1, Below w.heap.size w w1 → Calls Tryz.prog 51 #[.slice (some ⟨w1.heap.size, 0, none⟩) 5 5] (w1.alloc (.cells #[.string (baLw (wrU k0 2)), .string ⟨#[32]⟩, .string text, .string ⟨#[32]⟩, .string (baLw (wrU k1 3))] 9)) fun e w' => e = .returned (.string (baLw (wrU k0 2 ++ ([32] ++ (text.data.toList ++ ([32] ++ wrU k1 3)))))) ∧ Below w.heap.size w w') := fun w1 hb => by
    have hf : flatU [baLw (wrU k0 2), ⟨#[32]⟩, text, ⟨#[32]⟩, baLw (wrU k1 3)] = wrU k0 2 ++ ([32] ++ (text.data.toList ++ ([32] ++ wrU k1 3))) := by simp [flatU, baLw]
    have := joined_new (w := w1) [baLw (wrU k0 2), ⟨#[32]⟩, text, ⟨#[32]⟩, baLw (wrU k1 3)] (by unfold sumU; rw [hf]; simp only [List.length_append, List.length_cons, List.length_nil]; omega) (by simp)
    rw [hf] at this
    refine Calls.mono this ?_
    rintro e w' ⟨q1, q2⟩
    exact ⟨q1, hb.trans (q2.mono hb.size)⟩
  obtain ⟨hlt, c0, c1, c2, c3⟩ := h
  obtain ⟨res, hR⟩ : ∃ res, wrU k0 2 ++ ([32] ++ (text.data.toList ++ ([32] ++ wrU k1 3))) = res := ⟨_, rfl⟩
  rw [hR] at HJ
  rw [hR]
  obtain ⟨tx0, hT0⟩ : ∃ tx, baLw (wrU k0 2) = tx := ⟨_, rfl⟩
  rw [hT0] at HJ H0
  obtain ⟨tx1, hT1⟩ : ∃ tx, baLw (wrU k1 3) = tx := ⟨_, rfl⟩
  rw [hT1] at HJ H1
  clear hK hR htl hT0 hC0 hl0 hT1 hC1 hl1 hv
  go_enter Tryz.func101, Tryz.ntmps101
  go_wp2_with fail
  go_at_call 94
  refine (HL.out _).mono ?_
  rintro e wq ⟨rfl, hwq⟩
  obtain rfl := hwq.symm
  clear hwq HL
  go_wp2_with fail
  go_region_held3 (fun w' => w'.cell? ⟨b, 2, none⟩ = some (.string text) ∧ w'.cell? ⟨b, 3, none⟩ = some (.slice (some ⟨g, off, none⟩) 2 c) ∧ w'.cell? ⟨g, off, none⟩ = some u0 ∧ w'.cell? ⟨g, off + 1, none⟩ = some u1) (go_keep) ((first | (go_at_call 51; refine (HJ.out _ (by first | exact hb1 | exact hb1.drew | exact hb1.drew.drew)).mono ?_; rintro e vz ⟨rfl, hbz⟩; have z0 := cell_later hbz c2; have z1 := cell_later hbz c3; have z2 := cell_later hbz cu0; have z3 := cell_later hbz cu1) | (have hq1 := hb0; go_at_call 28; refine (H1.out _ _ (by first | exact hb0 | exact hb0.drew | exact hb0.drew.drew) rfl).mono ?_; rintro e v1 ⟨rfl, hb1⟩; have f10 := cell_later hb1 c2; have f11 := cell_later hb1 c3; have f12 := cell_later hb1 cu0; have f13 := cell_later hb1 cu1; have fs1 := hb1.size; have fl1 : b < v1.heap.size := (by omega); have fg1 : g < v1.heap.size := (by omega)) | (go_at_call 28; refine (H0.out _ _ (Below.refl _ _).drew rfl).mono ?_; rintro e v0 ⟨rfl, hb0⟩; have f00 := cell_later hb0 c2; have f01 := cell_later hb0 c3; have f02 := cell_later hb0 cu0; have f03 := cell_later hb0 cu1; have fs0 := hb0.size; have fl0 : b < v0.heap.size := (by omega); have fg0 : g < v0.heap.size := (by omega))))
  all_goals
    go_wp2
    go_ret
    exact ⟨rfl, hbz⟩
set_option maxHeartbeats 8000000 in
theorem oper_3 {w : World} {b c : Nat} {num : Int} {text : ByteArray} {a : Option Addr} {k0 k1 : Ex} (h : ExM w b 7 num text a 2 c) (hK : KiC w a [k0, k1]) (hl0 : (wrU k0 3).length ≤ 200000) (hl1 : (wrU k1 4).length ≤ 200000) (ht : text.size ≤ 200000) (hv : lvlP text.toList = 3) : Calls Tryz.prog 101 #[.pointer (some ⟨b, 0, none⟩)] w fun e w' => e = .returned (.string (baLw (wrU k0 3 ++ ([32] ++ (text.data.toList ++ ([32] ++ wrU k1 4)))))) ∧ Below w.heap.size w w' := by
  obtain ⟨g, off, u0, rfl, hg, cu0, hC0⟩ := hK.one (i := 0) (by simp)
  obtain ⟨g1, off1, u1, e1, hg1, cu1, hC1⟩ := hK.one (i := 1) (by simp)
  simp only [Option.some.injEq, Addr.mk.injEq, and_true] at e1
  obtain ⟨rfl, rfl⟩ := e1
  rw [Nat.add_zero] at cu0
  have HL : Hid (∀ w, Calls Tryz.prog 94 #[.string text] w fun e w' => e = .returned (.int .i64 3) ∧ w' = w) := fun w => by have := level_any text w; rw [hv] at this; exact this
  have H0 : Hid (∀ W u, Below w.heap.size w W → u = u0 → Calls Tryz.prog 28 #[u, .int .i64 3] W fun e w' => e = .returned (.string (baLw (wrU k0 3))) ∧ Below w.heap.size w w') := fun W u hW hu => by subst hu; exact (hC0 W hW 3 (by omega)).mono (by rintro e w' ⟨q1, q2⟩; exact ⟨q1, hW.trans (q2.mono hW.size)⟩)
  have H1 : Hid (∀ W u, Below w.heap.size w W → u = u1 → Calls Tryz.prog 28 #[u, .int .i64 4] W fun e w' => e = .returned (.string (baLw (wrU k1 4))) ∧ Below w.heap.size w w') := fun W u hW hu => by subst hu; exact (hC1 W hW 4 (by omega)).mono (by rintro e w' ⟨q1, q2⟩; exact ⟨q1, hW.trans (q2.mono hW.size)⟩)
  have htl : text.data.toList.length = text.size := by rw [Array.length_toList]; rfl
  have HJ : Hid (∀ w1, Below w.heap.size w w1 → Calls Tryz.prog 51 #[.slice (some ⟨w1.heap.size, 0, none⟩) 5 5] (w1.alloc (.cells #[.string (baLw (wrU k0 3)), .string ⟨#[32]⟩, .string text, .string ⟨#[32]⟩, .string (baLw (wrU k1 4))] 9)) fun e w' => e = .returned (.string (baLw (wrU k0 3 ++ ([32] ++ (text.data.toList ++ ([32] ++ wrU k1 4)))))) ∧ Below w.heap.size w w') := fun w1 hb => by
    have hf : flatU [baLw (wrU k0 3), ⟨#[32]⟩, text, ⟨#[32]⟩, baLw (wrU k1 4)] = wrU k0 3 ++ ([32] ++ (text.data.toList ++ ([32] ++ wrU k1 4))) := by simp [flatU, baLw]
    have := joined_new (w := w1) [baLw (wrU k0 3), ⟨#[32]⟩, text, ⟨#[32]⟩, baLw (wrU k1 4)] (by unfold sumU; rw [hf]; simp only [List.length_append, List.length_cons, List.length_nil]; omega) (by simp)
    rw [hf] at this
    refine Calls.mono this ?_
    rintro e w' ⟨q1, q2⟩
    exact ⟨q1, hb.trans (q2.mono hb.size)⟩
  obtain ⟨hlt, c0, c1, c2, c3⟩ := h
  obtain ⟨res, hR⟩ : ∃ res, wrU k0 3 ++ ([32] ++ (text.data.toList ++ ([32] ++ wrU k1 4))) = res := ⟨_, rfl⟩
  rw [hR] at HJ
  rw [hR]
  obtain ⟨tx0, hT0⟩ : ∃ tx, baLw (wrU k0 3) = tx := ⟨_, rfl⟩
  rw [hT0] at HJ H0
  obtain ⟨tx1, hT1⟩ : ∃ tx, baLw (wrU k1 4) = tx := ⟨_, rfl⟩
  rw [hT1] at HJ H1
  clear hK hR htl hT0 hC0 hl0 hT1 hC1 hl1 hv
  go_enter Tryz.func101, Tryz.ntmps101
  go_wp2_with fail
  go_at_call 94
  refine (HL.out _).mono ?_
  rintro e wq ⟨rfl, hwq⟩
  obtain rfl := hwq.symm
  clear hwq HL
  go_wp2_with fail
  go_region_held3 (fun w' => w'.cell? ⟨b, 2, none⟩ = some (.string text) ∧ w'.cell? ⟨b, 3, none⟩ = some (.slice (some ⟨g, off, none⟩) 2 c) ∧ w'.cell? ⟨g, off, none⟩ = some u0 ∧ w'.cell? ⟨g, off + 1, none⟩ = some u1) (go_keep) ((first | (go_at_call 51; refine (HJ.out _ (by first | exact hb1 | exact hb1.drew | exact hb1.drew.drew)).mono ?_; rintro e vz ⟨rfl, hbz⟩; have z0 := cell_later hbz c2; have z1 := cell_later hbz c3; have z2 := cell_later hbz cu0; have z3 := cell_later hbz cu1) | (have hq1 := hb0; go_at_call 28; refine (H1.out _ _ (by first | exact hb0 | exact hb0.drew | exact hb0.drew.drew) rfl).mono ?_; rintro e v1 ⟨rfl, hb1⟩; have f10 := cell_later hb1 c2; have f11 := cell_later hb1 c3; have f12 := cell_later hb1 cu0; have f13 := cell_later hb1 cu1; have fs1 := hb1.size; have fl1 : b < v1.heap.size := (by omega); have fg1 : g < v1.heap.size := (by omega)) | (go_at_call 28; refine (H0.out _ _ (Below.refl _ _).drew rfl).mono ?_; rintro e v0 ⟨rfl, hb0⟩; have f00 := cell_later hb0 c2; have f01 := cell_later hb0 c3; have f02 := cell_later hb0 cu0; have f03 := cell_later hb0 cu1; have fs0 := hb0.size; have fl0 : b < v0.heap.size := (by omega); have fg0 : g < v0.heap.size := (by omega))))
  all_goals
    go_wp2
    go_ret
    exact ⟨rfl, hbz⟩
theorem lvl_three {x : ByteArray} (h : 0 ≤ lvlL x.toList) : lvlL x.toList = 0 ∨ lvlL x.toList = 1 ∨ lvlL x.toList = 2 := by
  unfold lvlL at h ⊢
  generalize x.toList = l at *
  revert h
  cases l == [61, 61] <;> cases l == [60] <;> cases l == [43] <;> cases l == [45] <;> cases l == [43, 43] <;> cases l == [42] <;> cases l == [47] <;> cases l == [37] <;> simp
/-- what is as tight may stand on the left without brackets, but for those that compare -/
theorem aop_any {w : World} {b c : Nat} {num : Int} {text : ByteArray} {a : Option Addr} {k0 k1 : Ex} (h : ExM w b 7 num text a 2 c) (hK : KiC w a [k0, k1]) (hl0 : ∀ lv, (wrU k0 lv).length ≤ 200000) (hl1 : ∀ lv, (wrU k1 lv).length ≤ 200000) (ht : text.size ≤ 200000) (h7 : 0 ≤ lvlL text.toList) : Calls Tryz.prog 101 #[.pointer (some ⟨b, 0, none⟩)] w fun e w' => e = .returned (.string (baLw (wrU k0 (if tightU 7 text = 1 then 2 else tightU 7 text) ++ ([32] ++ (text.data.toList ++ ([32] ++ wrU k1 (tightU 7 text + 1))))))) ∧ Below w.heap.size w w' := by
  have hP := lvl_both text.toList
  rw [if_neg (by omega)] at hP
  have hU : tightU 7 text = (lvlL text.toList + 1).toNat := by unfold tightU; rw [if_neg (by omega), if_pos rfl]
  rw [hU]
  rcases lvl_three h7 with e | e | e
  · rw [e] at hP ⊢; exact oper_1 h hK (hl0 _) (hl1 _) ht hP
  · rw [e] at hP ⊢; exact oper_2 h hK (hl0 _) (hl1 _) ht hP
  · rw [e] at hP ⊢; exact oper_3 h hK (hl0 _) (hl1 _) ht hP
set_option maxHeartbeats 4000000 in
theorem bare_op {w : World} {b c : Nat} {num : Int} {text : ByteArray} {a : Option Addr} {k0 k1 : Ex} (h : ExM w b 7 num text a 2 c) (hK : KiC w a [k0, k1]) (hl0 : ∀ lv, (wrU k0 lv).length ≤ 200000) (hl1 : ∀ lv, (wrU k1 lv).length ≤ 200000) (ht : text.size ≤ 200000) (h7 : 0 ≤ lvlL text.toList) : Calls Tryz.prog 52 #[.pointer (some ⟨b, 0, none⟩)] w fun e w' => e = .returned (.string (baLw (wrU k0 (if tightU 7 text = 1 then 2 else tightU 7 text) ++ ([32] ++ (text.data.toList ++ ([32] ++ wrU k1 (tightU 7 text + 1))))))) ∧ Below w.heap.size w w' := by
  have HF : Hid (Calls Tryz.prog 101 #[.pointer (some ⟨b, 0, none⟩)] w fun e w' => e = .returned (.string (baLw (wrU k0 (if tightU 7 text = 1 then 2 else tightU 7 text) ++ ([32] ++ (text.data.toList ++ ([32] ++ wrU k1 (tightU 7 text + 1))))))) ∧ Below w.heap.size w w') := aop_any h hK hl0 hl1 ht h7
  obtain ⟨hlt, c0, c1, c2, c3⟩ := h
  obtain ⟨res, hR⟩ : ∃ res, wrU k0 (if tightU 7 text = 1 then 2 else tightU 7 text) ++ ([32] ++ (text.data.toList ++ ([32] ++ wrU k1 (tightU 7 text + 1)))) = res := ⟨_, rfl⟩
  rw [hR] at HF
  rw [hR]
  clear hR hK hl0 hl1
  go_enter Tryz.func52, Tryz.ntmps52
  go_wp2_with fail
  go_at_call 101
  refine HF.out.mono ?_
  rintro e w2 ⟨rfl, hb2⟩
  go_wp2
  go_ret
  exact ⟨rfl, hb2⟩

end Go.Proofs.YthbglakncijahaaGreatDoor
