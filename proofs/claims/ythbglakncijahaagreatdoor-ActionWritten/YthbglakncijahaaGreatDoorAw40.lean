/- Texts of the proof, put together: PRowD. -/
import Derived.Test.YthbglakncijahaaGreatDoorAw39
namespace Go.Proofs.YthbglakncijahaaGreatDoor
open Go.RowKit
set_option linter.unusedVariables false
set_option maxRecDepth 100000

set_option maxHeartbeats 8000000 in
theorem bare_let {w : World} {b c : Nat} {num : Int} {text : ByteArray} {a : Option Addr} {k0 k1 : Ex} (h : ExM w b 5 num text a 2 c) (hK : KiC w a [k0, k1]) (hlk0 : (wrU k0 0).length ≤ 200000) (hlk1 : (wrU k1 0).length ≤ 200000) (ht : text.size ≤ 200000) : Calls Tryz.prog 52 #[.pointer (some ⟨b, 0, none⟩)] w fun e w' => e = .returned (.string (baLw ([108, 101, 116, 32] ++ (text.data.toList ++ ([32, 61, 32] ++ (wrU k0 0 ++ ([32, 105, 110, 32] ++ wrU k1 0))))))) ∧ Below w.heap.size w w' := by
  obtain ⟨g, off, u0, rfl, hg, cu0, hC0⟩ := hK.one (i := 0) (by simp)
  obtain ⟨g1, off1, u1, e1, hg1, cu1, hC1⟩ := hK.one (i := 1) (by simp)
  simp only [Option.some.injEq, Addr.mk.injEq, and_true] at e1
  obtain ⟨rfl, rfl⟩ := e1
  rw [Nat.add_zero] at cu0
  have H0 : Hid (∀ W u, Below w.heap.size w W → u = u0 → Calls Tryz.prog 28 #[u, .int .i64 0] W fun e w' => e = .returned (.string (baLw (wrU k0 0))) ∧ Below w.heap.size w w') := fun W u hW hu => by subst hu; exact (hC0 W hW 0 (by omega)).mono (by rintro e w' ⟨q1, q2⟩; exact ⟨q1, hW.trans (q2.mono hW.size)⟩)
  have H1 : Hid (∀ W u, Below w.heap.size w W → u = u1 → Calls Tryz.prog 28 #[u, .int .i64 0] W fun e w' => e = .returned (.string (baLw (wrU k1 0))) ∧ Below w.heap.size w w') := fun W u hW hu => by subst hu; exact (hC1 W hW 0 (by omega)).mono (by rintro e w' ⟨q1, q2⟩; exact ⟨q1, hW.trans (q2.mono hW.size)⟩)
  have htl : text.data.toList.length = text.size := by rw [Array.length_toList]; rfl
  have HJ : Hid (∀ w1, Below w.heap.size w w1 → Calls Tryz.prog 51 #[.slice (some ⟨w1.heap.size, 0, none⟩) 6 6] (w1.alloc (.cells #[.string ⟨#[108, 101, 116, 32]⟩, .string text, .string ⟨#[32, 61, 32]⟩, .string (baLw (wrU k0 0)), .string ⟨#[32, 105, 110, 32]⟩, .string (baLw (wrU k1 0))] 9)) fun e w' => e = .returned (.string (baLw ([108, 101, 116, 32] ++ (text.data.toList ++ ([32, 61, 32] ++ (wrU k0 0 ++ ([32, 105, 110, 32] ++ wrU k1 0))))))) ∧ Below w.heap.size w w') := fun w1 hb => by
    have hf : flatU [⟨#[108, 101, 116, 32]⟩, text, ⟨#[32, 61, 32]⟩, (baLw (wrU k0 0)), ⟨#[32, 105, 110, 32]⟩, (baLw (wrU k1 0))] = [108, 101, 116, 32] ++ (text.data.toList ++ ([32, 61, 32] ++ (wrU k0 0 ++ ([32, 105, 110, 32] ++ wrU k1 0)))) := by simp [flatU, baLw]
    have := joined_new (w := w1) [⟨#[108, 101, 116, 32]⟩, text, ⟨#[32, 61, 32]⟩, (baLw (wrU k0 0)), ⟨#[32, 105, 110, 32]⟩, (baLw (wrU k1 0))] (by unfold sumU; rw [hf]; simp only [List.length_append, List.length_cons, List.length_nil]; omega) (by simp)
    rw [hf] at this
    refine Calls.mono this ?_
    rintro e w' ⟨q1, q2⟩
    exact ⟨q1, hb.trans (q2.mono hb.size)⟩
  obtain ⟨hlt, c0, c1, c2, c3⟩ := h
  obtain ⟨res, hR⟩ : ∃ res, [108, 101, 116, 32] ++ (text.data.toList ++ ([32, 61, 32] ++ (wrU k0 0 ++ ([32, 105, 110, 32] ++ wrU k1 0)))) = res := ⟨_, rfl⟩
  rw [hR] at HJ
  rw [hR]
  obtain ⟨tx0, hT0⟩ : ∃ tx, baLw (wrU k0 0) = tx := ⟨_, rfl⟩
  rw [hT0] at HJ H0
  obtain ⟨tx1, hT1⟩ : ∃ tx, baLw (wrU k1 0) = tx := ⟨_, rfl⟩
  rw [hT1] at HJ H1
  clear hK hR htl hT0 hC0 hlk0 hT1 hC1 hlk1
  go_enter Tryz.func52, Tryz.ntmps52
  go_wp2_with fail
  go_region_held3 (fun w' => w'.cell? ⟨b, 2, none⟩ = some (.string text) ∧ w'.cell? ⟨b, 3, none⟩ = some (.slice (some ⟨g, off, none⟩) 2 c) ∧ w'.cell? ⟨g, off, none⟩ = some u0 ∧ w'.cell? ⟨g, off + 1, none⟩ = some u1) (go_keep) ((first | (go_at_call 51; refine (HJ.out _ (by first | exact hb1 | exact hb1.drew | exact hb1.drew.drew)).mono ?_; rintro e vz ⟨rfl, hbz⟩; have z0 := cell_later hbz c2; have z1 := cell_later hbz c3; have z2 := cell_later hbz cu0; have z3 := cell_later hbz cu1) | (have hq1 := hb0; go_at_call 28; refine (H1.out _ _ (by first | exact hb0 | exact hb0.drew | exact hb0.drew.drew) rfl).mono ?_; rintro e v1 ⟨rfl, hb1⟩; have f10 := cell_later hb1 c2; have f11 := cell_later hb1 c3; have f12 := cell_later hb1 cu0; have f13 := cell_later hb1 cu1; have fs1 := hb1.size; have fl1 : b < v1.heap.size := (by omega); have fg1 : g < v1.heap.size := (by omega)) | (go_at_call 28; refine (H0.out _ _ (Below.refl _ _).drew rfl).mono ?_; rintro e v0 ⟨rfl, hb0⟩; have f00 := cell_later hb0 c2; have f01 := cell_later hb0 c3; have f02 := cell_later hb0 cu0; have f03 := cell_later hb0 cu1; have fs0 := hb0.size; have fl0 : b < v0.heap.size := (by omega); have fg0 : g < v0.heap.size := (by omega))))
  all_goals
    go_wp2
    go_ret
    exact ⟨rfl, hbz⟩
set_option maxHeartbeats 8000000 in
theorem bare_if {w : World} {b c : Nat} {num : Int} {text : ByteArray} {a : Option Addr} {k0 k1 k2 : Ex} (h : ExM w b 6 num text a 3 c) (hK : KiC w a [k0, k1, k2]) (hlk0 : (wrU k0 0).length ≤ 200000) (hlk1 : (wrU k1 0).length ≤ 200000) (hlk2 : (wrU k2 0).length ≤ 200000) (ht : text.size ≤ 200000) : Calls Tryz.prog 52 #[.pointer (some ⟨b, 0, none⟩)] w fun e w' => e = .returned (.string (baLw ([105, 102, 32] ++ (wrU k0 0 ++ ([32, 116, 104, 101, 110, 32] ++ (wrU k1 0 ++ ([32, 101, 108, 115, 101, 32] ++ wrU k2 0))))))) ∧ Below w.heap.size w w' := by
  obtain ⟨g, off, u0, rfl, hg, cu0, hC0⟩ := hK.one (i := 0) (by simp)
  obtain ⟨g1, off1, u1, e1, hg1, cu1, hC1⟩ := hK.one (i := 1) (by simp)
  simp only [Option.some.injEq, Addr.mk.injEq, and_true] at e1
  obtain ⟨rfl, rfl⟩ := e1
  obtain ⟨g2, off2, u2, e2, hg2, cu2, hC2⟩ := hK.one (i := 2) (by simp)
  simp only [Option.some.injEq, Addr.mk.injEq, and_true] at e2
  obtain ⟨rfl, rfl⟩ := e2
  rw [Nat.add_zero] at cu0
  have H0 : Hid (∀ W u, Below w.heap.size w W → u = u0 → Calls Tryz.prog 28 #[u, .int .i64 0] W fun e w' => e = .returned (.string (baLw (wrU k0 0))) ∧ Below w.heap.size w w') := fun W u hW hu => by subst hu; exact (hC0 W hW 0 (by omega)).mono (by rintro e w' ⟨q1, q2⟩; exact ⟨q1, hW.trans (q2.mono hW.size)⟩)
  have H1 : Hid (∀ W u, Below w.heap.size w W → u = u1 → Calls Tryz.prog 28 #[u, .int .i64 0] W fun e w' => e = .returned (.string (baLw (wrU k1 0))) ∧ Below w.heap.size w w') := fun W u hW hu => by subst hu; exact (hC1 W hW 0 (by omega)).mono (by rintro e w' ⟨q1, q2⟩; exact ⟨q1, hW.trans (q2.mono hW.size)⟩)
  have H2 : Hid (∀ W u, Below w.heap.size w W → u = u2 → Calls Tryz.prog 28 #[u, .int .i64 0] W fun e w' => e = .returned (.string (baLw (wrU k2 0))) ∧ Below w.heap.size w w') := fun W u hW hu => by subst hu; exact (hC2 W hW 0 (by omega)).mono (by rintro e w' ⟨q1, q2⟩; exact ⟨q1, hW.trans (q2.mono hW.size)⟩)
  have htl : text.data.toList.length = text.size := by rw [Array.length_toList]; rfl
  have HJ : Hid (∀ w1, Below w.heap.size w w1 → Calls Tryz.prog 51 #[.slice (some ⟨w1.heap.size, 0, none⟩) 6 6] (w1.alloc (.cells #[.string ⟨#[105, 102, 32]⟩, .string (baLw (wrU k0 0)), .string ⟨#[32, 116, 104, 101, 110, 32]⟩, .string (baLw (wrU k1 0)), .string ⟨#[32, 101, 108, 115, 101, 32]⟩, .string (baLw (wrU k2 0))] 9)) fun e w' => e = .returned (.string (baLw ([105, 102, 32] ++ (wrU k0 0 ++ ([32, 116, 104, 101, 110, 32] ++ (wrU k1 0 ++ ([32, 101, 108, 115, 101, 32] ++ wrU k2 0))))))) ∧ Below w.heap.size w w') := fun w1 hb => by
    have hf : flatU [⟨#[105, 102, 32]⟩, (baLw (wrU k0 0)), ⟨#[32, 116, 104, 101, 110, 32]⟩, (baLw (wrU k1 0)), ⟨#[32, 101, 108, 115, 101, 32]⟩, (baLw (wrU k2 0))] = [105, 102, 32] ++ (wrU k0 0 ++ ([32, 116, 104, 101, 110, 32] ++ (wrU k1 0 ++ ([32, 101, 108, 115, 101, 32] ++ wrU k2 0)))) := by simp [flatU, baLw]
    have := joined_new (w := w1) [⟨#[105, 102, 32]⟩, (baLw (wrU k0 0)), ⟨#[32, 116, 104, 101, 110, 32]⟩, (baLw (wrU k1 0)), ⟨#[32, 101, 108, 115, 101, 32]⟩, (baLw (wrU k2 0))] (by unfold sumU; rw [hf]; simp only [List.length_append, List.length_cons, List.length_nil]; omega) (by simp)
    rw [hf] at this
    refine Calls.mono this ?_
    rintro e w' ⟨q1, q2⟩
    exact ⟨q1, hb.trans (q2.mono hb.size)⟩
  obtain ⟨hlt, c0, c1, c2, c3⟩ := h
  obtain ⟨res, hR⟩ : ∃ res, [105, 102, 32] ++ (wrU k0 0 ++ ([32, 116, 104, 101, 110, 32] ++ (wrU k1 0 ++ ([32, 101, 108, 115, 101, 32] ++ wrU k2 0)))) = res := ⟨_, rfl⟩
  rw [hR] at HJ
  rw [hR]
  obtain ⟨tx0, hT0⟩ : ∃ tx, baLw (wrU k0 0) = tx := ⟨_, rfl⟩
  rw [hT0] at HJ H0
  obtain ⟨tx1, hT1⟩ : ∃ tx, baLw (wrU k1 0) = tx := ⟨_, rfl⟩
  rw [hT1] at HJ H1
  obtain ⟨tx2, hT2⟩ : ∃ tx, baLw (wrU k2 0) = tx := ⟨_, rfl⟩
  rw [hT2] at HJ H2
  clear hK hR htl hT0 hC0 hlk0 hT1 hC1 hlk1 hT2 hC2 hlk2
  go_enter Tryz.func52, Tryz.ntmps52
  go_wp2_with fail
  go_region_held3 (fun w' => w'.cell? ⟨b, 2, none⟩ = some (.string text) ∧ w'.cell? ⟨b, 3, none⟩ = some (.slice (some ⟨g, off, none⟩) 3 c) ∧ w'.cell? ⟨g, off, none⟩ = some u0 ∧ w'.cell? ⟨g, off + 1, none⟩ = some u1 ∧ w'.cell? ⟨g, off + 2, none⟩ = some u2) (go_keep) ((first | (go_at_call 51; refine (HJ.out _ (by first | exact hb2 | exact hb2.drew | exact hb2.drew.drew)).mono ?_; rintro e vz ⟨rfl, hbz⟩; have z0 := cell_later hbz c2; have z1 := cell_later hbz c3; have z2 := cell_later hbz cu0; have z3 := cell_later hbz cu1; have z4 := cell_later hbz cu2) | (have hq2 := hb1; go_at_call 28; refine (H2.out _ _ (by first | exact hb1 | exact hb1.drew | exact hb1.drew.drew) rfl).mono ?_; rintro e v2 ⟨rfl, hb2⟩; have f20 := cell_later hb2 c2; have f21 := cell_later hb2 c3; have f22 := cell_later hb2 cu0; have f23 := cell_later hb2 cu1; have f24 := cell_later hb2 cu2; have fs2 := hb2.size; have fl2 : b < v2.heap.size := (by omega); have fg2 : g < v2.heap.size := (by omega)) | (have hq1 := hb0; go_at_call 28; refine (H1.out _ _ (by first | exact hb0 | exact hb0.drew | exact hb0.drew.drew) rfl).mono ?_; rintro e v1 ⟨rfl, hb1⟩; have f10 := cell_later hb1 c2; have f11 := cell_later hb1 c3; have f12 := cell_later hb1 cu0; have f13 := cell_later hb1 cu1; have f14 := cell_later hb1 cu2; have fs1 := hb1.size; have fl1 : b < v1.heap.size := (by omega); have fg1 : g < v1.heap.size := (by omega)) | (go_at_call 28; refine (H0.out _ _ (Below.refl _ _).drew rfl).mono ?_; rintro e v0 ⟨rfl, hb0⟩; have f00 := cell_later hb0 c2; have f01 := cell_later hb0 c3; have f02 := cell_later hb0 cu0; have f03 := cell_later hb0 cu1; have f04 := cell_later hb0 cu2; have fs0 := hb0.size; have fl0 : b < v0.heap.size := (by omega); have fg0 : g < v0.heap.size := (by omega))))
  all_goals
    go_wp2
    go_ret
    exact ⟨rfl, hbz⟩

end Go.Proofs.YthbglakncijahaaGreatDoor
