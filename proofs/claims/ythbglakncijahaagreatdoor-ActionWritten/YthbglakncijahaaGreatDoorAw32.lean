/- Texts of the proof, put together: AExp7. -/
import Derived.Test.YthbglakncijahaaGreatDoorAw31
namespace Go.Proofs.YthbglakncijahaaGreatDoor
open Go.RowKit
set_option linter.unusedVariables false
set_option maxRecDepth 100000

set_option maxHeartbeats 4000000 in
theorem patom_bad {W0 w : World} {R : Nat} {s : ByteArray} {ex : Tok → RE} (h : PX W0 w R s none) :
    Calls Tryz.prog 163 #[.pointer (some ⟨R, 0, none⟩)] w (GotE W0 w R s ((none : Option Tok).bind (atomS s ex))) := by
  obtain ⟨t, te, pe, z, _, hp⟩ := h.bad rfl
  obtain ⟨c0, c1, c2, c3, c4, c5, c6, c7, c8⟩ := hp.cells
  have hal := alloc_below w (.cells #[.int .i64 t.kind, .string t.text, .int .i64 t.fr, .int .i64 t.fin, .int .i64 t.num] 71)
  have HX1 : Hid (PX W0 (w.alloc (.cells #[.int .i64 t.kind, .string t.text, .int .i64 t.fr, .int .i64 t.fin, .int .i64 t.num] 71)) R s none) := h.below hal
  have HG : Hid (w.grownBy (w.alloc (.cells #[.int .i64 t.kind, .string t.text, .int .i64 t.fr, .int .i64 t.fin, .int .i64 t.num] 71)) (some R)) := grownA_below hal _
  have hRw := h.lt
  have d7 := (hal.cell (p := ⟨R, 7, none⟩) hRw).trans c7
  clear h hp hal
  go_enter Tryz.func163, Tryz.ntmps163
  go_wp2
  go_ret
  exact ⟨none, rfl, HG.out, HX1.out, fun x t h => by cases h⟩

set_option maxHeartbeats 4000000 in
theorem patom_num {W0 w : World} (L : LibA W0) {R : Nat} {s : ByteArray} {ex : Tok → RE} {t : Tok} (h : PX W0 w R s (some t)) (hk : t.kind = 1) :
    Calls Tryz.prog 163 #[.pointer (some ⟨R, 0, none⟩)] w (GotE W0 w R s (atomS s ex t)) := by
  have hRw := h.lt
  obtain ⟨hok, z, hp⟩ := h.good t rfl
  obtain ⟨c0, c1, c2, c3, c4, c5, c6, c7, c8⟩ := hp.cells
  have hal := alloc_below w (.cells #[.int .i64 t.kind, .string t.text, .int .i64 t.fr, .int .i64 t.fin, .int .i64 t.num] 71)
  have HX1 : Hid (PX W0 (w.alloc (.cells #[.int .i64 t.kind, .string t.text, .int .i64 t.fr, .int .i64 t.fin, .int .i64 t.num] 71)) R s (some t)) := h.below hal
  have HT1 : Hid (TokAt (w.alloc (.cells #[.int .i64 t.kind, .string t.text, .int .i64 t.fr, .int .i64 t.fin, .int .i64 t.num] 71)) w.heap.size t) := TokAt.new w t
  have HB1 : Hid (Below w.heap.size w (w.alloc (.cells #[.int .i64 t.kind, .string t.text, .int .i64 t.fr, .int .i64 t.fin, .int .i64 t.num] 71))) := hal
  have HN : Hid (Calls Tryz.prog 30 #[.pointer (some ⟨R, 0, none⟩)] (w.alloc (.cells #[.int .i64 t.kind, .string t.text, .int .i64 t.fr, .int .i64 t.fin, .int .i64 t.num] 71)) fun e w' => e = .returned (.tuple #[]) ∧ w.grownBy w' (some R) ∧ PX W0 w' R s (nextS s (some t)) ∧ TokAt w' w.heap.size t) := by
    refine (pnext_any L HX1.out).mono ?_
    rintro e w' ⟨rfl, hg, hX⟩
    exact ⟨rfl, gT (grownA_below hal _) hg, hX, (hg.block _ HT1.out.lt (fun e => by cases e; omega)).trans HT1.out⟩
  have HV : Hid (atomS s ex t = (nextS s (some t)).map fun u => (exN 1 t.num emptyT [], u)) := by
    show _ = _
    unfold atomS
    rw [if_pos hk]
  rw [hk] at HN
  have hk2 : Hid (t.kind = 1) := hk
  rw [hk] at c2
  clear h hp hok HX1 HT1 HB1 hal hk
  generalize nextS s (some t) = o2 at *
  go_enter Tryz.func163, Tryz.ntmps163
  go_wp2_with fail
  go_at_call 30
  refine HN.out.mono ?_
  rintro e w2 ⟨rfl, hg2, hX2, hT2⟩
  obtain ⟨d0, d1, d2, d3, d4⟩ := hT2.cells
  clear HN hT2
  go_wp2
  go_ret
  have hb2 := alloc_below w2 (.cells #[.int .i64 1, .int .i64 t.num, .string ⟨#[]⟩, .slice none 0 0] 64)
  refine ⟨some ⟨w2.heap.size, 0, none⟩, by simp, gT hg2 (grownA_below hb2 _), ?_, fun x u hx => ?_⟩
  · rw [HV.out]
    have := hX2.below hb2
    cases o2 <;> exact this
  · rw [HV.out] at hx
    obtain ⟨v, h1, h2⟩ := map_some hx
    simp only [Prod.mk.injEq] at h2
    obtain ⟨rfl, rfl⟩ := h2
    exact ex_leaf (allocAtA w2 _) hg2.size

set_option maxHeartbeats 4000000 in
theorem patom_arg {W0 w : World} (L : LibA W0) {R : Nat} {s : ByteArray} {ex : Tok → RE} {t : Tok} (h : PX W0 w R s (some t)) (hk : t.kind = 3) :
    Calls Tryz.prog 163 #[.pointer (some ⟨R, 0, none⟩)] w (GotE W0 w R s (atomS s ex t)) := by
  have hRw := h.lt
  obtain ⟨hok, z, hp⟩ := h.good t rfl
  obtain ⟨c0, c1, c2, c3, c4, c5, c6, c7, c8⟩ := hp.cells
  have hal := alloc_below w (.cells #[.int .i64 t.kind, .string t.text, .int .i64 t.fr, .int .i64 t.fin, .int .i64 t.num] 71)
  have HX1 : Hid (PX W0 (w.alloc (.cells #[.int .i64 t.kind, .string t.text, .int .i64 t.fr, .int .i64 t.fin, .int .i64 t.num] 71)) R s (some t)) := h.below hal
  have HT1 : Hid (TokAt (w.alloc (.cells #[.int .i64 t.kind, .string t.text, .int .i64 t.fr, .int .i64 t.fin, .int .i64 t.num] 71)) w.heap.size t) := TokAt.new w t
  have HB1 : Hid (Below w.heap.size w (w.alloc (.cells #[.int .i64 t.kind, .string t.text, .int .i64 t.fr, .int .i64 t.fin, .int .i64 t.num] 71))) := hal
  have HN : Hid (Calls Tryz.prog 30 #[.pointer (some ⟨R, 0, none⟩)] (w.alloc (.cells #[.int .i64 t.kind, .string t.text, .int .i64 t.fr, .int .i64 t.fin, .int .i64 t.num] 71)) fun e w' => e = .returned (.tuple #[]) ∧ w.grownBy w' (some R) ∧ PX W0 w' R s (nextS s (some t)) ∧ TokAt w' w.heap.size t) := by
    refine (pnext_any L HX1.out).mono ?_
    rintro e w' ⟨rfl, hg, hX⟩
    exact ⟨rfl, gT (grownA_below hal _) hg, hX, (hg.block _ HT1.out.lt (fun e => by cases e; omega)).trans HT1.out⟩
  have HV : Hid (atomS s ex t = (nextS s (some t)).map fun u => (exN 3 t.num emptyT [], u)) := by
    show _ = _
    unfold atomS
    rw [if_neg (by omega), if_pos hk]
  rw [hk] at HN
  have hk2 : Hid (t.kind = 3) := hk
  rw [hk] at c2
  clear h hp hok HX1 HT1 HB1 hal hk
  generalize nextS s (some t) = o2 at *
  go_enter Tryz.func163, Tryz.ntmps163
  go_wp2_with fail
  go_at_call 30
  refine HN.out.mono ?_
  rintro e w2 ⟨rfl, hg2, hX2, hT2⟩
  obtain ⟨d0, d1, d2, d3, d4⟩ := hT2.cells
  clear HN hT2
  go_wp2
  go_ret
  have hb2 := alloc_below w2 (.cells #[.int .i64 3, .int .i64 t.num, .string ⟨#[]⟩, .slice none 0 0] 64)
  refine ⟨some ⟨w2.heap.size, 0, none⟩, by simp, gT hg2 (grownA_below hb2 _), ?_, fun x u hx => ?_⟩
  · rw [HV.out]
    have := hX2.below hb2
    cases o2 <;> exact this
  · rw [HV.out] at hx
    obtain ⟨v, h1, h2⟩ := map_some hx
    simp only [Prod.mk.injEq] at h2
    obtain ⟨rfl, rfl⟩ := h2
    exact ex_leaf (allocAtA w2 _) hg2.size

set_option maxHeartbeats 4000000 in
theorem patom_text {W0 w : World} (L : LibA W0) {R : Nat} {s : ByteArray} {ex : Tok → RE} {t : Tok} (h : PX W0 w R s (some t)) (hk : t.kind = 2) :
    Calls Tryz.prog 163 #[.pointer (some ⟨R, 0, none⟩)] w (GotE W0 w R s (atomS s ex t)) := by
  have hRw := h.lt
  obtain ⟨hok, z, hp⟩ := h.good t rfl
  obtain ⟨c0, c1, c2, c3, c4, c5, c6, c7, c8⟩ := hp.cells
  have hal := alloc_below w (.cells #[.int .i64 t.kind, .string t.text, .int .i64 t.fr, .int .i64 t.fin, .int .i64 t.num] 71)
  have HX1 : Hid (PX W0 (w.alloc (.cells #[.int .i64 t.kind, .string t.text, .int .i64 t.fr, .int .i64 t.fin, .int .i64 t.num] 71)) R s (some t)) := h.below hal
  have HT1 : Hid (TokAt (w.alloc (.cells #[.int .i64 t.kind, .string t.text, .int .i64 t.fr, .int .i64 t.fin, .int .i64 t.num] 71)) w.heap.size t) := TokAt.new w t
  have HB1 : Hid (Below w.heap.size w (w.alloc (.cells #[.int .i64 t.kind, .string t.text, .int .i64 t.fr, .int .i64 t.fin, .int .i64 t.num] 71))) := hal
  have HN : Hid (Calls Tryz.prog 30 #[.pointer (some ⟨R, 0, none⟩)] (w.alloc (.cells #[.int .i64 t.kind, .string t.text, .int .i64 t.fr, .int .i64 t.fin, .int .i64 t.num] 71)) fun e w' => e = .returned (.tuple #[]) ∧ w.grownBy w' (some R) ∧ PX W0 w' R s (nextS s (some t)) ∧ TokAt w' w.heap.size t) := by
    refine (pnext_any L HX1.out).mono ?_
    rintro e w' ⟨rfl, hg, hX⟩
    exact ⟨rfl, gT (grownA_below hal _) hg, hX, (hg.block _ HT1.out.lt (fun e => by cases e; omega)).trans HT1.out⟩
  have HV : Hid (atomS s ex t = (nextS s (some t)).map fun u => (exN 2 0 t.text [], u)) := by
    show _ = _
    unfold atomS
    rw [if_neg (by omega), if_neg (by omega), if_pos hk]
  rw [hk] at HN
  have hk2 : Hid (t.kind = 2) := hk
  rw [hk] at c2
  clear h hp hok HX1 HT1 HB1 hal hk
  generalize nextS s (some t) = o2 at *
  go_enter Tryz.func163, Tryz.ntmps163
  go_wp2_with fail
  go_at_call 30
  refine HN.out.mono ?_
  rintro e w2 ⟨rfl, hg2, hX2, hT2⟩
  obtain ⟨d0, d1, d2, d3, d4⟩ := hT2.cells
  clear HN hT2
  go_wp2
  go_ret
  have hb2 := alloc_below w2 (.cells #[.int .i64 2, .int .i64 0, .string t.text, .slice none 0 0] 64)
  refine ⟨some ⟨w2.heap.size, 0, none⟩, by simp, gT hg2 (grownA_below hb2 _), ?_, fun x u hx => ?_⟩
  · rw [HV.out]
    have := hX2.below hb2
    cases o2 <;> exact this
  · rw [HV.out] at hx
    obtain ⟨v, h1, h2⟩ := map_some hx
    simp only [Prod.mk.injEq] at h2
    obtain ⟨rfl, rfl⟩ := h2
    exact ex_leaf (allocAtA w2 _) hg2.size

end Go.Proofs.YthbglakncijahaaGreatDoor
