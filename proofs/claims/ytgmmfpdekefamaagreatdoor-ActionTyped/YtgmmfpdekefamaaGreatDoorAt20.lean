/- Texts of the proof, put together: QSoj. -/
import Derived.Test.YtgmmfpdekefamaaGreatDoorAt19
import Derived.BigRegion
namespace Go.Proofs.YtgmmfpdekefamaaGreatDoor
open Go.RowKit
set_option linter.unusedVariables false
set_option linter.unusedSimpArgs false
set_option maxRecDepth 100000


set_option maxHeartbeats 8000000 in
/-- equality -/
theorem aop_eql {w : World} {lv : Value} {l : List Sh} {op : ByteArray} {O : Option Sh} (h : ShsR w lv l) (hl : l.length = 2) (ho1 : (op.toList == [61, 61]) = true) (HV : Hid (O = (joinP (l.getD 0 noS) (l.getD 1 noS)).map fun _ => ((0, 1) : Sh))) : Calls Tryz.prog 126 #[.string op, lv] w (GotS w O) := by
  obtain ⟨a, c, rfl⟩ := h.slice
  rw [hl] at h ⊢
  obtain ⟨g, off, rfl, hg, c0, c1, c2, c3⟩ := h.two (by omega)
  have HJo : Hid (∀ W, Calls Tryz.prog 125 #[shV (l.getD 0 noS), shV (l.getD 1 noS)] W (GotS W (joinP (l.getD 0 noS) (l.getD 1 noS)))) := fun W => ajoin_any _ _ W
  generalize hJ0 : joinP (l.getD 0 noS) (l.getD 1 noS) = J at *
  generalize hA0 : l.getD 0 noS = s0' at *
  generalize hB0 : l.getD 1 noS = s1' at *
  obtain ⟨la, ba⟩ := s0'
  obtain ⟨lb, bb⟩ := s1'
  unfold shV at HJo
  simp only at HJo c0 c1 c2 c3
  have HS : Hid (∀ W, Calls Tryz.prog 123 #[.int .i64 1] W fun e w' => e = .returned (.agg #[.int .i64 0, .int .i64 1]) ∧ Below W.heap.size W w') := fun W => asimple_any 1 W
  have HJ : Hid (Below w.heap.size w (w.alloc (.cells #[.int .i64 0, .int .i64 0] 89)) ∧ ShAt (w.alloc (.cells #[.int .i64 0, .int .i64 0] 89)) w.heap.size 0 0) := ⟨alloc_below w _, ShAt.new w 0 0⟩
  clear h
  go_enter Tryz.func126, Tryz.ntmps126
  go_wp2_with fail
  generalize w.alloc (.cells #[.int .i64 0, .int .i64 0] 89) = w1 at *
  go_at_call 123
  refine (HS.out _).mono ?_
  rintro e w2 ⟨rfl, hb2⟩
  have hb3 := alloc_below w2 (.cells #[.int .i64 0, .int .i64 1] 89)
  have hlo : w.heap.size < w2.heap.size := Nat.lt_of_lt_of_le HJ.out.2.lt hb2.size
  have HS0 : Hid (SR w w2.heap.size 0 1 (w2.alloc (.cells #[.int .i64 0, .int .i64 1] 89))) := ⟨(HJ.out.1.trans (hb2.mono HJ.out.1.size)).trans (hb3.mono (by omega)), ShAt.new w2 0 1, hlo⟩
  have HR0 : Hid (ShAt (w2.alloc (.cells #[.int .i64 0, .int .i64 1] 89)) w.heap.size 0 0) := (HJ.out.2.below hb2 HJ.out.2.lt).below hb3 hlo
  clear hb2 hb3 hlo HS HJ
  go_wp2_with fail
  generalize w2.heap.size = X at *
  generalize w2.alloc (.cells #[.int .i64 0, .int .i64 1] 89) = w3 at *
  have hbw := HS0.out.bel
  have hg3 : g < w3.heap.size := Nat.lt_of_lt_of_le hg hbw.size
  have d0 : w3.cell? ⟨g, off, none⟩ = some (.int .i64 la) := (hbw.cell (p := ⟨g, off, none⟩) hg).trans c0
  have d1 : w3.cell? ⟨g, off + 1, none⟩ = some (.int .i64 ba) := (hbw.cell (p := ⟨g, off + 1, none⟩) hg).trans c1
  have d2 : w3.cell? ⟨g, off + 2, none⟩ = some (.int .i64 lb) := (hbw.cell (p := ⟨g, off + 2, none⟩) hg).trans c2
  have d3 : w3.cell? ⟨g, off + 3, none⟩ = some (.int .i64 bb) := (hbw.cell (p := ⟨g, off + 3, none⟩) hg).trans c3
  have HSA : Hid (Calls Tryz.prog 125 #[.agg #[.int .i64 la, .int .i64 ba], .agg #[.int .i64 lb, .int .i64 bb]] (w3.alloc (.cells #[.int .i64 0, .int .i64 0] 89)).drew fun e w'' => ∃ (u : Sh) (yes : Bool), e = .returned (.tuple #[.agg #[.int .i64 u.1, .int .i64 u.2], .bool yes]) ∧ Hid (Below w3.heap.size w3 w'') ∧ Hid (ShAt w'' w3.heap.size 0 0) ∧ Hid (yes = J.isSome ∧ ∀ s, J = some s → u = s)) := by
    have hba : Below w3.heap.size w3 (w3.alloc (.cells #[.int .i64 0, .int .i64 0] 89)).drew := below_drewG (alloc_below _ _) 1
    have hbx : ShAt (w3.alloc (.cells #[.int .i64 0, .int .i64 0] 89)).drew w3.heap.size 0 0 := ShAt.new w3 0 0
    refine (HJo.out _).mono ?_
    rintro e w' ⟨h1, u, yes, rfl, h2, h3⟩
    exact ⟨u, yes, rfl, hba.trans (h1.mono hba.size), hbx.below h1 hbx.lt, h2, h3⟩
  have HSB : Hid (Calls Tryz.prog 125 #[.agg #[.int .i64 la, .int .i64 ba], .agg #[.int .i64 lb, .int .i64 bb]] w3.drew fun e w'' => ∃ (u : Sh) (yes : Bool), e = .returned (.tuple #[.agg #[.int .i64 u.1, .int .i64 u.2], .bool yes]) ∧ Hid (Below w3.heap.size w3 w'') ∧ Hid (yes = J.isSome ∧ ∀ s, J = some s → u = s)) := by
    have hba : Below w3.heap.size w3 w3.drew := below_drewG (Below.refl _ _) 1
    refine (HJo.out _).mono ?_
    rintro e w' ⟨h1, u, yes, rfl, h2, h3⟩
    exact ⟨u, yes, rfl, hba.trans (h1.mono hba.size), h2, h3⟩
  have HX : Hid (∀ w', Below w3.heap.size w3 w' → w'.cell? ⟨g, off, none⟩ = some (.int .i64 la) ∧ w'.cell? ⟨g, off + 1, none⟩ = some (.int .i64 ba) ∧ w'.cell? ⟨g, off + 2, none⟩ = some (.int .i64 lb) ∧ w'.cell? ⟨g, off + 3, none⟩ = some (.int .i64 bb)) := fun w' hb =>
    ⟨(hb.cell (p := ⟨g, off, none⟩) hg3).trans d0, (hb.cell (p := ⟨g, off + 1, none⟩) hg3).trans d1, (hb.cell (p := ⟨g, off + 2, none⟩) hg3).trans d2, (hb.cell (p := ⟨g, off + 3, none⟩) hg3).trans d3⟩
  have ne1 : w3.heap.size ≠ g := by omega
  clear HJo hbw
  go_region_held3 (fun w' => w'.cell? ⟨g, off, none⟩ = some (.int .i64 la) ∧ w'.cell? ⟨g, off + 1, none⟩ = some (.int .i64 ba) ∧ w'.cell? ⟨g, off + 2, none⟩ = some (.int .i64 lb) ∧ w'.cell? ⟨g, off + 3, none⟩ = some (.int .i64 bb)) (go_keep) ((first | (go_at_call 125; refine HSA.out.mono ?_; rintro e w8 ⟨u, yes, rfl, HB3, HT3, HY⟩; have u0 := HT3.out.c0; have u1 := HT3.out.c1; have u2 := HT3.out.fz 0; have u3 := HT3.out.fz 1; have u4 := HT3.out.lt; obtain ⟨y0, y1, y2, y3⟩ := HX.out w8 HB3.out) | (go_at_call 125; refine HSB.out.mono ?_; rintro e w8 ⟨u, yes, rfl, HB3, HY⟩; obtain ⟨y0, y1, y2, y3⟩ := HX.out w8 HB3.out)))
  all_goals clear d0 d1 d2 d3 HSA HSB HX y0 y1 y2 y3 ne1 hg3
  all_goals first
    | (have HBV : Hid (Below w3.heap.size w3 ((w8.setCell ⟨w3.heap.size, 0, none⟩ (.int .i64 u.1)).setCell ⟨w3.heap.size, 1, none⟩ (.int .i64 u.2))) := below_putS HB3.out (Nat.le_refl _) u.1 u.2
       have HTV : Hid (ShAt ((w8.setCell ⟨w3.heap.size, 0, none⟩ (.int .i64 u.1)).setCell ⟨w3.heap.size, 1, none⟩ (.int .i64 u.2)) w3.heap.size u.1 u.2) := HT3.out.put u.1 u.2
       clear HT3 HB3 u0 u1 u2 u3 u4
       generalize (w8.setCell ⟨w3.heap.size, 0, none⟩ (.int .i64 u.1)).setCell ⟨w3.heap.size, 1, none⟩ (.int .i64 u.2) = V at HBV HTV ⊢
       generalize hY1 : w3.heap.size = Y at HTV ⊢
       have HYl : Hid (w3.heap.size ≤ Y) := Nat.le_of_eq hY1
       clear hY1)
    | (have HBV : Hid (Below w3.heap.size w3 (w8.alloc (.cells #[.int .i64 u.1, .int .i64 u.2] 89))) := HB3.out.trans ((alloc_below _ _).mono HB3.out.size)
       have HTV : Hid (ShAt (w8.alloc (.cells #[.int .i64 u.1, .int .i64 u.2] 89)) w8.heap.size u.1 u.2) := ShAt.new w8 u.1 u.2
       have HYl : Hid (w3.heap.size ≤ w8.heap.size) := HB3.out.size
       clear HB3
       generalize w8.alloc (.cells #[.int .i64 u.1, .int .i64 u.2] 89) = V at HBV HTV ⊢
       generalize w8.heap.size = Y at HTV HYl ⊢)
  all_goals
    have HSV := HS0.out.after HBV.out
    have hRV := HR0.out.below HBV.out HR0.out.lt
    have x0 := HSV.sh.c0
    have x1 := HSV.sh.c1
    have xl := HSV.sh.lt
    have r0 := hRV.c0
    have r1 := hRV.c1
    have f0 := hRV.fz 0
    have f1 := hRV.fz 1
    have rr := hRV.lt
    obtain ⟨W, hW, hbW, _, hTW⟩ := hRV.ret HSV.bel (Nat.le_refl _) 0 1
    have HW : Hid (putS V w.heap.size 0 1 = W) := hW
    have s0 := hTW.c0
    have s1 := hTW.c1
    have HG : Hid (GotS w O (.returned (.tuple #[shV (0, 1), .bool yes])) W) := by
      rw [HY.out.1]
      refine GotS.bool (s := (0, 1)) ?_ hbW
      rw [HV.out]
      cases J <;> simp
    clear HSV hRV HBV HTV HYl hW hbW hTW HY HS0 HR0 HV
    go_wp2
    have hW := HW.out
    unfold putS at hW
    rw [hW]
    refine bodyPost_ret (v := .tuple #[.agg #[.int .i64 0, .int .i64 1], .bool yes]) ?_ rfl ?_
    · simp [results, go_sem, s0, s1]
    · exact HG.out


set_option maxHeartbeats 8000000 in
/-- one behind the other -/
theorem aop_cat {w : World} {lv : Value} {l : List Sh} {op : ByteArray} {O : Option Sh} (h : ShsR w lv l) (hl : l.length = 2) (ho1 : (op.toList == [61, 61]) = false) (ho2 : (op.toList == [60]) = false) (ho3 : (op.toList == [43, 43]) = true) (HV : Hid (O = (joinP (l.getD 0 noS) (l.getD 1 noS)).bind fun t => if (decide (1 ≤ t.1) || decide (t = (0, 2))) = true then some t else none)) : Calls Tryz.prog 126 #[.string op, lv] w (GotS w O) := by
  obtain ⟨a, c, rfl⟩ := h.slice
  rw [hl] at h ⊢
  obtain ⟨g, off, rfl, hg, c0, c1, c2, c3⟩ := h.two (by omega)
  have HJo : Hid (∀ W, Calls Tryz.prog 125 #[shV (l.getD 0 noS), shV (l.getD 1 noS)] W (GotS W (joinP (l.getD 0 noS) (l.getD 1 noS)))) := fun W => ajoin_any _ _ W
  generalize hJ0 : joinP (l.getD 0 noS) (l.getD 1 noS) = J at *
  generalize hA0 : l.getD 0 noS = s0' at *
  generalize hB0 : l.getD 1 noS = s1' at *
  obtain ⟨la, ba⟩ := s0'
  obtain ⟨lb, bb⟩ := s1'
  unfold shV at HJo
  simp only at HJo c0 c1 c2 c3
  have HS : Hid (∀ W, Calls Tryz.prog 123 #[.int .i64 1] W fun e w' => e = .returned (.agg #[.int .i64 0, .int .i64 1]) ∧ Below W.heap.size W w') := fun W => asimple_any 1 W
  have HJ : Hid (Below w.heap.size w (w.alloc (.cells #[.int .i64 0, .int .i64 0] 89)) ∧ ShAt (w.alloc (.cells #[.int .i64 0, .int .i64 0] 89)) w.heap.size 0 0) := ⟨alloc_below w _, ShAt.new w 0 0⟩
  clear h
  go_enter Tryz.func126, Tryz.ntmps126
  go_wp2_with fail
  generalize w.alloc (.cells #[.int .i64 0, .int .i64 0] 89) = w1 at *
  go_at_call 123
  refine (HS.out _).mono ?_
  rintro e w2 ⟨rfl, hb2⟩
  have hb3 := alloc_below w2 (.cells #[.int .i64 0, .int .i64 1] 89)
  have hlo : w.heap.size < w2.heap.size := Nat.lt_of_lt_of_le HJ.out.2.lt hb2.size
  have HS0 : Hid (SR w w2.heap.size 0 1 (w2.alloc (.cells #[.int .i64 0, .int .i64 1] 89))) := ⟨(HJ.out.1.trans (hb2.mono HJ.out.1.size)).trans (hb3.mono (by omega)), ShAt.new w2 0 1, hlo⟩
  have HR0 : Hid (ShAt (w2.alloc (.cells #[.int .i64 0, .int .i64 1] 89)) w.heap.size 0 0) := (HJ.out.2.below hb2 HJ.out.2.lt).below hb3 hlo
  clear hb2 hb3 hlo HS HJ
  go_wp2_with fail
  generalize w2.heap.size = X at *
  generalize w2.alloc (.cells #[.int .i64 0, .int .i64 1] 89) = w3 at *
  have hbw := HS0.out.bel
  have hg3 : g < w3.heap.size := Nat.lt_of_lt_of_le hg hbw.size
  have d0 : w3.cell? ⟨g, off, none⟩ = some (.int .i64 la) := (hbw.cell (p := ⟨g, off, none⟩) hg).trans c0
  have d1 : w3.cell? ⟨g, off + 1, none⟩ = some (.int .i64 ba) := (hbw.cell (p := ⟨g, off + 1, none⟩) hg).trans c1
  have d2 : w3.cell? ⟨g, off + 2, none⟩ = some (.int .i64 lb) := (hbw.cell (p := ⟨g, off + 2, none⟩) hg).trans c2
  have d3 : w3.cell? ⟨g, off + 3, none⟩ = some (.int .i64 bb) := (hbw.cell (p := ⟨g, off + 3, none⟩) hg).trans c3
  have HSA : Hid (Calls Tryz.prog 125 #[.agg #[.int .i64 la, .int .i64 ba], .agg #[.int .i64 lb, .int .i64 bb]] (w3.alloc (.cells #[.int .i64 0, .int .i64 0] 89)).drew fun e w'' => ∃ (u : Sh) (yes : Bool), e = .returned (.tuple #[.agg #[.int .i64 u.1, .int .i64 u.2], .bool yes]) ∧ Hid (Below w3.heap.size w3 w'') ∧ Hid (ShAt w'' w3.heap.size 0 0) ∧ Hid (yes = J.isSome ∧ ∀ s, J = some s → u = s)) := by
    have hba : Below w3.heap.size w3 (w3.alloc (.cells #[.int .i64 0, .int .i64 0] 89)).drew := below_drewG (alloc_below _ _) 1
    have hbx : ShAt (w3.alloc (.cells #[.int .i64 0, .int .i64 0] 89)).drew w3.heap.size 0 0 := ShAt.new w3 0 0
    refine (HJo.out _).mono ?_
    rintro e w' ⟨h1, u, yes, rfl, h2, h3⟩
    exact ⟨u, yes, rfl, hba.trans (h1.mono hba.size), hbx.below h1 hbx.lt, h2, h3⟩
  have HSB : Hid (Calls Tryz.prog 125 #[.agg #[.int .i64 la, .int .i64 ba], .agg #[.int .i64 lb, .int .i64 bb]] w3.drew fun e w'' => ∃ (u : Sh) (yes : Bool), e = .returned (.tuple #[.agg #[.int .i64 u.1, .int .i64 u.2], .bool yes]) ∧ Hid (Below w3.heap.size w3 w'') ∧ Hid (yes = J.isSome ∧ ∀ s, J = some s → u = s)) := by
    have hba : Below w3.heap.size w3 w3.drew := below_drewG (Below.refl _ _) 1
    refine (HJo.out _).mono ?_
    rintro e w' ⟨h1, u, yes, rfl, h2, h3⟩
    exact ⟨u, yes, rfl, hba.trans (h1.mono hba.size), h2, h3⟩
  have HX : Hid (∀ w', Below w3.heap.size w3 w' → w'.cell? ⟨g, off, none⟩ = some (.int .i64 la) ∧ w'.cell? ⟨g, off + 1, none⟩ = some (.int .i64 ba) ∧ w'.cell? ⟨g, off + 2, none⟩ = some (.int .i64 lb) ∧ w'.cell? ⟨g, off + 3, none⟩ = some (.int .i64 bb)) := fun w' hb =>
    ⟨(hb.cell (p := ⟨g, off, none⟩) hg3).trans d0, (hb.cell (p := ⟨g, off + 1, none⟩) hg3).trans d1, (hb.cell (p := ⟨g, off + 2, none⟩) hg3).trans d2, (hb.cell (p := ⟨g, off + 3, none⟩) hg3).trans d3⟩
  have ne1 : w3.heap.size ≠ g := by omega
  clear HJo hbw
  go_region_held3 (fun w' => w'.cell? ⟨g, off, none⟩ = some (.int .i64 la) ∧ w'.cell? ⟨g, off + 1, none⟩ = some (.int .i64 ba) ∧ w'.cell? ⟨g, off + 2, none⟩ = some (.int .i64 lb) ∧ w'.cell? ⟨g, off + 3, none⟩ = some (.int .i64 bb)) (go_keep) ((first | (go_at_call 125; refine HSA.out.mono ?_; rintro e w8 ⟨u, yes, rfl, HB3, HT3, HY⟩; have u0 := HT3.out.c0; have u1 := HT3.out.c1; have u2 := HT3.out.fz 0; have u3 := HT3.out.fz 1; have u4 := HT3.out.lt; obtain ⟨y0, y1, y2, y3⟩ := HX.out w8 HB3.out) | (go_at_call 125; refine HSB.out.mono ?_; rintro e w8 ⟨u, yes, rfl, HB3, HY⟩; obtain ⟨y0, y1, y2, y3⟩ := HX.out w8 HB3.out)))
  all_goals clear d0 d1 d2 d3 HSA HSB HX y0 y1 y2 y3 ne1 hg3
  all_goals first
    | (have HBV : Hid (Below w3.heap.size w3 ((w8.setCell ⟨w3.heap.size, 0, none⟩ (.int .i64 u.1)).setCell ⟨w3.heap.size, 1, none⟩ (.int .i64 u.2))) := below_putS HB3.out (Nat.le_refl _) u.1 u.2
       have HTV : Hid (ShAt ((w8.setCell ⟨w3.heap.size, 0, none⟩ (.int .i64 u.1)).setCell ⟨w3.heap.size, 1, none⟩ (.int .i64 u.2)) w3.heap.size u.1 u.2) := HT3.out.put u.1 u.2
       clear HT3 HB3 u0 u1 u2 u3 u4
       generalize (w8.setCell ⟨w3.heap.size, 0, none⟩ (.int .i64 u.1)).setCell ⟨w3.heap.size, 1, none⟩ (.int .i64 u.2) = V at HBV HTV ⊢
       generalize hY1 : w3.heap.size = Y at HTV ⊢
       have HYl : Hid (w3.heap.size ≤ Y) := Nat.le_of_eq hY1
       clear hY1)
    | (have HBV : Hid (Below w3.heap.size w3 (w8.alloc (.cells #[.int .i64 u.1, .int .i64 u.2] 89))) := HB3.out.trans ((alloc_below _ _).mono HB3.out.size)
       have HTV : Hid (ShAt (w8.alloc (.cells #[.int .i64 u.1, .int .i64 u.2] 89)) w8.heap.size u.1 u.2) := ShAt.new w8 u.1 u.2
       have HYl : Hid (w3.heap.size ≤ w8.heap.size) := HB3.out.size
       clear HB3
       generalize w8.alloc (.cells #[.int .i64 u.1, .int .i64 u.2] 89) = V at HBV HTV ⊢
       generalize w8.heap.size = Y at HTV HYl ⊢)
  all_goals
    have HSV := HS0.out.after HBV.out
    have hRV := HR0.out.below HBV.out HR0.out.lt
    have HS0q : Hid (SR w Y u.1 u.2 V) := ⟨HSV.bel, HTV.out, by have h1 := HYl.out; have h2 := HS0.out.sh.lt; have h3 := HS0.out.lo; omega⟩
    have HR0q : Hid (ShAt V w.heap.size 0 0) := hRV
    clear HSV hRV HBV HTV HYl HS0 HR0
    have HIs : Hid (∀ W, Calls Tryz.prog 146 #[.agg #[.int .i64 u.1, .int .i64 u.2]] W fun e w' => e = .returned (.bool (decide (1 ≤ u.1))) ∧ Below W.heap.size W w') := fun W => aislist_any u W
    have HS2 : Hid (∀ W, Calls Tryz.prog 123 #[.int .i64 2] W fun e w' => e = .returned (.agg #[.int .i64 0, .int .i64 2]) ∧ Below W.heap.size W w') := fun W => asimple_any 2 W
    have HX : Hid (∀ w', SR w Y u.1 u.2 w' → w'.cell? ⟨Y, 0, none⟩ = some (.int .i64 u.1) ∧ w'.cell? ⟨Y, 1, none⟩ = some (.int .i64 u.2)) := fun w' h => ⟨h.sh.c0, h.sh.c1⟩
    obtain ⟨lu, bu⟩ := u
    simp only at *
    cases J with
    | none =>
      have hy : yes = false := HY.out.1
      subst hy
      have HV2 : Hid (O = none) := by show _ = _; rw [HV.out]; rfl
      clear HY HV
      go_wp2_with fail
      have hdr0 : Below V.heap.size V V.drew := below_drewG (Below.refl _ _) 1
      have hSd : (SR w Y lu bu) V.drew := HS0q.out.after hdr0
      have hRd0 : ShAt V.drew w.heap.size 0 0 := HR0q.out.below hdr0 HR0q.out.lt
      clear hdr0
      refine wp_region_held_drew (S := (SR w Y lu bu)) (by kernel_rfl) hSd (fun hHeld => ?_)
      clear hHeld
      generalize V.drew = wd0 at hSd hRd0 ⊢
      refine wpAnyH_take (i := 0) (v := ?_) rfl (by kernel_rfl) (by kernel_rfl) (by kernel_rfl) (fun _ _ _ h => h) (Or.inl ⟨by rfl, ?_⟩) hSd ?_
      rotate_left
      · (intro w9 hSw; obtain ⟨x0, x1⟩ := HX.out w9 hSw; go_simp; first | done | with_reducible rfl)
      refine wpAnyH_take (i := 1) (v := ?_) rfl (by kernel_rfl) (by kernel_rfl) (by kernel_rfl) (fun _ _ _ h => h) (Or.inl ⟨by rfl, ?_⟩) hSd ?_
      rotate_left
      · (intro w9 hSw; obtain ⟨x0, x1⟩ := HX.out w9 hSw; go_simp; first | done | with_reducible rfl)
      refine wpAnyH_take (i := 2) (v := ?_) rfl (by kernel_rfl) (by kernel_rfl) (by kernel_rfl) (fun _ _ _ h => h) (Or.inl ⟨by rfl, ?_⟩) hSd ?_
      rotate_left
      · (intro w9 hSw; obtain ⟨x0, x1⟩ := HX.out w9 hSw; go_simp; first | done | with_reducible rfl)
      refine wpAnyH_take (i := 3) (v := undef) rfl (by kernel_rfl) (by kernel_rfl) (by kernel_rfl) (fun _ _ _ h => h) (Or.inr ⟨by kernel_rfl, rfl⟩) hSd ?_
      refine wpAnyH_take (i := 4) (v := undef) rfl (by kernel_rfl) (by kernel_rfl) (by kernel_rfl) (fun _ _ _ h => h) (Or.inr ⟨by kernel_rfl, rfl⟩) hSd ?_
      refine wpAnyH_take (i := 5) (v := undef) rfl (by kernel_rfl) (by kernel_rfl) (by kernel_rfl) (fun _ _ _ h => h) (Or.inr ⟨by kernel_rfl, rfl⟩) hSd ?_
      refine wpAnyH_take (i := 6) (v := undef) rfl (by kernel_rfl) (by kernel_rfl) (by kernel_rfl) (fun _ _ _ h => h) (Or.inr ⟨by kernel_rfl, rfl⟩) hSd ?_
      refine wpAnyH_take (i := 7) (v := undef) rfl (by kernel_rfl) (by kernel_rfl) (by kernel_rfl) (fun _ _ _ h => h) (Or.inr ⟨by kernel_rfl, rfl⟩) hSd ?_
      refine wpAnyH_take (i := 8) (v := undef) rfl (by kernel_rfl) (by kernel_rfl) (by kernel_rfl) (fun _ _ _ h => h) (Or.inr ⟨by kernel_rfl, rfl⟩) hSd ?_
      refine wpAnyH_take (i := 9) (v := undef) rfl (by kernel_rfl) (by kernel_rfl) (by kernel_rfl) (fun _ _ _ h => h) (Or.inr ⟨by kernel_rfl, rfl⟩) hSd ?_
      refine wpAnyH_take (i := 10) (v := ?_) rfl (by kernel_rfl) (by kernel_rfl) (by kernel_rfl) (fun _ _ _ h => h) (Or.inl ⟨by rfl, ?_⟩) hSd ?_
      rotate_left
      · (intro w9 hSw; obtain ⟨x0, x1⟩ := HX.out w9 hSw; go_simp; first | done | with_reducible rfl)
      simp only [Act.put, List.getElem_toArray, List.getElem_cons_succ, List.getElem_cons_zero, List.setIfInBounds_toArray, List.set_cons_zero, List.set_cons_succ]
      have r0 := hRd0.c0
      have r1 := hRd0.c1
      have f0 := hRd0.fz 0
      have f1 := hRd0.fz 1
      have rr := hRd0.lt
      refine wpAnyH_ready (rs := [11]) (by kernel_rfl) (by simp) ?_
      refine AllReadyH.cons rfl (fun K hK => ?_) AllReadyH.nil
      go_simp
      have hSd1 : (SR w Y lu bu) (putS wd0 w.heap.size lu bu) := hSd.put lu bu
      have hRd1 : ShAt (putS wd0 w.heap.size lu bu) w.heap.size lu bu := hRd0.put lu bu
      change K _ (putS wd0 w.heap.size lu bu)
      refine hK.out _ _ hSd1 (fun hHeld => ?_)
      clear hK K hHeld r0 r1 f0 f1 rr
      generalize putS wd0 w.heap.size lu bu = wd1 at hSd1 hRd1 ⊢
      refine wpAnyH_take (i := 12) (v := ?_) rfl (by kernel_rfl) (by kernel_rfl) (by kernel_rfl) (fun _ _ _ h => h) (Or.inl ⟨by rfl, ?_⟩) hSd1 ?_
      rotate_left
      · (intro w9 hSw; obtain ⟨x0, x1⟩ := HX.out w9 hSw; go_simp; first | done | with_reducible rfl)
      simp only [Act.put, List.getElem_toArray, List.getElem_cons_succ, List.getElem_cons_zero, List.setIfInBounds_toArray, List.set_cons_zero, List.set_cons_succ]
      refine wpAnyH_done (by kernel_rfl) ?_ _
      have s0 := hRd1.c0
      have s1 := hRd1.c1
      have HBW : Hid (Below w.heap.size w wd1) := hSd1.bel
      clear HX
      go_wp2
      refine bodyPost_ret (v := .tuple #[.agg #[.int .i64 lu, .int .i64 bu], .bool false]) ?_ rfl ?_
      · simp [results, go_sem, s0, s1]
      · exact GotS.no (lu, bu) HV2.out HBW.out
    | some t =>
      have hy : yes = true := HY.out.1
      subst hy
      have hu := HY.out.2 t rfl
      subst hu
      by_cases hl1 : 1 ≤ lu
      · have hd : decide (1 ≤ lu) = true := decide_eq_true hl1
        rw [hd] at HIs
        have HV2 : Hid (O = some (lu, bu)) := by show _ = _; rw [HV.out]; simp [hl1]
        clear HY HV
        go_wp2_with fail
        have hdr0 : Below V.heap.size V V.drew := below_drewG (Below.refl _ _) 1
        have hSd : (SR w Y lu bu) V.drew := HS0q.out.after hdr0
        have hRd0 : ShAt V.drew w.heap.size 0 0 := HR0q.out.below hdr0 HR0q.out.lt
        clear hdr0
        refine wp_region_held_drew (S := (SR w Y lu bu)) (by kernel_rfl) hSd (fun hHeld => ?_)
        clear hHeld
        generalize V.drew = wd0 at hSd hRd0 ⊢
        refine wpAnyH_take (i := 0) (v := ?_) rfl (by kernel_rfl) (by kernel_rfl) (by kernel_rfl) (fun _ _ _ h => h) (Or.inl ⟨by rfl, ?_⟩) hSd ?_
        rotate_left
        · (intro w9 hSw; obtain ⟨x0, x1⟩ := HX.out w9 hSw; go_simp; first | done | with_reducible rfl)
        refine wpAnyH_take (i := 1) (v := ?_) rfl (by kernel_rfl) (by kernel_rfl) (by kernel_rfl) (fun _ _ _ h => h) (Or.inl ⟨by rfl, ?_⟩) hSd ?_
        rotate_left
        · (intro w9 hSw; obtain ⟨x0, x1⟩ := HX.out w9 hSw; go_simp; first | done | with_reducible rfl)
        refine wpAnyH_take (i := 2) (v := ?_) rfl (by kernel_rfl) (by kernel_rfl) (by kernel_rfl) (fun _ _ _ h => h) (Or.inl ⟨by rfl, ?_⟩) hSd ?_
        rotate_left
        · (intro w9 hSw; obtain ⟨x0, x1⟩ := HX.out w9 hSw; go_simp; first | done | with_reducible rfl)
        refine wpAnyH_take (i := 3) (v := ?_) rfl (by kernel_rfl) (by kernel_rfl) (by kernel_rfl) (fun _ _ _ h => h) (Or.inl ⟨by rfl, ?_⟩) hSd ?_
        rotate_left
        · (intro w9 hSw; obtain ⟨x0, x1⟩ := HX.out w9 hSw; go_simp; first | done | with_reducible rfl)
        simp only [Act.put, List.getElem_toArray, List.getElem_cons_succ, List.getElem_cons_zero, List.setIfInBounds_toArray, List.set_cons_zero, List.set_cons_succ]
        refine wpAnyH_ready (rs := [4]) (by kernel_rfl) (by simp) ?_
        refine AllReadyH.cons rfl (fun K hK => ?_) AllReadyH.nil
        go_simp
        go_wp2_with (go_at_call 146; refine (HIs.out wd0).mono ?_; rintro e wd1 ⟨rfl, hbd1⟩)
        have hSd1 : (SR w Y lu bu) wd1 := hSd.after hbd1
        have hRd1 : ShAt wd1 w.heap.size 0 0 := hRd0.below hbd1 hRd0.lt
        refine hK.out _ _ hSd1 (fun hHeld => ?_)
        clear hK K hHeld
        refine wpAnyH_take (i := 5) (v := ?_) rfl (by kernel_rfl) (by kernel_rfl) (by kernel_rfl) (fun _ _ _ h => h) (Or.inl ⟨by rfl, ?_⟩) hSd1 ?_
        rotate_left
        · (intro w9 hSw; obtain ⟨x0, x1⟩ := HX.out w9 hSw; go_simp; first | done | with_reducible rfl)
        refine wpAnyH_take (i := 6) (v := undef) rfl (by kernel_rfl) (by kernel_rfl) (by kernel_rfl) (fun _ _ _ h => h) (Or.inr ⟨by kernel_rfl, rfl⟩) hSd1 ?_
        refine wpAnyH_take (i := 7) (v := undef) rfl (by kernel_rfl) (by kernel_rfl) (by kernel_rfl) (fun _ _ _ h => h) (Or.inr ⟨by kernel_rfl, rfl⟩) hSd1 ?_
        refine wpAnyH_take (i := 8) (v := undef) rfl (by kernel_rfl) (by kernel_rfl) (by kernel_rfl) (fun _ _ _ h => h) (Or.inr ⟨by kernel_rfl, rfl⟩) hSd1 ?_
        refine wpAnyH_take (i := 9) (v := ?_) rfl (by kernel_rfl) (by kernel_rfl) (by kernel_rfl) (fun _ _ _ h => h) (Or.inl ⟨by rfl, ?_⟩) hSd1 ?_
        rotate_left
        · (intro w9 hSw; obtain ⟨x0, x1⟩ := HX.out w9 hSw; go_simp; first | done | with_reducible rfl)
        refine wpAnyH_take (i := 10) (v := ?_) rfl (by kernel_rfl) (by kernel_rfl) (by kernel_rfl) (fun _ _ _ h => h) (Or.inl ⟨by rfl, ?_⟩) hSd1 ?_
        rotate_left
        · (intro w9 hSw; obtain ⟨x0, x1⟩ := HX.out w9 hSw; go_simp; first | done | with_reducible rfl)
        simp only [Act.put, List.getElem_toArray, List.getElem_cons_succ, List.getElem_cons_zero, List.setIfInBounds_toArray, List.set_cons_zero, List.set_cons_succ]
        have r0 := hRd1.c0
        have r1 := hRd1.c1
        have f0 := hRd1.fz 0
        have f1 := hRd1.fz 1
        have rr := hRd1.lt
        refine wpAnyH_ready (rs := [11]) (by kernel_rfl) (by simp) ?_
        refine AllReadyH.cons rfl (fun K hK => ?_) AllReadyH.nil
        go_simp
        have hSd2 : (SR w Y lu bu) (putS wd1 w.heap.size lu bu) := hSd1.put lu bu
        have hRd2 : ShAt (putS wd1 w.heap.size lu bu) w.heap.size lu bu := hRd1.put lu bu
        change K _ (putS wd1 w.heap.size lu bu)
        refine hK.out _ _ hSd2 (fun hHeld => ?_)
        clear hK K hHeld r0 r1 f0 f1 rr
        generalize putS wd1 w.heap.size lu bu = wd2 at hSd2 hRd2 ⊢
        refine wpAnyH_take (i := 12) (v := ?_) rfl (by kernel_rfl) (by kernel_rfl) (by kernel_rfl) (fun _ _ _ h => h) (Or.inl ⟨by rfl, ?_⟩) hSd2 ?_
        rotate_left
        · (intro w9 hSw; obtain ⟨x0, x1⟩ := HX.out w9 hSw; go_simp; first | done | with_reducible rfl)
        simp only [Act.put, List.getElem_toArray, List.getElem_cons_succ, List.getElem_cons_zero, List.setIfInBounds_toArray, List.set_cons_zero, List.set_cons_succ]
        refine wpAnyH_done (by kernel_rfl) ?_ _
        have s0 := hRd2.c0
        have s1 := hRd2.c1
        have HBW : Hid (Below w.heap.size w wd2) := hSd2.bel
        clear HX
        go_wp2
        refine bodyPost_ret (v := .tuple #[.agg #[.int .i64 lu, .int .i64 bu], .bool true]) ?_ rfl ?_
        · simp [results, go_sem, s0, s1]
        · exact GotS.yes (s := (lu, bu)) HV2.out HBW.out
      · have hd : decide (1 ≤ lu) = false := decide_eq_false hl1
        rw [hd] at HIs
        obtain rfl : lu = 0 := by omega
        by_cases hb2 : bu = 2
        · subst hb2
          have HV2 : Hid (O = some (0, 2)) := by show _ = _; rw [HV.out]; rfl
          clear HY HV
          go_wp2_with fail
          have hdr0 : Below V.heap.size V V.drew := below_drewG (Below.refl _ _) 1
          have hSd : (SR w Y ((0 : Nat) : Int) 2) V.drew := HS0q.out.after hdr0
          have hRd0 : ShAt V.drew w.heap.size 0 0 := HR0q.out.below hdr0 HR0q.out.lt
          clear hdr0
          refine wp_region_held_drew (S := (SR w Y ((0 : Nat) : Int) 2)) (by kernel_rfl) hSd (fun hHeld => ?_)
          clear hHeld
          generalize V.drew = wd0 at hSd hRd0 ⊢
          refine wpAnyH_take (i := 0) (v := ?_) rfl (by kernel_rfl) (by kernel_rfl) (by kernel_rfl) (fun _ _ _ h => h) (Or.inl ⟨by rfl, ?_⟩) hSd ?_
          rotate_left
          · (intro w9 hSw; obtain ⟨x0, x1⟩ := HX.out w9 hSw; go_simp; first | done | with_reducible rfl)
          refine wpAnyH_take (i := 1) (v := ?_) rfl (by kernel_rfl) (by kernel_rfl) (by kernel_rfl) (fun _ _ _ h => h) (Or.inl ⟨by rfl, ?_⟩) hSd ?_
          rotate_left
          · (intro w9 hSw; obtain ⟨x0, x1⟩ := HX.out w9 hSw; go_simp; first | done | with_reducible rfl)
          refine wpAnyH_take (i := 2) (v := ?_) rfl (by kernel_rfl) (by kernel_rfl) (by kernel_rfl) (fun _ _ _ h => h) (Or.inl ⟨by rfl, ?_⟩) hSd ?_
          rotate_left
          · (intro w9 hSw; obtain ⟨x0, x1⟩ := HX.out w9 hSw; go_simp; first | done | with_reducible rfl)
          refine wpAnyH_take (i := 3) (v := ?_) rfl (by kernel_rfl) (by kernel_rfl) (by kernel_rfl) (fun _ _ _ h => h) (Or.inl ⟨by rfl, ?_⟩) hSd ?_
          rotate_left
          · (intro w9 hSw; obtain ⟨x0, x1⟩ := HX.out w9 hSw; go_simp; first | done | with_reducible rfl)
          simp only [Act.put, List.getElem_toArray, List.getElem_cons_succ, List.getElem_cons_zero, List.setIfInBounds_toArray, List.set_cons_zero, List.set_cons_succ]
          refine wpAnyH_ready (rs := [4]) (by kernel_rfl) (by simp) ?_
          refine AllReadyH.cons rfl (fun K hK => ?_) AllReadyH.nil
          go_simp
          go_wp2_with (go_at_call 146; refine (HIs.out wd0).mono ?_; rintro e wd1 ⟨rfl, hbd1⟩)
          have hSd1 : (SR w Y ((0 : Nat) : Int) 2) wd1 := hSd.after hbd1
          have hRd1 : ShAt wd1 w.heap.size 0 0 := hRd0.below hbd1 hRd0.lt
          refine hK.out _ _ hSd1 (fun hHeld => ?_)
          clear hK K hHeld
          refine wpAnyH_take (i := 5) (v := ?_) rfl (by kernel_rfl) (by kernel_rfl) (by kernel_rfl) (fun _ _ _ h => h) (Or.inl ⟨by rfl, ?_⟩) hSd1 ?_
          rotate_left
          · (intro w9 hSw; obtain ⟨x0, x1⟩ := HX.out w9 hSw; go_simp; first | done | with_reducible rfl)
          refine wpAnyH_take (i := 6) (v := ?_) rfl (by kernel_rfl) (by kernel_rfl) (by kernel_rfl) (fun _ _ _ h => h) (Or.inl ⟨by rfl, ?_⟩) hSd1 ?_
          rotate_left
          · (intro w9 hSw; obtain ⟨x0, x1⟩ := HX.out w9 hSw; go_simp; first | done | with_reducible rfl)
          simp only [Act.put, List.getElem_toArray, List.getElem_cons_succ, List.getElem_cons_zero, List.setIfInBounds_toArray, List.set_cons_zero, List.set_cons_succ]
          refine wpAnyH_ready (rs := [7]) (by kernel_rfl) (by simp) ?_
          refine AllReadyH.cons rfl (fun K hK => ?_) AllReadyH.nil
          go_simp
          go_wp2_with (go_at_call 123; refine (HS2.out wd1).mono ?_; rintro e wd2 ⟨rfl, hbd2⟩)
          have hSd2 : (SR w Y ((0 : Nat) : Int) 2) wd2 := hSd1.after hbd2
          have hRd2 : ShAt wd2 w.heap.size 0 0 := hRd1.below hbd2 hRd1.lt
          refine hK.out _ _ hSd2 (fun hHeld => ?_)
          clear hK K hHeld
          refine wpAnyH_take (i := 8) (v := ?_) rfl (by kernel_rfl) (by kernel_rfl) (by kernel_rfl) (fun _ _ _ h => h) (Or.inl ⟨by rfl, ?_⟩) hSd2 ?_
          rotate_left
          · (intro w9 hSw; obtain ⟨x0, x1⟩ := HX.out w9 hSw; go_simp; first | done | with_reducible rfl)
          refine wpAnyH_take (i := 9) (v := ?_) rfl (by kernel_rfl) (by kernel_rfl) (by kernel_rfl) (fun _ _ _ h => h) (Or.inl ⟨by rfl, ?_⟩) hSd2 ?_
          rotate_left
          · (intro w9 hSw; obtain ⟨x0, x1⟩ := HX.out w9 hSw; go_simp; first | done | with_reducible rfl)
          refine wpAnyH_take (i := 10) (v := ?_) rfl (by kernel_rfl) (by kernel_rfl) (by kernel_rfl) (fun _ _ _ h => h) (Or.inl ⟨by rfl, ?_⟩) hSd2 ?_
          rotate_left
          · (intro w9 hSw; obtain ⟨x0, x1⟩ := HX.out w9 hSw; go_simp; first | done | with_reducible rfl)
          simp only [Act.put, List.getElem_toArray, List.getElem_cons_succ, List.getElem_cons_zero, List.setIfInBounds_toArray, List.set_cons_zero, List.set_cons_succ]
          have r0 := hRd2.c0
          have r1 := hRd2.c1
          have f0 := hRd2.fz 0
          have f1 := hRd2.fz 1
          have rr := hRd2.lt
          refine wpAnyH_ready (rs := [11]) (by kernel_rfl) (by simp) ?_
          refine AllReadyH.cons rfl (fun K hK => ?_) AllReadyH.nil
          go_simp
          have hSd3 : (SR w Y ((0 : Nat) : Int) 2) (putS wd2 w.heap.size ((0 : Nat) : Int) 2) := hSd2.put ((0 : Nat) : Int) 2
          have hRd3 : ShAt (putS wd2 w.heap.size ((0 : Nat) : Int) 2) w.heap.size ((0 : Nat) : Int) 2 := hRd2.put ((0 : Nat) : Int) 2
          change K _ (putS wd2 w.heap.size ((0 : Nat) : Int) 2)
          refine hK.out _ _ hSd3 (fun hHeld => ?_)
          clear hK K hHeld r0 r1 f0 f1 rr
          generalize putS wd2 w.heap.size ((0 : Nat) : Int) 2 = wd3 at hSd3 hRd3 ⊢
          refine wpAnyH_take (i := 12) (v := ?_) rfl (by kernel_rfl) (by kernel_rfl) (by kernel_rfl) (fun _ _ _ h => h) (Or.inl ⟨by rfl, ?_⟩) hSd3 ?_
          rotate_left
          · (intro w9 hSw; obtain ⟨x0, x1⟩ := HX.out w9 hSw; go_simp; first | done | with_reducible rfl)
          simp only [Act.put, List.getElem_toArray, List.getElem_cons_succ, List.getElem_cons_zero, List.setIfInBounds_toArray, List.set_cons_zero, List.set_cons_succ]
          refine wpAnyH_done (by kernel_rfl) ?_ _
          have s0 := hRd3.c0
          have s1 := hRd3.c1
          have HBW : Hid (Below w.heap.size w wd3) := hSd3.bel
          clear HX
          go_wp2
          refine bodyPost_ret (v := .tuple #[.agg #[.int .i64 0, .int .i64 2], .bool true]) ?_ rfl ?_
          · simp [results, go_sem, s0, s1]
          · exact GotS.yes (s := (0, 2)) HV2.out HBW.out
        · have HV2 : Hid (O = none) := by show _ = _; rw [HV.out]; simp [hb2]
          clear HY HV
          go_wp2_with fail
          have hdr0 : Below V.heap.size V V.drew := below_drewG (Below.refl _ _) 1
          have hSd : (SR w Y ((0 : Nat) : Int) bu) V.drew := HS0q.out.after hdr0
          have hRd0 : ShAt V.drew w.heap.size 0 0 := HR0q.out.below hdr0 HR0q.out.lt
          clear hdr0
          refine wp_region_held_drew (S := (SR w Y ((0 : Nat) : Int) bu)) (by kernel_rfl) hSd (fun hHeld => ?_)
          clear hHeld
          generalize V.drew = wd0 at hSd hRd0 ⊢
          refine wpAnyH_take (i := 0) (v := ?_) rfl (by kernel_rfl) (by kernel_rfl) (by kernel_rfl) (fun _ _ _ h => h) (Or.inl ⟨by rfl, ?_⟩) hSd ?_
          rotate_left
          · (intro w9 hSw; obtain ⟨x0, x1⟩ := HX.out w9 hSw; go_simp; first | done | with_reducible rfl)
          refine wpAnyH_take (i := 1) (v := ?_) rfl (by kernel_rfl) (by kernel_rfl) (by kernel_rfl) (fun _ _ _ h => h) (Or.inl ⟨by rfl, ?_⟩) hSd ?_
          rotate_left
          · (intro w9 hSw; obtain ⟨x0, x1⟩ := HX.out w9 hSw; go_simp; first | done | with_reducible rfl)
          refine wpAnyH_take (i := 2) (v := ?_) rfl (by kernel_rfl) (by kernel_rfl) (by kernel_rfl) (fun _ _ _ h => h) (Or.inl ⟨by rfl, ?_⟩) hSd ?_
          rotate_left
          · (intro w9 hSw; obtain ⟨x0, x1⟩ := HX.out w9 hSw; go_simp; first | done | with_reducible rfl)
          refine wpAnyH_take (i := 3) (v := ?_) rfl (by kernel_rfl) (by kernel_rfl) (by kernel_rfl) (fun _ _ _ h => h) (Or.inl ⟨by rfl, ?_⟩) hSd ?_
          rotate_left
          · (intro w9 hSw; obtain ⟨x0, x1⟩ := HX.out w9 hSw; go_simp; first | done | with_reducible rfl)
          simp only [Act.put, List.getElem_toArray, List.getElem_cons_succ, List.getElem_cons_zero, List.setIfInBounds_toArray, List.set_cons_zero, List.set_cons_succ]
          refine wpAnyH_ready (rs := [4]) (by kernel_rfl) (by simp) ?_
          refine AllReadyH.cons rfl (fun K hK => ?_) AllReadyH.nil
          go_simp
          go_wp2_with (go_at_call 146; refine (HIs.out wd0).mono ?_; rintro e wd1 ⟨rfl, hbd1⟩)
          have hSd1 : (SR w Y ((0 : Nat) : Int) bu) wd1 := hSd.after hbd1
          have hRd1 : ShAt wd1 w.heap.size 0 0 := hRd0.below hbd1 hRd0.lt
          refine hK.out _ _ hSd1 (fun hHeld => ?_)
          clear hK K hHeld
          refine wpAnyH_take (i := 5) (v := ?_) rfl (by kernel_rfl) (by kernel_rfl) (by kernel_rfl) (fun _ _ _ h => h) (Or.inl ⟨by rfl, ?_⟩) hSd1 ?_
          rotate_left
          · (intro w9 hSw; obtain ⟨x0, x1⟩ := HX.out w9 hSw; go_simp; first | done | with_reducible rfl)
          refine wpAnyH_take (i := 6) (v := ?_) rfl (by kernel_rfl) (by kernel_rfl) (by kernel_rfl) (fun _ _ _ h => h) (Or.inl ⟨by rfl, ?_⟩) hSd1 ?_
          rotate_left
          · (intro w9 hSw; obtain ⟨x0, x1⟩ := HX.out w9 hSw; go_simp; first | done | with_reducible rfl)
          simp only [Act.put, List.getElem_toArray, List.getElem_cons_succ, List.getElem_cons_zero, List.setIfInBounds_toArray, List.set_cons_zero, List.set_cons_succ]
          refine wpAnyH_ready (rs := [7]) (by kernel_rfl) (by simp) ?_
          refine AllReadyH.cons rfl (fun K hK => ?_) AllReadyH.nil
          go_simp
          go_wp2_with (go_at_call 123; refine (HS2.out wd1).mono ?_; rintro e wd2 ⟨rfl, hbd2⟩)
          have hSd2 : (SR w Y ((0 : Nat) : Int) bu) wd2 := hSd1.after hbd2
          have hRd2 : ShAt wd2 w.heap.size 0 0 := hRd1.below hbd2 hRd1.lt
          refine hK.out _ _ hSd2 (fun hHeld => ?_)
          clear hK K hHeld
          refine wpAnyH_take (i := 8) (v := ?_) rfl (by kernel_rfl) (by kernel_rfl) (by kernel_rfl) (fun _ _ _ h => h) (Or.inl ⟨by rfl, ?_⟩) hSd2 ?_
          rotate_left
          · (intro w9 hSw; obtain ⟨x0, x1⟩ := HX.out w9 hSw; go_simp; first | done | with_reducible rfl)
          refine wpAnyH_take (i := 9) (v := ?_) rfl (by kernel_rfl) (by kernel_rfl) (by kernel_rfl) (fun _ _ _ h => h) (Or.inl ⟨by rfl, ?_⟩) hSd2 ?_
          rotate_left
          · (intro w9 hSw; obtain ⟨x0, x1⟩ := HX.out w9 hSw; go_simp; first | done | with_reducible rfl)
          refine wpAnyH_take (i := 10) (v := ?_) rfl (by kernel_rfl) (by kernel_rfl) (by kernel_rfl) (fun _ _ _ h => h) (Or.inl ⟨by rfl, ?_⟩) hSd2 ?_
          rotate_left
          · (intro w9 hSw; obtain ⟨x0, x1⟩ := HX.out w9 hSw; go_simp; first | done | with_reducible rfl)
          simp only [Act.put, List.getElem_toArray, List.getElem_cons_succ, List.getElem_cons_zero, List.setIfInBounds_toArray, List.set_cons_zero, List.set_cons_succ]
          have r0 := hRd2.c0
          have r1 := hRd2.c1
          have f0 := hRd2.fz 0
          have f1 := hRd2.fz 1
          have rr := hRd2.lt
          refine wpAnyH_ready (rs := [11]) (by kernel_rfl) (by simp) ?_
          refine AllReadyH.cons rfl (fun K hK => ?_) AllReadyH.nil
          go_simp
          have hSd3 : (SR w Y ((0 : Nat) : Int) bu) (putS wd2 w.heap.size ((0 : Nat) : Int) bu) := hSd2.put ((0 : Nat) : Int) bu
          have hRd3 : ShAt (putS wd2 w.heap.size ((0 : Nat) : Int) bu) w.heap.size ((0 : Nat) : Int) bu := hRd2.put ((0 : Nat) : Int) bu
          change K _ (putS wd2 w.heap.size ((0 : Nat) : Int) bu)
          refine hK.out _ _ hSd3 (fun hHeld => ?_)
          clear hK K hHeld r0 r1 f0 f1 rr
          generalize putS wd2 w.heap.size ((0 : Nat) : Int) bu = wd3 at hSd3 hRd3 ⊢
          refine wpAnyH_take (i := 12) (v := ?_) rfl (by kernel_rfl) (by kernel_rfl) (by kernel_rfl) (fun _ _ _ h => h) (Or.inl ⟨by rfl, ?_⟩) hSd3 ?_
          rotate_left
          · (intro w9 hSw; obtain ⟨x0, x1⟩ := HX.out w9 hSw; go_simp; first | done | with_reducible rfl)
          simp only [Act.put, List.getElem_toArray, List.getElem_cons_succ, List.getElem_cons_zero, List.setIfInBounds_toArray, List.set_cons_zero, List.set_cons_succ]
          refine wpAnyH_done (by kernel_rfl) ?_ _
          have s0 := hRd3.c0
          have s1 := hRd3.c1
          have HBW : Hid (Below w.heap.size w wd3) := hSd3.bel
          clear HX
          go_wp2
          refine bodyPost_ret (v := .tuple #[.agg #[.int .i64 0, .int .i64 bu], .bool false]) ?_ rfl ?_
          · simp [results, go_sem, s0, s1]
          · exact GotS.no (0, bu) HV2.out HBW.out


end Go.Proofs.YtgmmfpdekefamaaGreatDoor
