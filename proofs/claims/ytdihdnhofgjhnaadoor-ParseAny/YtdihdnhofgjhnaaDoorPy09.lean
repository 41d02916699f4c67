/- Texts of the proof, put together: YFit. -/
import Derived.Test.YtdihdnhofgjhnaaDoorPy08
import Derived.Deep.RegionHeld3
namespace Go.Proofs.YtdihdnhofgjhnaaDoor
open Go.RowKit
set_option linter.unusedVariables false
set_option maxRecDepth 100000

theorem box2_cells (w : World) (a b : Value) (ty : TypeId) : (w.alloc (.cells #[a, b] ty)).cell? ⟨w.heap.size, 0, none⟩ = some a ∧ (w.alloc (.cells #[a, b] ty)).cell? ⟨w.heap.size, 1, none⟩ = some b := by
  have h : (w.alloc (.cells #[a, b] ty)).heap[w.heap.size]? = some (.cells #[a, b] ty) := by
    show (w.heap.push _)[w.heap.size]? = _
    exact Array.getElem?_push_size
  refine ⟨?_, ?_⟩ <;> · simp only [World.cell?, h]; rfl

set_option maxHeartbeats 4000000 in
theorem actFits_any (g : Gm) (pv lv sv : Value) (n : Nat) (k : Int) (a : Ac) (w : World) (hp : ∃ pa pc, pv = .slice pa g.prods.length pc) :
    Calls Tryd.prog 51 #[gv g pv lv sv, .int .i64 n, .int .i64 k, .agg #[.int .i64 a.kind, .int .i64 a.to]] w fun e w' => e = .returned (.bool (actB (decide (k = g.terms)) n g.prods.length a)) ∧ Below w.heap.size w w' := by
  obtain ⟨pa, pc, rfl⟩ := hp
  have hB0 := boxG_below w g (.slice pa g.prods.length pc) lv sv
  have hB1 := boxG_size w g (.slice pa g.prods.length pc) lv sv
  have hB2 := boxG_box w g (.slice pa g.prods.length pc) lv sv
  have HB : Hid (Below w.heap.size w ((boxG w g (.slice pa g.prods.length pc) lv sv).alloc (.cells #[.int .i64 a.kind, .int .i64 a.to] 53))) := hB0.trans ((alloc_below _ _).mono (by omega))
  obtain ⟨_, q1, _, _, q4, _, _⟩ := hB2.below (K := w.heap.size + 1) (Nat.lt_succ_self _) ((alloc_below (boxG w g (.slice pa g.prods.length pc) lv sv) (.cells #[.int .i64 a.kind, .int .i64 a.to] 53)).mono (by omega))
  obtain ⟨r0, r1⟩ := box2_cells (boxG w g (.slice pa g.prods.length pc) lv sv) (.int .i64 a.kind) (.int .i64 a.to) 53
  rw [hB1] at r0 r1
  generalize hR : actB (decide (k = g.terms)) n g.prods.length a = R at *
  have HR : Hid (actB (decide (k = g.terms)) n g.prods.length a = R) := hR
  clear hR hB0 hB1 hB2
  unfold actB at HR
  obtain ⟨kind, to⟩ := a
  simp only at *
  unfold gv gvs
  unfold boxG gvs at *
  by_cases he : k = g.terms
  · have d0 : (k == g.terms) = true := by rw [beq_iff_eq]; exact he
    by_cases h0 : kind = 0
    · subst h0
      have HZ : Hid (R = (to == 0)) := by show _ = _; rw [← HR.out, Bool.eq_iff_iff]; simp
      clear HR he
      go_enter Tryd.func51, Tryd.ntmps51
      go_wp2
      go_ret
      exact ⟨by rw [HZ.out]; rfl, HB.out⟩
    have k0 : (kind == 0) = false := by rw [beq_eq_false_iff_ne]; exact h0
    by_cases h1 : kind = 1
    · subst h1
      have HZ : Hid (R = false) := by show _ = _; rw [← HR.out]; simp [he]
      clear HR he
      go_enter Tryd.func51, Tryd.ntmps51
      go_wp2
      go_ret
      exact ⟨by rw [HZ.out]; rfl, HB.out⟩
    have k1 : (kind == 1) = false := by rw [beq_eq_false_iff_ne]; exact h1
    by_cases h2 : kind = 2
    · subst h2
      by_cases ht : to ≥ 0
      · have dt : decide (to ≥ 0) = true := decide_eq_true ht
        have HZ : Hid (R = decide (to < (g.prods.length : Int))) := by show _ = _; rw [← HR.out]; simp [show 0 ≤ to from ht]
        clear HR he
        go_enter Tryd.func51, Tryd.ntmps51
        go_wp2
        go_ret
        exact ⟨by rw [HZ.out]; rfl, HB.out⟩
      · have dt : decide (to ≥ 0) = false := decide_eq_false ht
        have HZ : Hid (R = false) := by show _ = _; rw [← HR.out]; simp [show ¬ 0 ≤ to from ht]
        clear HR he
        go_enter Tryd.func51, Tryd.ntmps51
        go_wp2
        go_ret
        exact ⟨by rw [HZ.out]; rfl, HB.out⟩
    have k2 : (kind == 2) = false := by rw [beq_eq_false_iff_ne]; exact h2
    by_cases h3 : kind = 3
    · subst h3
      have HZ : Hid (R = (to == 0)) := by show _ = _; rw [← HR.out, Bool.eq_iff_iff]; simp [he]
      clear HR he
      go_enter Tryd.func51, Tryd.ntmps51
      go_wp2
      go_ret
      exact ⟨by rw [HZ.out]; rfl, HB.out⟩
    have k3 : (kind == 3) = false := by rw [beq_eq_false_iff_ne]; exact h3
    have HZ : Hid (R = false) := by show _ = _; rw [← HR.out]; simp [h0, h1, h2, h3]
    clear HR he
    go_enter Tryd.func51, Tryd.ntmps51
    go_wp2
    go_ret
    exact ⟨by rw [HZ.out]; rfl, HB.out⟩
  · have d0 : (k == g.terms) = false := by rw [beq_eq_false_iff_ne]; exact he
    by_cases h0 : kind = 0
    · subst h0
      have HZ : Hid (R = (to == 0)) := by show _ = _; rw [← HR.out, Bool.eq_iff_iff]; simp
      clear HR he
      go_enter Tryd.func51, Tryd.ntmps51
      go_wp2
      go_ret
      exact ⟨by rw [HZ.out]; rfl, HB.out⟩
    have k0 : (kind == 0) = false := by rw [beq_eq_false_iff_ne]; exact h0
    by_cases h1 : kind = 1
    · subst h1
      by_cases ht : to ≥ 0
      · have dt : decide (to ≥ 0) = true := decide_eq_true ht
        have HZ : Hid (R = decide (to < (n : Int))) := by show _ = _; rw [← HR.out]; simp [show 0 ≤ to from ht, he]
        clear HR he
        go_enter Tryd.func51, Tryd.ntmps51
        go_wp2
        go_ret
        exact ⟨by rw [HZ.out]; rfl, HB.out⟩
      · have dt : decide (to ≥ 0) = false := decide_eq_false ht
        have HZ : Hid (R = false) := by show _ = _; rw [← HR.out]; simp [show ¬ 0 ≤ to from ht]
        clear HR he
        go_enter Tryd.func51, Tryd.ntmps51
        go_wp2
        go_ret
        exact ⟨by rw [HZ.out]; rfl, HB.out⟩
    have k1 : (kind == 1) = false := by rw [beq_eq_false_iff_ne]; exact h1
    by_cases h2 : kind = 2
    · subst h2
      by_cases ht : to ≥ 0
      · have dt : decide (to ≥ 0) = true := decide_eq_true ht
        have HZ : Hid (R = decide (to < (g.prods.length : Int))) := by show _ = _; rw [← HR.out]; simp [show 0 ≤ to from ht]
        clear HR he
        go_enter Tryd.func51, Tryd.ntmps51
        go_wp2
        go_ret
        exact ⟨by rw [HZ.out]; rfl, HB.out⟩
      · have dt : decide (to ≥ 0) = false := decide_eq_false ht
        have HZ : Hid (R = false) := by show _ = _; rw [← HR.out]; simp [show ¬ 0 ≤ to from ht]
        clear HR he
        go_enter Tryd.func51, Tryd.ntmps51
        go_wp2
        go_ret
        exact ⟨by rw [HZ.out]; rfl, HB.out⟩
    have k2 : (kind == 2) = false := by rw [beq_eq_false_iff_ne]; exact h2
    by_cases h3 : kind = 3
    · subst h3
      have HZ : Hid (R = false) := by show _ = _; rw [← HR.out]; simp [he]
      clear HR he
      go_enter Tryd.func51, Tryd.ntmps51
      go_wp2
      go_ret
      exact ⟨by rw [HZ.out]; rfl, HB.out⟩
    have k3 : (kind == 3) = false := by rw [beq_eq_false_iff_ne]; exact h3
    have HZ : Hid (R = false) := by show _ = _; rw [← HR.out]; simp [h0, h1, h2, h3]
    clear HR he
    go_enter Tryd.func51, Tryd.ntmps51
    go_wp2
    go_ret
    exact ⟨by rw [HZ.out]; rfl, HB.out⟩

theorem all_rangeG (n k : Nat) (f : Nat → Bool) (h : k < n) : ((List.range n).drop k).all f = (f k && ((List.range n).drop (k + 1)).all f) := by
  rw [List.drop_eq_getElem_cons (by simpa using h), List.all_cons]
  simp

set_option maxHeartbeats 4000000 in
theorem actsFit_any (g : Gm) (pv lv sv : Value) (n : Nat) (l : List Ac) (v : Value) (w : World) (hp : ∃ pa pc, pv = .slice pa g.prods.length pc) (ht : 0 ≤ g.terms ∧ g.terms ≤ 300) (hl : AcsM w v l) :
    Calls Tryd.prog 31 #[gv g pv lv sv, .int .i64 n, v] w fun e w' => e = .returned (.bool (actsB g.terms n g.prods.length l)) ∧ Below w.heap.size w w' := by
  have hB0 := boxG_below w g pv lv sv
  have HBX : Hid (BoxG (boxG w g pv lv sv) w.heap.size g pv lv sv) := boxG_box w g pv lv sv
  have HC : Hid (∀ w' (k : Int) (a : Ac), Calls Tryd.prog 51 #[gv g pv lv sv, .int .i64 n, .int .i64 k, .agg #[.int .i64 a.kind, .int .i64 a.to]] w' fun e w'' => e = .returned (.bool (actB (decide (k = g.terms)) n g.prods.length a)) ∧ Below w'.heap.size w' w'') := fun w' k a => actFits_any g pv lv sv n k a w' hp
  obtain ⟨la, lc, rfl⟩ := hl.slice
  have HL : Hid (AcsM w (.slice la l.length lc) l) := hl
  clear hl hp
  generalize hR : actsB g.terms n g.prods.length l = R at *
  have HR : Hid (actsB g.terms n g.prods.length l = R) := hR
  clear hR
  unfold actsB at HR
  have hw1 : IntKind.i64.wrap (g.terms + 1) = g.terms + 1 := by rw [IntKind.wrap_i64]; omega
  obtain ⟨q0, q1, q2, q3, q4, q5, q6⟩ := HBX.out
  unfold gv gvs at *
  have HWB : Hid (w.alloc (.cells #[.int .i64 g.terms, .int .i64 g.names, .int .i64 g.start, pv, lv, sv] 25) = boxG w g pv lv sv) := rfl
  have HB0 : Hid (Below w.heap.size w (boxG w g pv lv sv)) := hB0
  clear hB0
  generalize boxG w g pv lv sv = W1 at *
  by_cases hlen : (l.length : Int) = g.terms + 1
  case neg =>
    have d0 : ((l.length : Int) != g.terms + 1) = true := by rw [bne_iff_ne]; exact hlen
    have HZ : Hid (R = false) := by show _ = _; rw [← HR.out]; simp [hlen]
    clear HR hlen
    go_enter Tryd.func31, Tryd.ntmps31
    go_wp2_with fail
    rw [HWB.out]
    go_wp2
    go_ret
    exact ⟨by rw [HZ.out]; rfl, HB0.out⟩
  have d0 : ((l.length : Int) != g.terms + 1) = false := by simp [hlen]
  have HR2 : Hid (R = ((List.range l.length).drop 0).all fun k => actB (decide ((k : Int) = g.terms)) n g.prods.length (l.getD k noAc)) := by
    show _ = _
    rw [← HR.out, decide_eq_true hlen, Bool.true_and, List.drop_zero]
  have hll : l.length ≤ 301 := by omega
  clear HR hlen
  go_enter Tryd.func31, Tryd.ntmps31
  go_wp2_with fail
  rw [HWB.out]
  go_wp2
  go_loopw [17] (fun iv wr => ∃ k : Nat, k ≤ l.length ∧ iv = .int .i64 k ∧ Hid (R = ((List.range l.length).drop k).all fun k => actB (decide ((k : Int) = g.terms)) n g.prods.length (l.getD k noAc)) ∧ Hid (Below (w.heap.size + 1) W1 wr)) (fun iv _ => l.length - (intOf iv).toNat)
  case atStart => exact ⟨0, Nat.zero_le _, rfl, HR2, Below.refl _ _⟩
  case round =>
    obtain ⟨k, hk, rfl, HM, HBW⟩ := hrel
    have hbw := HB0.out.trans (HBW.out.mono (Nat.le_succ _))
    have HX2 : Hid (BoxG wr w.heap.size g pv lv sv) := HBX.out.below (Nat.lt_succ_self _) HBW.out
    by_cases hlt : k < l.length
    · obtain ⟨b, off, rfl, hb, hc0, hc1⟩ := (HL.out.below hbw).at hlt
      have HA : Hid (((List.range l.length).drop k).all (fun k => actB (decide ((k : Int) = g.terms)) n g.prods.length (l.getD k noAc)) = (actB (decide ((k : Int) = g.terms)) n g.prods.length (l.getD k noAc) && ((List.range l.length).drop (k + 1)).all fun k => actB (decide ((k : Int) = g.terms)) n g.prods.length (l.getD k noAc))) := all_rangeG _ _ _ hlt
      have HCk := fun w' => HC.out w' (k : Int) (l.getD k noAc)
      generalize l.getD k noAc = a at *
      obtain ⟨kind, to⟩ := a
      simp only at *
      obtain ⟨r0, r1⟩ := box2_cells wr (.int .i64 kind) (.int .i64 to) 53
      have hab := alloc_below wr (.cells #[.int .i64 kind, .int .i64 to] 53)
      have hsz : w.heap.size + 1 ≤ wr.heap.size := by have := HBX.out.lt; have := HBW.out.size; omega
      have HX3 : Hid (BoxG (wr.alloc (.cells #[.int .i64 kind, .int .i64 to] 53)) w.heap.size g pv lv sv) := HX2.out.below (Nat.lt_succ_self _) (hab.mono hsz)
      have HB3 : Hid (Below (w.heap.size + 1) W1 (wr.alloc (.cells #[.int .i64 kind, .int .i64 to] 53))) := HBW.out.trans (hab.mono hsz)
      have hs2 : wr.heap.size < (wr.alloc (.cells #[.int .i64 kind, .int .i64 to] 53)).heap.size := by rw [alloc_size]; omega
      obtain ⟨z0, z1, z2, z3, z4, z5, z6⟩ := HX3.out
      have HCK : Hid (∀ w', Calls Tryd.prog 51 #[.agg #[.int .i64 g.terms, .int .i64 g.names, .int .i64 g.start, pv, lv, sv], .int .i64 n, .int .i64 k, .agg #[.int .i64 kind, .int .i64 to]] w' fun e w'' => e = .returned (.bool (actB (decide ((k : Int) = g.terms)) n g.prods.length ⟨kind, to⟩)) ∧ Below w'.heap.size w' w'') := HCk
      clear HCk hab HX2
      generalize actB (decide ((k : Int) = g.terms)) n g.prods.length ⟨kind, to⟩ = ab at *
      go_wp2_with fail
      go_at_call 51
      refine (HCK.out _).mono ?_
      rintro e w4 ⟨rfl, hb4⟩
      have HB4 : Hid (Below (w.heap.size + 1) W1 w4) := HB3.out.trans (hb4.mono (Nat.le_of_lt (Nat.lt_of_le_of_lt hsz hs2)))
      clear z0 z1 z2 z3 z4 z5 z6 r0 r1 hb4 HCK HX3 HB3 hs2 hc0 hc1
      cases ab with
      | false =>
        have HZ : Hid (R = false) := by show _ = _; rw [HM.out, HA.out]; rfl
        have hf := HB0.out.trans (HB4.out.mono (Nat.le_succ _))
        clear HM HA
        go_wp2
        go_ret
        exact ⟨by rw [HZ.out]; rfl, hf⟩
      | true =>
        have HM2 : Hid (R = ((List.range l.length).drop (k + 1)).all fun k => actB (decide ((k : Int) = g.terms)) n g.prods.length (l.getD k noAc)) := by show _ = _; rw [HM.out, HA.out, Bool.true_and]
        clear HM HA
        go_wp2
        go_roundw
        case rel => exact ⟨k + 1, by omega, by go_num, HM2, HB4⟩
        case measure => simp [intOf]; omega
    · have HZ : Hid (R = true) := by show _ = _; rw [HM.out, List.drop_eq_nil_of_le (by simp; omega)]; rfl
      clear HM
      go_wp2
      go_ret
      exact ⟨by rw [HZ.out]; rfl, hbw⟩

set_option maxHeartbeats 4000000 in
theorem gotosFit_any (g : Gm) (pv lv sv : Value) (n : Nat) (l : List Int) (v : Value) (w : World) (ht : 0 ≤ g.names ∧ g.names ≤ 300) (hl : IntsR w v l) :
    Calls Tryd.prog 32 #[gv g pv lv sv, .int .i64 n, v] w fun e w' => e = .returned (.bool (gotosB g.names n l)) ∧ Below w.heap.size w w' := by
  have hB0 := boxG_below w g pv lv sv
  have hBX := boxG_box w g pv lv sv
  obtain ⟨la, lc, rfl⟩ := hl.slice
  have HL : Hid (IntsR w (.slice la l.length lc) l) := hl
  clear hl
  generalize hR : gotosB g.names n l = R at *
  have HR : Hid (gotosB g.names n l = R) := hR
  clear hR
  unfold gotosB at HR
  obtain ⟨q0, q1, q2, q3, q4, q5, q6⟩ := hBX
  unfold gv gvs at *
  have HWB : Hid (w.alloc (.cells #[.int .i64 g.terms, .int .i64 g.names, .int .i64 g.start, pv, lv, sv] 25) = boxG w g pv lv sv) := rfl
  have HB0 : Hid (Below w.heap.size w (boxG w g pv lv sv)) := hB0
  clear hB0
  generalize boxG w g pv lv sv = W1 at *
  by_cases hlen : (l.length : Int) = g.names
  case neg =>
    have d0 : ((l.length : Int) != g.names) = true := by rw [bne_iff_ne]; exact hlen
    have HZ : Hid (R = false) := by show _ = _; rw [← HR.out]; simp [hlen]
    clear HR hlen
    go_enter Tryd.func32, Tryd.ntmps32
    go_wp2_with fail
    rw [HWB.out]
    go_wp2
    go_ret
    exact ⟨by rw [HZ.out]; rfl, HB0.out⟩
  have d0 : ((l.length : Int) != g.names) = false := by simp [hlen]
  have HR2 : Hid (R = (l.drop 0).all (gotoB n)) := by
    show _ = _
    rw [← HR.out, decide_eq_true hlen, Bool.true_and, List.drop_zero]
  have hll : l.length ≤ 300 := by omega
  clear HR hlen
  go_enter Tryd.func32, Tryd.ntmps32
  go_wp2_with fail
  rw [HWB.out]
  go_wp2
  clear q0 q1 q2 q3 q4 q5 q6
  go_loopw [16] (fun iv wr => ∃ k : Nat, k ≤ l.length ∧ iv = .int .i64 k ∧ Hid (R = (l.drop k).all (gotoB n)) ∧ Hid (Below w.heap.size w wr)) (fun iv _ => l.length - (intOf iv).toNat)
  case atStart => exact ⟨0, Nat.zero_le _, rfl, HR2, HB0⟩
  case round =>
    obtain ⟨k, hk, rfl, HM, HBW⟩ := hrel
    by_cases hlt : k < l.length
    · obtain ⟨b, off, rfl, hb, hc⟩ := (HL.out.below HBW.out).at hlt
      have HA : Hid ((l.drop k).all (gotoB n) = (gotoB n (l.getD k 0) && (l.drop (k + 1)).all (gotoB n))) := all_dropG l 0 (gotoB n) k hlt
      generalize l.getD k 0 = x at *
      by_cases h1 : x < -1
      · have d1 : decide (x < -1) = true := decide_eq_true h1
        have HZ : Hid (R = false) := by show _ = _; rw [HM.out, HA.out]; unfold gotoB; rw [decide_eq_false (p := -1 ≤ x) (by omega)]; rfl
        clear HM HA
        go_wp2
        go_ret
        exact ⟨by rw [HZ.out]; rfl, HBW.out⟩
      have d1 : decide (x < -1) = false := decide_eq_false h1
      by_cases h2 : x ≥ (n : Int)
      · have d2 : decide (x ≥ (n : Int)) = true := decide_eq_true h2
        have HZ : Hid (R = false) := by show _ = _; rw [HM.out, HA.out]; unfold gotoB; rw [decide_eq_false (p := x < n) (by omega)]; simp
        clear HM HA
        go_wp2
        go_ret
        exact ⟨by rw [HZ.out]; rfl, HBW.out⟩
      have d2 : decide (x ≥ (n : Int)) = false := decide_eq_false h2
      have HM2 : Hid (R = (l.drop (k + 1)).all (gotoB n)) := by show _ = _; rw [HM.out, HA.out]; unfold gotoB; rw [decide_eq_true (p := -1 ≤ x) (by omega), decide_eq_true (p := x < n) (by omega)]; rfl
      clear HM HA
      go_wp2
      go_roundw
      case rel => exact ⟨k + 1, by omega, by go_num, HM2, HBW⟩
      case measure => simp [intOf]; omega
    · have HZ : Hid (R = true) := by show _ = _; rw [HM.out, List.drop_eq_nil_of_le (by omega)]; rfl
      clear HM
      go_wp2
      go_ret
      exact ⟨by rw [HZ.out]; rfl, HBW.out⟩

end Go.Proofs.YtdihdnhofgjhnaaDoor
