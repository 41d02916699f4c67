/- Texts of the proof, put together: AExp8. -/
import Derived.Test.YthbglakncijahaaGreatDoorAw32
namespace Go.Proofs.YthbglakncijahaaGreatDoor
open Go.RowKit
set_option linter.unusedVariables false
set_option maxRecDepth 100000

theorem atom_paren {s : ByteArray} {ex : Tok → RE} {t : Tok} (h1 : t.kind ≠ 1) (h3 : t.kind ≠ 3) (h2 : t.kind ≠ 2) (hi : isS [40] (some t) = true) : atomS s ex t = match (nextS s (some t)).bind ex with | none => none | some (e, u) => (needS s [41] (some u)).map fun v => (e, v) := by
  unfold atomS
  rw [if_neg h1, if_neg h3, if_neg h2, if_pos hi]
  cases (nextS s (some t)).bind ex <;> rfl

set_option maxHeartbeats 4000000 in
theorem patom_paren {W0 w : World} (L : LibA W0) {R m : Nat} {s : ByteArray} {ex : Tok → RE} (hE : ExC W0 R s (m + 1) ex) {t : Tok} (h : PX W0 w R s (some t)) (ho : OkO s m (some t)) (h1 : t.kind ≠ 1) (h3 : t.kind ≠ 3) (h2 : t.kind ≠ 2) (hi : isS [40] (some t) = true) :
    Calls Tryz.prog 163 #[.pointer (some ⟨R, 0, none⟩)] w (GotE W0 w R s (atomS s ex t)) := by
  have hRw := h.lt
  obtain ⟨hok, z, hp⟩ := h.good t rfl
  obtain ⟨c0, c1, c2, c3, c4, c5, c6, c7, c8⟩ := hp.cells
  have hal := alloc_below w (.cells #[.int .i64 t.kind, .string t.text, .int .i64 t.fr, .int .i64 t.fin, .int .i64 t.num] 71)
  have hX1 := h.below hal
  have d7 := (hal.cell (p := ⟨R, 7, none⟩) hRw).trans c7
  have hO1 := OkO.next hok (ho t rfl).2 (by have := is_kind hi; omega)
  have HEt : Hid (Calls Tryz.prog 56 #[.pointer (some ⟨R, 0, none⟩), .string ⟨#[40]⟩] (w.alloc (.cells #[.int .i64 t.kind, .string t.text, .int .i64 t.fr, .int .i64 t.fin, .int .i64 t.num] 71)) fun e w' => e = .returned (.bool true) ∧ w.grownBy w' (some R) ∧ PX W0 w' R s (nextS s (some t))) := by
    have := peat_any L hX1 ⟨#[40]⟩
    rw [Lib.toList_data] at this
    refine this.mono ?_
    rintro e w' ⟨rfl, hg, hX⟩
    refine ⟨by show _ = Ending.returned (.bool true); rw [← hi], gT (grownA_below hal _) hg, ?_⟩
    have e1 : eatS s [40] (some t) = nextS s (some t) := by unfold eatS; rw [hi]; rfl
    rw [← e1]
    exact hX
  have HEx : Hid (∀ w1, w.grownBy w1 (some R) → PX W0 w1 R s (nextS s (some t)) → Calls Tryz.prog 31 #[.pointer (some ⟨R, 0, none⟩)] w1 fun e w2 => ∃ p, e = .returned (.pointer p) ∧ w.grownBy w2 (some R) ∧ PX W0 w2 R s (stE ((nextS s (some t)).bind ex)) ∧ ∀ x u, (nextS s (some t)).bind ex = some (x, u) → ExB w.heap.size w2 (.pointer p) x) := by
    intro w1 hg1 hX1
    refine (hE w1 _ hX1 hO1).mono ?_
    rintro e w2 ⟨p, rfl, hg2, hX2, hv2⟩
    exact ⟨p, rfl, gT hg1 hg2, hX2, fun x u hx => (hv2 x u hx).mono hg1.size⟩
  have HV : Hid (atomS s ex t = match (nextS s (some t)).bind ex with | none => none | some (e, u) => (needS s [41] (some u)).map fun v => (e, v)) := atom_paren h1 h3 h2 hi
  have k1 : (t.kind == 1) = false := by rw [beq_eq_false_iff_ne]; exact h1
  have k3 : (t.kind == 3) = false := by rw [beq_eq_false_iff_ne]; exact h3
  have k2 : (t.kind == 2) = false := by rw [beq_eq_false_iff_ne]; exact h2
  generalize atomS s ex t = res at *
  clear h hp hok hX1 hal hO1 hE ho hi
  generalize (nextS s (some t)).bind ex = r2 at *
  generalize nextS s (some t) = o1 at *
  go_enter Tryz.func163, Tryz.ntmps163
  go_wp2_with fail
  go_at_call 56
  refine HEt.out.mono ?_
  rintro e w1 ⟨rfl, hg1, hX1⟩
  have HE1 : Hid (Calls Tryz.prog 31 #[.pointer (some ⟨R, 0, none⟩)] w1 fun e w2 => ∃ p, e = .returned (.pointer p) ∧ w.grownBy w2 (some R) ∧ PX W0 w2 R s (stE r2) ∧ ∀ x u, r2 = some (x, u) → ExB w.heap.size w2 (.pointer p) x) := HEx.out w1 hg1 hX1
  clear HEt HEx hX1 hg1
  go_wp2_with fail
  go_at_call 31
  refine HE1.out.mono ?_
  rintro e w2 ⟨p, rfl, hg2, hX2, hv2⟩
  have HNd : Hid (Calls Tryz.prog 58 #[.pointer (some ⟨R, 0, none⟩), .string ⟨#[41]⟩] w2 fun e w' => e = .returned (.tuple #[]) ∧ w2.grownBy w' (some R) ∧ PX W0 w' R s (needS s [41] (stE r2))) := by
    have := pneed_any L hX2 ⟨#[41]⟩
    rwa [Lib.toList_data] at this
  have HV2 : Hid (∀ x u, r2 = some (x, u) → ExB w.heap.size w2 (.pointer p) x) := hv2
  clear HE1 hX2 hv2
  go_wp2_with fail
  go_at_call 58
  refine HNd.out.mono ?_
  rintro e w3 ⟨rfl, hg3, hX3⟩
  clear HNd
  go_wp2
  go_ret
  refine ⟨p, rfl, gT hg2 hg3, ?_, fun x u hx => ?_⟩
  · rw [HV.out]
    cases r2 with
    | none => exact hX3
    | some y =>
      obtain ⟨a, v⟩ := y
      show PX W0 w3 R s (stE ((needS s [41] (some v)).map fun v => (a, v)))
      have hX4 : PX W0 w3 R s (needS s [41] (some v)) := hX3
      cases hn : needS s [41] (some v) with
      | none => rw [hn] at hX4; exact hX4
      | some v' => rw [hn] at hX4; exact hX4
  · rw [HV.out] at hx
    cases hr : r2 with
    | none => rw [hr] at hx; cases hx
    | some y =>
      obtain ⟨a, v⟩ := y
      rw [hr] at hx
      obtain ⟨v', q1, q2⟩ := map_some hx
      simp only [Prod.mk.injEq] at q2
      obtain ⟨rfl, rfl⟩ := q2
      exact (HV2.out a v hr).grown hRw hg3

set_option maxHeartbeats 4000000 in
theorem patom_list {W0 w : World} (L : LibA W0) {R m : Nat} {s : ByteArray} {ex : Tok → RE} (hE : ExC W0 R s (m + 1) ex) (hgo : GoesE s ex) {t : Tok} (h : PX W0 w R s (some t)) (ho : OkO s m (some t)) (h1 : t.kind ≠ 1) (h3 : t.kind ≠ 3) (h2 : t.kind ≠ 2) (hn : isS [40] (some t) = false) (hi : isS [91] (some t) = true) :
    Calls Tryz.prog 163 #[.pointer (some ⟨R, 0, none⟩)] w (GotE W0 w R s (atomS s ex t)) := by
  have hRw := h.lt
  obtain ⟨hok, z, hp⟩ := h.good t rfl
  obtain ⟨c0, c1, c2, c3, c4, c5, c6, c7, c8⟩ := hp.cells
  have hal := alloc_below w (.cells #[.int .i64 t.kind, .string t.text, .int .i64 t.fr, .int .i64 t.fin, .int .i64 t.num] 71)
  have hX1 := h.below hal
  have d7 := (hal.cell (p := ⟨R, 7, none⟩) hRw).trans c7
  have hO1 := OkO.next hok (ho t rfl).2 (by have := is_kind hi; omega)
  have HEt : Hid (Calls Tryz.prog 56 #[.pointer (some ⟨R, 0, none⟩), .string ⟨#[40]⟩] (w.alloc (.cells #[.int .i64 t.kind, .string t.text, .int .i64 t.fr, .int .i64 t.fin, .int .i64 t.num] 71)) fun e w' => e = .returned (.bool false) ∧ w.grownBy w' (some R) ∧ PX W0 w' R s (some t)) := by
    have := peat_any L hX1 ⟨#[40]⟩
    rw [Lib.toList_data] at this
    refine this.mono ?_
    rintro e w' ⟨rfl, hg, hX⟩
    refine ⟨by show _ = Ending.returned (.bool false); rw [← hn], gT (grownA_below hal _) hg, ?_⟩
    have e1 : eatS s [40] (some t) = some t := by unfold eatS; rw [hn]; rfl
    rw [← e1]
    exact hX
  have HEt2 : Hid (∀ w1, w.grownBy w1 (some R) → PX W0 w1 R s (some t) → Calls Tryz.prog 56 #[.pointer (some ⟨R, 0, none⟩), .string ⟨#[91]⟩] w1 fun e w' => e = .returned (.bool true) ∧ w.grownBy w' (some R) ∧ PX W0 w' R s (nextS s (some t))) := by
    intro w1 hg1 hX1
    have := peat_any L hX1 ⟨#[91]⟩
    rw [Lib.toList_data] at this
    refine this.mono ?_
    rintro e w' ⟨rfl, hg, hX⟩
    refine ⟨by show _ = Ending.returned (.bool true); rw [← hi], gT hg1 hg, ?_⟩
    have e1 : eatS s [91] (some t) = nextS s (some t) := by unfold eatS; rw [hi]; rfl
    rw [← e1]
    exact hX
  have HV : Hid (atomS s ex t = listS s ex (nextS s (some t))) := by
    show _ = _
    unfold atomS
    rw [if_neg h1, if_neg h3, if_neg h2, if_neg (by rw [hn]; simp), if_pos hi]
  have HL : Hid (∀ w1, w.grownBy w1 (some R) → PX W0 w1 R s (nextS s (some t)) → Calls Tryz.prog 183 #[.pointer (some ⟨R, 0, none⟩)] w1 fun e w2 => ∃ p, e = .returned (.pointer p) ∧ GotE W0 w R s (atomS s ex t) (.returned (.pointer p)) w2) := by
    intro w1 hg1 hX1
    refine (plist_any L hE hgo hX1 hO1 (by omega)).mono ?_
    rintro e w2 ⟨p, rfl, hg2, hX2, hv2⟩
    rw [HV.out]
    exact ⟨p, rfl, p, rfl, gT hg1 hg2, hX2, fun x u hx => (hv2 x u hx).mono hg1.size⟩
  have k1 : (t.kind == 1) = false := by rw [beq_eq_false_iff_ne]; exact h1
  have k3 : (t.kind == 3) = false := by rw [beq_eq_false_iff_ne]; exact h3
  have k2 : (t.kind == 2) = false := by rw [beq_eq_false_iff_ne]; exact h2
  generalize atomS s ex t = res at *
  clear h hp hok hX1 hal hO1 hE ho hi hn HV hgo
  generalize nextS s (some t) = o1 at *
  go_enter Tryz.func163, Tryz.ntmps163
  go_wp2_with fail
  go_at_call 56
  refine HEt.out.mono ?_
  rintro e w1 ⟨rfl, hg1, hX1⟩
  have HE2 : Hid (Calls Tryz.prog 56 #[.pointer (some ⟨R, 0, none⟩), .string ⟨#[91]⟩] w1 fun e w' => e = .returned (.bool true) ∧ w.grownBy w' (some R) ∧ PX W0 w' R s o1) := HEt2.out w1 hg1 hX1
  clear HEt HEt2 hX1 hg1
  go_wp2_with fail
  go_at_call 56
  refine HE2.out.mono ?_
  rintro e w2 ⟨rfl, hg2, hX2⟩
  have HL2 : Hid (Calls Tryz.prog 183 #[.pointer (some ⟨R, 0, none⟩)] w2 fun e w3 => ∃ p, e = .returned (.pointer p) ∧ GotE W0 w R s res (.returned (.pointer p)) w3) := HL.out w2 hg2 hX2
  clear HE2 HL hX2 hg2
  go_wp2_with fail
  go_at_call 183
  refine HL2.out.mono ?_
  rintro e w3 ⟨p, rfl, hG⟩
  go_wp2
  go_ret
  exact hG

/-- the head of what is no bracket -/
theorem patom_head {W0 w : World} (L : LibA W0) {R : Nat} {s : ByteArray} {t : Tok} (h : PX W0 w R s (some t)) (hn : isS [40] (some t) = false) (hn2 : isS [91] (some t) = false) :
    Hid (Calls Tryz.prog 56 #[.pointer (some ⟨R, 0, none⟩), .string ⟨#[40]⟩] (w.alloc (.cells #[.int .i64 t.kind, .string t.text, .int .i64 t.fr, .int .i64 t.fin, .int .i64 t.num] 71)) fun e w' => e = .returned (.bool false) ∧
      Calls Tryz.prog 56 #[.pointer (some ⟨R, 0, none⟩), .string ⟨#[91]⟩] w' fun e w2 => e = .returned (.bool false) ∧ w.grownBy w2 (some R) ∧ PX W0 w2 R s (some t) ∧ TokAt w2 w.heap.size t) := by
  have hRw := h.lt
  have hal := alloc_below w (.cells #[.int .i64 t.kind, .string t.text, .int .i64 t.fr, .int .i64 t.fin, .int .i64 t.num] 71)
  have hT := TokAt.new w t
  have := peat_any L (h.below hal) ⟨#[40]⟩
  rw [Lib.toList_data] at this
  refine this.mono ?_
  rintro e w' ⟨rfl, hg, hX⟩
  refine ⟨by show _ = Ending.returned (.bool false); rw [← hn], ?_⟩
  have e1 : eatS s [40] (some t) = some t := by unfold eatS; rw [hn]; rfl
  have hX' : PX W0 w' R s (some t) := by rw [← e1]; exact hX
  have := peat_any L hX' ⟨#[91]⟩
  rw [Lib.toList_data] at this
  refine this.mono ?_
  rintro e w2 ⟨rfl, hg2, hX2⟩
  have e2 : eatS s [91] (some t) = some t := by unfold eatS; rw [hn2]; rfl
  have hgg := gT hg hg2
  refine ⟨by show _ = Ending.returned (.bool false); rw [← hn2], gT (grownA_below hal _) hgg, by rw [← e2]; exact hX2, (hgg.block _ hT.lt (fun e => by cases e; omega)).trans hT⟩

set_option maxHeartbeats 4000000 in
theorem patom_name {W0 w : World} (L : LibA W0) {R : Nat} {s : ByteArray} {ex : Tok → RE} {t : Tok} (h : PX W0 w R s (some t)) (h1 : t.kind ≠ 1) (h3 : t.kind ≠ 3) (h2 : t.kind ≠ 2) (hn : isS [40] (some t) = false) (hn2 : isS [91] (some t) = false) (hc : ¬ (t.kind = 4 ∧ 0 < kidsL t.text.toList)) :
    Calls Tryz.prog 163 #[.pointer (some ⟨R, 0, none⟩)] w (GotE W0 w R s (atomS s ex t)) := by
  have hRw := h.lt
  obtain ⟨hok, z, hp⟩ := h.good t rfl
  obtain ⟨c0, c1, c2, c3, c4, c5, c6, c7, c8⟩ := hp.cells
  have hal := alloc_below w (.cells #[.int .i64 t.kind, .string t.text, .int .i64 t.fr, .int .i64 t.fin, .int .i64 t.num] 71)
  have d7 := (hal.cell (p := ⟨R, 7, none⟩) hRw).trans c7
  have HH := patom_head L h hn hn2
  have HV : Hid (atomS s ex t = (nameS s (some t)).map fun u => (exN 4 0 t.text [], u)) := by
    show _ = _
    unfold atomS
    rw [if_neg h1, if_neg h3, if_neg h2, if_neg (by rw [hn]; simp), if_neg (by rw [hn2]; simp), if_neg hc]
  have HK : Hid (∀ w, Calls Tryz.prog 90 #[.string t.text] w fun e w' => e = .returned (.int .i64 (kidsL t.text.toList)) ∧ w' = w) := fun w => rkids_any t.text w
  have HNm : Hid (∀ w2, PX W0 w2 R s (some t) → Calls Tryz.prog 57 #[.pointer (some ⟨R, 0, none⟩)] w2 fun e w' => ∃ x, e = .returned (.string x) ∧ w2.grownBy w' (some R) ∧ PX W0 w' R s (nameS s (some t)) ∧ (namedS (some t) = true → x = t.text)) := fun w2 hX => pname_any L hX
  have k1 : (t.kind == 1) = false := by rw [beq_eq_false_iff_ne]; exact h1
  have k3 : (t.kind == 3) = false := by rw [beq_eq_false_iff_ne]; exact h3
  have k2 : (t.kind == 2) = false := by rw [beq_eq_false_iff_ne]; exact h2
  have hcc : (t.kind == 4) = false ∨ ((t.kind == 4) = true ∧ decide (kidsL t.text.toList > 0) = false) := by
    by_cases h4 : t.kind = 4
    · exact .inr ⟨by rw [h4]; rfl, decide_eq_false (fun h => hc ⟨h4, h⟩)⟩
    · exact .inl (by rw [beq_eq_false_iff_ne]; exact h4)
  have HNN : Hid (∀ u, nameS s (some t) = some u → namedS (some t) = true) := fun u hu => by
    cases hb : namedS (some t) with
    | true => rfl
    | false => unfold nameS at hu; rw [hb] at hu; cases hu
  generalize atomS s ex t = res at *
  clear h hp hok hal hn hn2 hc h1 h2 h3
  generalize nameS s (some t) = o1 at *
  generalize kidsL t.text.toList = kd at *
  rcases hcc with e4 | ⟨e4, ek⟩
  all_goals
    go_enter Tryz.func163, Tryz.ntmps163
    go_wp2_with fail
    go_at_call 56
    refine HH.out.mono ?_
    rintro e w1 ⟨rfl, hC1⟩
    have HC1 : Hid (Calls Tryz.prog 56 #[.pointer (some ⟨R, 0, none⟩), .string ⟨#[91]⟩] w1 fun e w2 => e = .returned (.bool false) ∧ w.grownBy w2 (some R) ∧ PX W0 w2 R s (some t) ∧ TokAt w2 w.heap.size t) := hC1
    clear hC1 HH
    go_wp2_with fail
    go_at_call 56
    refine HC1.out.mono ?_
    rintro e w2 ⟨rfl, hg2, hX2, hT2⟩
    obtain ⟨q0, q1, q2, q3, q4⟩ := hT2.cells
    have HN2 : Hid (Calls Tryz.prog 57 #[.pointer (some ⟨R, 0, none⟩)] w2 fun e w' => ∃ x, e = .returned (.string x) ∧ w2.grownBy w' (some R) ∧ PX W0 w' R s o1 ∧ (namedS (some t) = true → x = t.text)) := HNm.out w2 hX2
    clear HC1 HNm hX2 hT2
    go_wp2_with fail
    go_at_call 90
    refine (HK.out _).mono ?_
    rintro e w3 ⟨rfl, hw⟩
    obtain rfl := hw.symm
    clear hw
    go_wp2_with fail
    go_at_call 57
    refine HN2.out.mono ?_
    rintro e w3 ⟨x, rfl, hg3, hX3, hx3⟩
    have HX3 : Hid (namedS (some t) = true → x = t.text) := hx3
    clear hx3 HN2
    go_wp2
    go_ret
    have hb3 := alloc_below w3 (.cells #[.int .i64 4, .int .i64 0, .string x, .slice none 0 0] 64)
    refine ⟨some ⟨w3.heap.size, 0, none⟩, by simp, gT (gT hg2 hg3) (grownA_below hb3 _), ?_, fun y u hy => ?_⟩
    · rw [HV.out]
      have := hX3.below hb3
      cases o1 <;> exact this
    · rw [HV.out] at hy
      obtain ⟨v, p1, p2⟩ := map_some hy
      simp only [Prod.mk.injEq] at p2
      obtain ⟨rfl, rfl⟩ := p2
      rw [← HX3.out (HNN.out _ p1)]
      exact ex_leaf (allocAtA w3 _) (gT hg2 hg3).size

end Go.Proofs.YthbglakncijahaaGreatDoor
