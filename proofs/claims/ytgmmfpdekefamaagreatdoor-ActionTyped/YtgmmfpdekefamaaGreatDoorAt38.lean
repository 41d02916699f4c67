/- Texts of the proof, put together: AExp8, AExp9. -/
import Derived.Test.YtgmmfpdekefamaaGreatDoorAt37
namespace Go.Proofs.YtgmmfpdekefamaaGreatDoor
open Go.RowKit
set_option linter.unusedVariables false
set_option maxRecDepth 100000

theorem atom_paren {s : ByteArray} {ex : Tok → RE} {t : Tok} (h1 : t.kind ≠ 1) (h3 : t.kind ≠ 3) (h2 : t.kind ≠ 2) (hi : isS [40] (some t) = true) : atomS s ex t = match (nextS s (some t)).bind ex with | none => none | some (e, u) => (needS s [41] (some u)).map fun v => (e, v) := by
 unfold atomS
 rw [if_neg h1, if_neg h3, if_neg h2, if_pos hi]
 cases (nextS s (some t)).bind ex <;> rfl

set_option maxHeartbeats 4000000 in
theorem patom_paren {W0 w : World} (L : LibA W0) {R m : Nat} {s : ByteArray} {ex : Tok → RE} (hE : ExC W0 R s (m + 1) ex) {t : Tok} (h : PX W0 w R s (some t)) (ho : OkO s m (some t)) (h1 : t.kind ≠ 1) (h3 : t.kind ≠ 3) (h2 : t.kind ≠ 2) (hi : isS [40] (some t) = true) :
  Calls Tryz.prog 163 #[.pointer (some ⟨R, 0, none⟩)] w (GotE W0 w R s (atomS s ex t)) := by
 have hRw := h.lt
 obtain ⟨hok, z, hp⟩ := h.good t rfl
 obtain ⟨c0, c1, c2, c3, c4, c5, c6, c7, c8⟩ := hp.cells
 have hal := alloc_below w (.cells #[.int .i64 t.kind, .string t.text, .int .i64 t.fr, .int .i64 t.fin, .int .i64 t.num] 71)
 have hX1 := h.below hal
 have d7 := (hal.cell (p := ⟨R, 7, none⟩) hRw).trans c7
 have hO1 := OkO.next hok (ho t rfl).2 (by have := is_kind hi; omega)
 have HEt : Hid (Calls Tryz.prog 56 #[.pointer (some ⟨R, 0, none⟩), .string ⟨#[40]⟩] (w.alloc (.cells #[.int .i64 t.kind, .string t.text, .int .i64 t.fr, .int .i64 t.fin, .int .i64 t.num] 71)) fun e w' => e = .returned (.bool true) ∧ w.grownBy w' (some R) ∧ PX W0 w' R s (nextS s (some t))) := by
  have := peat_any L hX1 ⟨#[40]⟩
  rw [Lib.toList_data] at this
  refine this.mono ?_
  rintro e w' ⟨rfl, hg, hX⟩
  refine ⟨by show _ = Ending.returned (.bool true); rw [← hi], gT (grownA_below hal _) hg, ?_⟩
  have e1 : eatS s [40] (some t) = nextS s (some t) := by unfold eatS; rw [hi]; rfl
  rw [← e1]
  exact hX
 have HEx : Hid (∀ w1, w.grownBy w1 (some R) → PX W0 w1 R s (nextS s (some t)) → Calls Tryz.prog 31 #[.pointer (some ⟨R, 0, none⟩)] w1 fun e w2 => ∃ p, e = .returned (.pointer p) ∧ w.grownBy w2 (some R) ∧ PX W0 w2 R s (stE ((nextS s (some t)).bind ex)) ∧ ∀ x u, (nextS s (some t)).bind ex = some (x, u) → ExB w.heap.size w2 (.pointer p) x) := by
  intro w1 hg1 hX1
  refine (hE w1 _ hX1 hO1).mono ?_
  rintro e w2 ⟨p, rfl, hg2, hX2, hv2⟩
  exact ⟨p, rfl, gT hg1 hg2, hX2, fun x u hx => (hv2 x u hx).mono hg1.size⟩
 have HV : Hid (atomS s ex t = match (nextS s (some t)).bind ex with | none => none | some (e, u) => (needS s [41] (some u)).map fun v => (e, v)) := atom_paren h1 h3 h2 hi
 have k1 : (t.kind == 1) = false := by rw [beq_eq_false_iff_ne]; exact h1
 have k3 : (t.kind == 3) = false := by rw [beq_eq_false_iff_ne]; exact h3
 have k2 : (t.kind == 2) = false := by rw [beq_eq_false_iff_ne]; exact h2
 generalize atomS s ex t = res at *
 clear h hp hok hX1 hal hO1 hE ho hi
 generalize (nextS s (some t)).bind ex = r2 at *
 generalize nextS s (some t) = o1 at *
 go_enter Tryz.func163, Tryz.ntmps163
 go_wp2_with fail
 go_at_call 56
 refine HEt.out.mono ?_
 rintro e w1 ⟨rfl, hg1, hX1⟩
 have HE1 : Hid (Calls Tryz.prog 31 #[.pointer (some ⟨R, 0, none⟩)] w1 fun e w2 => ∃ p, e = .returned (.pointer p) ∧ w.grownBy w2 (some R) ∧ PX W0 w2 R s (stE r2) ∧ ∀ x u, r2 = some (x, u) → ExB w.heap.size w2 (.pointer p) x) := HEx.out w1 hg1 hX1
 clear HEt HEx hX1 hg1
 go_wp2_with fail
 go_at_call 31
 refine HE1.out.mono ?_
 rintro e w2 ⟨p, rfl, hg2, hX2, hv2⟩
 have HNd : Hid (Calls Tryz.prog 58 #[.pointer (some ⟨R, 0, none⟩), .string ⟨#[41]⟩] w2 fun e w' => e = .returned (.tuple #[]) ∧ w2.grownBy w' (some R) ∧ PX W0 w' R s (needS s [41] (stE r2))) := by
  have := pneed_any L hX2 ⟨#[41]⟩
  rwa [Lib.toList_data] at this
 have HV2 : Hid (∀ x u, r2 = some (x, u) → ExB w.heap.size w2 (.pointer p) x) := hv2
 clear HE1 hX2 hv2
 go_wp2_with fail
 go_at_call 58
 refine HNd.out.mono ?_
 rintro e w3 ⟨rfl, hg3, hX3⟩
 clear HNd
 go_wp2
 go_ret
 refine ⟨p, rfl, gT hg2 hg3, ?_, fun x u hx => ?_⟩
 ·rw [HV.out]
  cases r2 with
  | none => exact hX3
  | some y =>
   obtain ⟨a, v⟩ := y
   show PX W0 w3 R s (stE ((needS s [41] (some v)).map fun v => (a, v)))
   have hX4 : PX W0 w3 R s (needS s [41] (some v)) := hX3
   cases hn : needS s [41] (some v) with
   | none => rw [hn] at hX4; exact hX4
   | some v' => rw [hn] at hX4; exact hX4
 ·rw [HV.out] at hx
  cases hr : r2 with
  | none => rw [hr] at hx; cases hx
  | some y =>
   obtain ⟨a, v⟩ := y
   rw [hr] at hx
   obtain ⟨v', q1, q2⟩ := map_some hx
   simp only [Prod.mk.injEq] at q2
   obtain ⟨rfl, rfl⟩ := q2
   exact (HV2.out a v hr).grown hRw hg3

set_option maxHeartbeats 4000000 in
theorem patom_list {W0 w : World} (L : LibA W0) {R m : Nat} {s : ByteArray} {ex : Tok → RE} (hE : ExC W0 R s (m + 1) ex) (hgo : GoesE s ex) {t : Tok} (h : PX W0 w R s (some t)) (ho : OkO s m (some t)) (h1 : t.kind ≠ 1) (h3 : t.kind ≠ 3) (h2 : t.kind ≠ 2) (hn : isS [40] (some t) = false) (hi : isS [91] (some t) = true) :
  Calls Tryz.prog 163 #[.pointer (some ⟨R, 0, none⟩)] w (GotE W0 w R s (atomS s ex t)) := by
 have hRw := h.lt
 obtain ⟨hok, z, hp⟩ := h.good t rfl
 obtain ⟨c0, c1, c2, c3, c4, c5, c6, c7, c8⟩ := hp.cells
 have hal := alloc_below w (.cells #[.int .i64 t.kind, .string t.text, .int .i64 t.fr, .int .i64 t.fin, .int .i64 t.num] 71)
 have hX1 := h.below hal
 have d7 := (hal.cell (p := ⟨R, 7, none⟩) hRw).trans c7
 have hO1 := OkO.next hok (ho t rfl).2 (by have := is_kind hi; omega)
 have HEt : Hid (Calls Tryz.prog 56 #[.pointer (some ⟨R, 0, none⟩), .string ⟨#[40]⟩] (w.alloc (.cells #[.int .i64 t.kind, .string t.text, .int .i64 t.fr, .int .i64 t.fin, .int .i64 t.num] 71)) fun e w' => e = .returned (.bool false) ∧ w.grownBy w' (some R) ∧ PX W0 w' R s (some t)) := by
  have := peat_any L hX1 ⟨#[40]⟩
  rw [Lib.toList_data] at this
  refine this.mono ?_
  rintro e w' ⟨rfl, hg, hX⟩
  refine ⟨by show _ = Ending.returned (.bool false); rw [← hn], gT (grownA_below hal _) hg, ?_⟩
  have e1 : eatS s [40] (some t) = some t := by unfold eatS; rw [hn]; rfl
  rw [← e1]
  exact hX
 have HEt2 : Hid (∀ w1, w.grownBy w1 (some R) → PX W0 w1 R s (some t) → Calls Tryz.prog 56 #[.pointer (some ⟨R, 0, none⟩), .string ⟨#[91]⟩] w1 fun e w' => e = .returned (.bool true) ∧ w.grownBy w' (some R) ∧ PX W0 w' R s (nextS s (some t))) := by
  intro w1 hg1 hX1
  have := peat_any L hX1 ⟨#[91]⟩
  rw [Lib.toList_data] at this
  refine this.mono ?_
  rintro e w' ⟨rfl, hg, hX⟩
  refine ⟨by show _ = Ending.returned (.bool true); rw [← hi], gT hg1 hg, ?_⟩
  have e1 : eatS s [91] (some t) = nextS s (some t) := by unfold eatS; rw [hi]; rfl
  rw [← e1]
  exact hX
 have HV : Hid (atomS s ex t = listS s ex (nextS s (some t))) := by
  show _ = _
  unfold atomS
  rw [if_neg h1, if_neg h3, if_neg h2, if_neg (by rw [hn]; simp), if_pos hi]
 have HL : Hid (∀ w1, w.grownBy w1 (some R) → PX W0 w1 R s (nextS s (some t)) → Calls Tryz.prog 183 #[.pointer (some ⟨R, 0, none⟩)] w1 fun e w2 => ∃ p, e = .returned (.pointer p) ∧ GotE W0 w R s (atomS s ex t) (.returned (.pointer p)) w2) := by
  intro w1 hg1 hX1
  refine (plist_any L hE hgo hX1 hO1 (by omega)).mono ?_
  rintro e w2 ⟨p, rfl, hg2, hX2, hv2⟩
  rw [HV.out]
  exact ⟨p, rfl, p, rfl, gT hg1 hg2, hX2, fun x u hx => (hv2 x u hx).mono hg1.size⟩
 have k1 : (t.kind == 1) = false := by rw [beq_eq_false_iff_ne]; exact h1
 have k3 : (t.kind == 3) = false := by rw [beq_eq_false_iff_ne]; exact h3
 have k2 : (t.kind == 2) = false := by rw [beq_eq_false_iff_ne]; exact h2
 generalize atomS s ex t = res at *
 clear h hp hok hX1 hal hO1 hE ho hi hn HV hgo
 generalize nextS s (some t) = o1 at *
 go_enter Tryz.func163, Tryz.ntmps163
 go_wp2_with fail
 go_at_call 56
 refine HEt.out.mono ?_
 rintro e w1 ⟨rfl, hg1, hX1⟩
 have HE2 : Hid (Calls Tryz.prog 56 #[.pointer (some ⟨R, 0, none⟩), .string ⟨#[91]⟩] w1 fun e w' => e = .returned (.bool true) ∧ w.grownBy w' (some R) ∧ PX W0 w' R s o1) := HEt2.out w1 hg1 hX1
 clear HEt HEt2 hX1 hg1
 go_wp2_with fail
 go_at_call 56
 refine HE2.out.mono ?_
 rintro e w2 ⟨rfl, hg2, hX2⟩
 have HL2 : Hid (Calls Tryz.prog 183 #[.pointer (some ⟨R, 0, none⟩)] w2 fun e w3 => ∃ p, e = .returned (.pointer p) ∧ GotE W0 w R s res (.returned (.pointer p)) w3) := HL.out w2 hg2 hX2
 clear HE2 HL hX2 hg2
 go_wp2_with fail
 go_at_call 183
 refine HL2.out.mono ?_
 rintro e w3 ⟨p, rfl, hG⟩
 go_wp2
 go_ret
 exact hG

/-- the head of what is no bracket -/
theorem patom_head {W0 w : World} (L : LibA W0) {R : Nat} {s : ByteArray} {t : Tok} (h : PX W0 w R s (some t)) (hn : isS [40] (some t) = false) (hn2 : isS [91] (some t) = false) :
  Hid (Calls Tryz.prog 56 #[.pointer (some ⟨R, 0, none⟩), .string ⟨#[40]⟩] (w.alloc (.cells #[.int .i64 t.kind, .string t.text, .int .i64 t.fr, .int .i64 t.fin, .int .i64 t.num] 71)) fun e w' => e = .returned (.bool false) ∧
   Calls Tryz.prog 56 #[.pointer (some ⟨R, 0, none⟩), .string ⟨#[91]⟩] w' fun e w2 => e = .returned (.bool false) ∧ w.grownBy w2 (some R) ∧ PX W0 w2 R s (some t) ∧ TokAt w2 w.heap.size t) := by
 have hRw := h.lt
 have hal := alloc_below w (.cells #[.int .i64 t.kind, .string t.text, .int .i64 t.fr, .int .i64 t.fin, .int .i64 t.num] 71)
 have hT := TokAt.new w t
 have := peat_any L (h.below hal) ⟨#[40]⟩
 rw [Lib.toList_data] at this
 refine this.mono ?_
 rintro e w' ⟨rfl, hg, hX⟩
 refine ⟨by show _ = Ending.returned (.bool false); rw [← hn], ?_⟩
 have e1 : eatS s [40] (some t) = some t := by unfold eatS; rw [hn]; rfl
 have hX' : PX W0 w' R s (some t) := by rw [← e1]; exact hX
 have := peat_any L hX' ⟨#[91]⟩
 rw [Lib.toList_data] at this
 refine this.mono ?_
 rintro e w2 ⟨rfl, hg2, hX2⟩
 have e2 : eatS s [91] (some t) = some t := by unfold eatS; rw [hn2]; rfl
 have hgg := gT hg hg2
 refine ⟨by show _ = Ending.returned (.bool false); rw [← hn2], gT (grownA_below hal _) hgg, by rw [← e2]; exact hX2, (hgg.block _ hT.lt (fun e => by cases e; omega)).trans hT⟩

set_option maxHeartbeats 4000000 in
theorem patom_name {W0 w : World} (L : LibA W0) {R : Nat} {s : ByteArray} {ex : Tok → RE} {t : Tok} (h : PX W0 w R s (some t)) (h1 : t.kind ≠ 1) (h3 : t.kind ≠ 3) (h2 : t.kind ≠ 2) (hn : isS [40] (some t) = false) (hn2 : isS [91] (some t) = false) (hc : ¬ (t.kind = 4 ∧ 0 < kidsL t.text.toList)) :
  Calls Tryz.prog 163 #[.pointer (some ⟨R, 0, none⟩)] w (GotE W0 w R s (atomS s ex t)) := by
 have hRw := h.lt
 obtain ⟨hok, z, hp⟩ := h.good t rfl
 obtain ⟨c0, c1, c2, c3, c4, c5, c6, c7, c8⟩ := hp.cells
 have hal := alloc_below w (.cells #[.int .i64 t.kind, .string t.text, .int .i64 t.fr, .int .i64 t.fin, .int .i64 t.num] 71)
 have d7 := (hal.cell (p := ⟨R, 7, none⟩) hRw).trans c7
 have HH := patom_head L h hn hn2
 have HV : Hid (atomS s ex t = (nameS s (some t)).map fun u => (exN 4 0 t.text [], u)) := by
  show _ = _
  unfold atomS
  rw [if_neg h1, if_neg h3, if_neg h2, if_neg (by rw [hn]; simp), if_neg (by rw [hn2]; simp), if_neg hc]
 have HK : Hid (∀ w, Calls Tryz.prog 90 #[.string t.text] w fun e w' => e = .returned (.int .i64 (kidsL t.text.toList)) ∧ w' = w) := fun w => rkids_any t.text w
 have HNm : Hid (∀ w2, PX W0 w2 R s (some t) → Calls Tryz.prog 57 #[.pointer (some ⟨R, 0, none⟩)] w2 fun e w' => ∃ x, e = .returned (.string x) ∧ w2.grownBy w' (some R) ∧ PX W0 w' R s (nameS s (some t)) ∧ (namedS (some t) = true → x = t.text)) := fun w2 hX => pname_any L hX
 have k1 : (t.kind == 1) = false := by rw [beq_eq_false_iff_ne]; exact h1
 have k3 : (t.kind == 3) = false := by rw [beq_eq_false_iff_ne]; exact h3
 have k2 : (t.kind == 2) = false := by rw [beq_eq_false_iff_ne]; exact h2
 have hcc : (t.kind == 4) = false ∨ ((t.kind == 4) = true ∧ decide (kidsL t.text.toList > 0) = false) := by
  by_cases h4 : t.kind = 4
  ·exact .inr ⟨by rw [h4]; rfl, decide_eq_false (fun h => hc ⟨h4, h⟩)⟩
  ·exact .inl (by rw [beq_eq_false_iff_ne]; exact h4)
 have HNN : Hid (∀ u, nameS s (some t) = some u → namedS (some t) = true) := fun u hu => by
  cases hb : namedS (some t) with
  | true => rfl
  | false => unfold nameS at hu; rw [hb] at hu; cases hu
 generalize atomS s ex t = res at *
 clear h hp hok hal hn hn2 hc h1 h2 h3
 generalize nameS s (some t) = o1 at *
 generalize kidsL t.text.toList = kd at *
 rcases hcc with e4 | ⟨e4, ek⟩
 all_goals
  go_enter Tryz.func163, Tryz.ntmps163
  go_wp2_with fail
  go_at_call 56
  refine HH.out.mono ?_
  rintro e w1 ⟨rfl, hC1⟩
  have HC1 : Hid (Calls Tryz.prog 56 #[.pointer (some ⟨R, 0, none⟩), .string ⟨#[91]⟩] w1 fun e w2 => e = .returned (.bool false) ∧ w.grownBy w2 (some R) ∧ PX W0 w2 R s (some t) ∧ TokAt w2 w.heap.size t) := hC1
  clear hC1 HH
  go_wp2_with fail
  go_at_call 56
  refine HC1.out.mono ?_
  rintro e w2 ⟨rfl, hg2, hX2, hT2⟩
  obtain ⟨q0, q1, q2, q3, q4⟩ := hT2.cells
  have HN2 : Hid (Calls Tryz.prog 57 #[.pointer (some ⟨R, 0, none⟩)] w2 fun e w' => ∃ x, e = .returned (.string x) ∧ w2.grownBy w' (some R) ∧ PX W0 w' R s o1 ∧ (namedS (some t) = true → x = t.text)) := HNm.out w2 hX2
  clear HC1 HNm hX2 hT2
  go_wp2_with fail
  go_at_call 90
  refine (HK.out _).mono ?_
  rintro e w3 ⟨rfl, hw⟩
  obtain rfl := hw.symm
  clear hw
  go_wp2_with fail
  go_at_call 57
  refine HN2.out.mono ?_
  rintro e w3 ⟨x, rfl, hg3, hX3, hx3⟩
  have HX3 : Hid (namedS (some t) = true → x = t.text) := hx3
  clear hx3 HN2
  go_wp2
  go_ret
  have hb3 := alloc_below w3 (.cells #[.int .i64 4, .int .i64 0, .string x, .slice none 0 0] 64)
  refine ⟨some ⟨w3.heap.size, 0, none⟩, by simp, gT (gT hg2 hg3) (grownA_below hb3 _), ?_, fun y u hy => ?_⟩
  ·rw [HV.out]
   have := hX3.below hb3
   cases o1 <;> exact this
  ·rw [HV.out] at hy
   obtain ⟨v, p1, p2⟩ := map_some hy
   simp only [Prod.mk.injEq] at p2
   obtain ⟨rfl, rfl⟩ := p2
   rw [← HX3.out (HNN.out _ p1)]
   exact ex_leaf (allocAtA w3 _) (gT hg2 hg3).size

end Go.Proofs.YtgmmfpdekefamaaGreatDoor

namespace Go.Proofs.YtgmmfpdekefamaaGreatDoor
open Go.RowKit
set_option linter.unusedVariables false
set_option maxRecDepth 100000

/-- what a function is called with, on its way -/
structure CaI (W0 w0 wr : World) (R m Q : Nat) (s text : ByteArray) (ex : Tok → RE) (res : Option (List Ex × Tok)) (n i : Nat) (o : Option Tok) (kv : Value) (us : List Value) : Prop where
 grown : w0.grownBy wr (some R)
 px : PX W0 wr R s o
 ok : OkO s m o
 mem : LsM w0.heap.size Q wr 10 text kv i us
 ni : i ≤ n
 val : (o = none ∧ res = none) ∨ ∃ xs, LsK w0.heap.size Q wr kv us xs ∧ res = argS s ex (n - i) xs o
/-- behind one of them -/
structure CaA (W0 w0 w2 : World) (R m Q : Nat) (s text : ByteArray) (ex : Tok → RE) (res : Option (List Ex × Tok)) (n i : Nat) (r2 : RE) (kv : Value) (us : List Value) (p : Option Addr) : Prop where
 grown : w0.grownBy w2 (some R)
 px : PX W0 w2 R s (stE r2)
 ok : OkO s m (stE r2)
 mem : LsM w0.heap.size Q w2 10 text kv i us
 ni : i < n
 val : (r2 = none ∧ res = none) ∨ ∃ x u xs, r2 = some (x, u) ∧ LsK w0.heap.size Q w2 kv us xs ∧ Expr (fun b => w0.heap.size ≤ b ∧ b ≠ Q ∧ kv.ownBlock ≠ some b) w2 (.pointer p) x ∧ res = argS s ex (n - (i + 1)) (xs ++ [x]) (some u)
theorem CaI.read {W0 w0 wr w1 w2 : World} {R m Q : Nat} {s text : ByteArray} {ex : Tok → RE} {res : Option (List Ex × Tok)} {n i : Nat} {o : Option Tok} {kv : Value} {us : List Value} {p : Option Addr} (h : CaI W0 w0 wr R m Q s text ex res n i o kv us) (hi : i < n) (hgo : GoesE s ex) (hR : R < w0.heap.size) (hg1 : wr.grownBy w1 (some R)) (hg : w1.grownBy w2 (some R)) (hX : PX W0 w2 R s (stE ((if i = 0 then o else needS s [44] o).bind ex))) (hv : ∀ x u, (if i = 0 then o else needS s [44] o).bind ex = some (x, u) → ExB w1.heap.size w2 (.pointer p) x) : CaA W0 w0 w2 R m Q s text ex res n i ((if i = 0 then o else needS s [44] o).bind ex) kv us p := by
 have hgg := gT hg1 hg
 have hO : OkO s m (if i = 0 then o else needS s [44] o) := by
  split
  ·exact h.ok
  ·exact (h.ok.need _).mono (by omega)
 refine ⟨gT h.grown hgg, hX, (hO.st hgo).mono (by omega), h.mem.grown hR hgg, hi, ?_⟩
 rcases h.val with ⟨rfl, hr⟩ | ⟨xs, hk, hr⟩
 ·refine .inl ⟨?_, hr⟩
  split <;> rfl
 ·have hl : xs.length = i := by rw [← hk.1, h.mem.len]
  rw [show n - i = (n - (i + 1)) + 1 by omega, argS, hl] at hr
  cases he : (if i = 0 then o else needS s [44] o).bind ex with
  | none => rw [he] at hr; exact .inl ⟨rfl, hr⟩
  | some y =>
   obtain ⟨x, u⟩ := y
   rw [he] at hr
   refine .inr ⟨x, u, xs, rfl, hk.grown hR hgg, ?_, hr⟩
   refine Expr.imp (hv x u he) fun b hb hok => ⟨?_, ?_, ?_⟩
   ·have := h.grown.size; have := hg1.size; omega
   ·have := h.mem.q.2; have := hg1.size; omega
   ·intro e
    have := (h.mem.own.lt b e).2
    have := hg1.size
    omega
theorem CaA.put {W0 w0 w2 w5 : World} {R m Q : Nat} {s text : ByteArray} {ex : Tok → RE} {res : Option (List Ex × Tok)} {n i : Nat} {r2 : RE} {kv : Value} {us : List Value} {p : Option Addr} {o : Obj} {g cap : Nat} (h : CaA W0 w0 w2 R m Q s text ex res n i r2 kv us p) (hR : R < w0.heap.size) (h16 : 16 ≤ R) (hown : w5.ownsRow (Q + 1) 24 1 (.slice (some ⟨g, 0, none⟩) (i + 1) cap) (i + 1) (us ++ [.pointer p])) (hg : (w2.alloc o).grownBy w5 kv.ownBlock) (hat : kv.ownBlock = some g ∨ g = w2.heap.size + 1) :
  w5.cell? ⟨Q, 3, none⟩ = some kv ∧ w5.frozen? ⟨Q, 3, none⟩ = false ∧ Q < w5.heap.size ∧ CaI W0 w0 (w5.setCell ⟨Q, 3, none⟩ (.slice (some ⟨g, 0, none⟩) (i + 1) cap)) R m Q s text ex res n (i + 1) (stE r2) (.slice (some ⟨g, 0, none⟩) (i + 1) cap) (us ++ [.pointer p]) := by
 obtain ⟨h1, h2, h3, h4, h5⟩ := h.mem.step hown hg hat
 have hq := h.mem.q.1
 refine ⟨h1, h2, h3, gBelow h.grown hq h5, h.px.belowQ (by omega) (by omega) h5, h.ok, h4, h.ni, ?_⟩
 rcases h.val with ⟨rfl, hr⟩ | ⟨x, u, xs, rfl, e2, e3, e5⟩
 ·exact .inl ⟨rfl, hr⟩
 ·exact .inr ⟨_, LsK.step h.mem e2 e3 hg hat, e5⟩
theorem argS_none (s : ByteArray) (ex : Tok → RE) (n : Nat) (xs : List Ex) : argS s ex n xs none = none := by
 cases n with
 | zero => rfl
 | succ n =>
  rw [argS]
  have : (if xs.length = 0 then (none : Option Tok) else needS s [44] none) = none := by split <;> rfl
  rw [this]
  rfl
/-- what the call is -/
def calS (s : ByteArray) (text : ByteArray) : Option (List Ex × Tok) → RE
 | none => none
 | some (l, t) => (needS s [41] (some t)).map fun u => (exN 10 0 text l, u)
theorem CaI.fin {W0 w0 wr w4 : World} {R m Q : Nat} {s text : ByteArray} {ex : Tok → RE} {res : Option (List Ex × Tok)} {n i : Nat} {o : Option Tok} {kv : Value} {us : List Value} (h : CaI W0 w0 wr R m Q s text ex res n i o kv us) (hR : R < w0.heap.size) (he : i = n ∨ o = none) (hg : wr.grownBy w4 (some R)) (hX : PX W0 w4 R s (needS s [41] o)) : GotE W0 w0 R s (calS s text res) (.returned (.pointer (some ⟨Q, 0, none⟩))) w4 := by
 have key : (o = none ∧ res = none) ∨ ∃ t xs, o = some t ∧ LsK w0.heap.size Q wr kv us xs ∧ res = some (xs, t) := by
  rcases h.val with hn | ⟨xs, hk, hr⟩
  ·exact .inl hn
  ·cases o with
   | none => exact .inl ⟨rfl, by rw [hr, argS_none]⟩
   | some t =>
    rcases he with rfl | he
    ·rw [Nat.sub_self, argS] at hr
     exact .inr ⟨t, xs, rfl, hk, hr⟩
    ·cases he
 refine ⟨_, rfl, gT h.grown hg, ?_, fun x u hx => ?_⟩
 ·rcases key with ⟨rfl, rfl⟩ | ⟨t, xs, rfl, hk, rfl⟩
  ·exact hX
  ·show PX W0 w4 R s (stE ((needS s [41] (some t)).map fun u => (exN 10 0 text xs, u)))
   cases hn : needS s [41] (some t) with
   | none => rw [hn] at hX; exact hX
   | some v => rw [hn] at hX; exact hX
 ·rcases key with ⟨rfl, rfl⟩ | ⟨t, xs, rfl, hk, rfl⟩
  ·cases hx
  ·obtain ⟨v, q1, q2⟩ := map_some hx
   simp only [Prod.mk.injEq] at q2
   obtain ⟨rfl, rfl⟩ := q2
   exact (h.mem.grown hR hg).ex (hk.grown hR hg)

set_option maxHeartbeats 8000000 in
theorem patom_call {W0 w : World} (L : LibA W0) {R m : Nat} {s : ByteArray} {ex : Tok → RE} (hE : ExC W0 R s (m + 1) ex) (hgo : GoesE s ex) {t : Tok} (h : PX W0 w R s (some t)) (ho : OkO s m (some t)) (h1 : t.kind ≠ 1) (h3 : t.kind ≠ 3) (h2 : t.kind ≠ 2) (hn : isS [40] (some t) = false) (hn2 : isS [91] (some t) = false) (h4 : t.kind = 4) {n : Nat} (hc : kidsL t.text.toList = (n : Int)) (hn0 : 0 < n) (hn3 : n ≤ 3) :
  Calls Tryz.prog 163 #[.pointer (some ⟨R, 0, none⟩)] w (GotE W0 w R s (atomS s ex t)) := by
 obtain ⟨i1, hj0, hj1, hj2, hj3⟩ := info_parts Tryz.infoPExpr
 have hRw := h.lt
 have h16 := h.r16
 obtain ⟨hok, z, hp⟩ := h.good t rfl
 obtain ⟨c0, c1, c2, c3, c4, c5, c6, c7, c8⟩ := hp.cells
 have hal := alloc_below w (.cells #[.int .i64 t.kind, .string t.text, .int .i64 t.fr, .int .i64 t.fin, .int .i64 t.num] 71)
 have d7 := (hal.cell (p := ⟨R, 7, none⟩) hRw).trans c7
 have HH := patom_head L h hn hn2
 have hO1 : OkO s (m + 1) (nextS s (some t)) := OkO.next hok (ho t rfl).2 (by omega)
 have HV : Hid (atomS s ex t = calS s t.text (argS s ex n [] (needS s [40] (nextS s (some t))))) := by
  show _ = _
  unfold atomS
  rw [if_neg h1, if_neg h3, if_neg h2, if_neg (by rw [hn]; simp), if_neg (by rw [hn2]; simp), if_pos ⟨h4, by omega⟩, hc]
  unfold callS calS
  rw [Int.toNat_natCast]
  cases argS s ex n [] (needS s [40] (nextS s (some t))) <;> rfl
 have HK : Hid (∀ w, Calls Tryz.prog 90 #[.string t.text] w fun e w' => e = .returned (.int .i64 (n : Int)) ∧ w' = w) := fun w => by
  have := rkids_any t.text w
  rwa [hc] at this
 have HNx : Hid (∀ w2, PX W0 w2 R s (some t) → w.grownBy w2 (some R) → TokAt w2 w.heap.size t → Calls Tryz.prog 30 #[.pointer (some ⟨R, 0, none⟩)] w2 fun e w' => e = .returned (.tuple #[]) ∧ w.grownBy w' (some R) ∧ PX W0 w' R s (nextS s (some t)) ∧ TokAt w' w.heap.size t) := fun w2 hX hg hT => by
  refine (pnext_any L hX).mono ?_
  rintro e w' ⟨rfl, hg', hX'⟩
  exact ⟨rfl, gT hg hg', hX', (hg'.block _ hT.lt (fun e => by cases e; omega)).trans hT⟩
 have HNd : Hid (∀ w2, PX W0 w2 R s (nextS s (some t)) → w.grownBy w2 (some R) → TokAt w2 w.heap.size t → Calls Tryz.prog 58 #[.pointer (some ⟨R, 0, none⟩), .string ⟨#[40]⟩] w2 fun e w' => e = .returned (.tuple #[]) ∧ w.grownBy w' (some R) ∧ PX W0 w' R s (needS s [40] (nextS s (some t))) ∧ TokAt w' w.heap.size t) := fun w2 hX hg hT => by
  have := pneed_any L hX ⟨#[40]⟩
  rw [Lib.toList_data] at this
  refine this.mono ?_
  rintro e w' ⟨rfl, hg', hX'⟩
  exact ⟨rfl, gT hg hg', hX', (hg'.block _ hT.lt (fun e => by cases e; omega)).trans hT⟩
 have HEx : Hid (∀ w o, PX W0 w R s o → OkO s (m + 1) o → Calls Tryz.prog 31 #[.pointer (some ⟨R, 0, none⟩)] w (GotE W0 w R s (o.bind ex))) := hE
 have HG : Hid (GoesE s ex) := hgo
 have HO2 : Hid (OkO s (m + 1) (needS s [40] (nextS s (some t)))) := (hO1.need _).mono (by omega)
 have k1 : (t.kind == 1) = false := by rw [beq_eq_false_iff_ne]; exact h1
 have k3 : (t.kind == 3) = false := by rw [beq_eq_false_iff_ne]; exact h3
 have k2 : (t.kind == 2) = false := by rw [beq_eq_false_iff_ne]; exact h2
 have k4 : (t.kind == 4) = true := by rw [h4]; rfl
 have hnd : decide ((n : Int) > 0) = true := decide_eq_true (by omega)
 generalize atomS s ex t = res at *
 clear h hp hok hal hn hn2 hc h1 h2 h3 h4 hE hgo ho hO1
 generalize hres1 : argS s ex n [] (needS s [40] (nextS s (some t))) = res1 at *
 have HR1 : Hid (argS s ex n [] (needS s [40] (nextS s (some t))) = res1) := hres1
 clear hres1
 generalize needS s [40] (nextS s (some t)) = o2 at *
 generalize nextS s (some t) = o1 at *
 go_enter Tryz.func163, Tryz.ntmps163
 go_wp2_with fail
 go_at_call 56
 refine HH.out.mono ?_
 rintro e w1 ⟨rfl, hC1⟩
 have HC1 : Hid (Calls Tryz.prog 56 #[.pointer (some ⟨R, 0, none⟩), .string ⟨#[91]⟩] w1 fun e w2 => e = .returned (.bool false) ∧ w.grownBy w2 (some R) ∧ PX W0 w2 R s (some t) ∧ TokAt w2 w.heap.size t) := hC1
 clear hC1 HH
 go_wp2_with fail
 go_at_call 56
 refine HC1.out.mono ?_
 rintro e w2 ⟨rfl, hg2, hX2, hT2⟩
 obtain ⟨q0, q1, q2, q3, q4⟩ := hT2.cells
 have HN2 : Hid (Calls Tryz.prog 30 #[.pointer (some ⟨R, 0, none⟩)] w2 fun e w' => e = .returned (.tuple #[]) ∧ w.grownBy w' (some R) ∧ PX W0 w' R s o1 ∧ TokAt w' w.heap.size t) := HNx.out w2 hX2 hg2 hT2
 clear HC1 HNx hX2 hT2
 go_wp2_with fail
 go_at_call 90
 refine (HK.out _).mono ?_
 rintro e w3 ⟨rfl, hw⟩
 obtain rfl := hw.symm
 clear hw HK
 go_wp2_with fail
 go_at_call 30
 refine HN2.out.mono ?_
 rintro e w3 ⟨rfl, hg3, hX3, hT3⟩
 have HN3 : Hid (Calls Tryz.prog 58 #[.pointer (some ⟨R, 0, none⟩), .string ⟨#[40]⟩] w3 fun e w' => e = .returned (.tuple #[]) ∧ w.grownBy w' (some R) ∧ PX W0 w' R s o2 ∧ TokAt w' w.heap.size t) := HNd.out w3 hX3 hg3 hT3
 clear HN2 HNd hX3 hT3 hg3 hg2 q0 q1 q2 q3 q4
 go_wp2_with fail
 go_at_call 58
 refine HN3.out.mono ?_
 rintro e w4 ⟨rfl, hg4, hX4, hT4⟩
 obtain ⟨q0, q1, q2, q3, q4⟩ := hT4.cells
 have HI0 : Hid (CaI W0 w (w4.alloc (.cells #[.int .i64 10, .int .i64 0, .string t.text, .slice none 0 0] 64)) R (m + 1) w4.heap.size s t.text ex res1 n 0 o2 (.slice none 0 0) []) := by
  have hal := alloc_below w4 (.cells #[.int .i64 10, .int .i64 0, .string t.text, .slice none 0 0] 64)
  exact ⟨gT hg4 (grownA_below hal _), hX4.below hal, HO2.out, LsM.new hg4.size 10 t.text, by omega, .inr ⟨[], ⟨rfl, fun j hj => by simp at hj⟩, HR1.out.symm⟩⟩
 clear HN3 hX4 hT4 HR1 HO2
 have hs4 := hg4.size
 clear hg4
 go_wp2
 generalize w4.alloc (.cells #[.int .i64 10, .int .i64 0, .string t.text, .slice none 0 0] 64) = w5 at *
 generalize w4.heap.size = Q at *
 go_loopw [9, 10] (fun iv _ wr => ∃ (i : Nat) (o : Option Tok) (kv : Value) (us : List Value), iv = .int .i64 i ∧ Hid (CaI W0 w wr R (m + 1) Q s t.text ex res1 n i o kv us)) (fun iv _ _ => n - (intOf iv).toNat)
 case atStart => exact ⟨0, o2, _, [], rfl, HI0⟩
 case round =>
  obtain ⟨i, o, kv, us, rfl, HI⟩ := hrel
  have hni := HI.out.ni
  have HNe : Hid (Calls Tryz.prog 58 #[.pointer (some ⟨R, 0, none⟩), .string ⟨#[41]⟩] wr fun e w' => e = .returned (.tuple #[]) ∧ (i = n ∨ o = none → GotE W0 w R s (calS s t.text res1) (.returned (.pointer (some ⟨Q, 0, none⟩))) w')) := by
   have := pneed_any L HI.out.px ⟨#[41]⟩
   rw [Lib.toList_data] at this
   refine this.mono ?_
   rintro e w' ⟨rfl, hg', hX'⟩
   exact ⟨rfl, fun he => HI.out.fin hRw he hg' hX'⟩
  by_cases hin : i < n
  ·obtain ⟨t', b, z', hp, hf, ⟨ho', rfl, hok⟩ | ⟨ho', te', pe', rfl⟩⟩ := HI.out.px.cells
   ·obtain ⟨d0, d1, d2, d3, d4, d5, d6, d7, d8⟩ := hp.cells
    have HRd : Hid (∀ w1, wr.grownBy w1 (some R) → PX W0 w1 R s (if i = 0 then o else needS s [44] o) → Calls Tryz.prog 31 #[.pointer (some ⟨R, 0, none⟩)] w1 fun e w2 => ∃ p, e = .returned (.pointer p) ∧ CaA W0 w w2 R (m + 1) Q s t.text ex res1 n i ((if i = 0 then o else needS s [44] o).bind ex) kv us p) := by
     intro w1 hg1 hX1
     have hO : OkO s (m + 1) (if i = 0 then o else needS s [44] o) := by
      split
      ·exact HI.out.ok
      ·exact (HI.out.ok.need _).mono (by omega)
     refine (HEx.out w1 _ hX1 hO).mono ?_
     rintro e w2 ⟨p, rfl, hg', hX', hv'⟩
     exact ⟨p, rfl, HI.out.read hin HG.out hRw hg1 hg' hX' hv'⟩
    have HCm : Hid (Calls Tryz.prog 58 #[.pointer (some ⟨R, 0, none⟩), .string ⟨#[44]⟩] wr fun e w' => e = .returned (.tuple #[]) ∧ wr.grownBy w' (some R) ∧ PX W0 w' R s (needS s [44] o)) := by
     have := pneed_any L HI.out.px ⟨#[44]⟩
     rwa [Lib.toList_data] at this
    have HX0 : Hid (PX W0 wr R s o) := HI.out.px
    obtain ⟨va, vc, rfl⟩ := HI.out.mem.slice
    clear hp HI HEx HG HNe ho' hok
    have hind : (i : Int) < (n : Int) := by omega
    by_cases h0 : i = 0
    ·subst h0
     have HR2 : Hid (Calls Tryz.prog 31 #[.pointer (some ⟨R, 0, none⟩)] wr fun e w2 => ∃ p, e = .returned (.pointer p) ∧ CaA W0 w w2 R (m + 1) Q s t.text ex res1 n 0 ((if (0 : Nat) = 0 then o else needS s [44] o).bind ex) (.slice va 0 vc) us p) := HRd.out wr (grownA_refl wr _) HX0.out
     generalize (if (0 : Nat) = 0 then o else needS s [44] o).bind ex = r2 at *
     clear HRd HCm HX0
     go_wp2_with fail
     go_at_call 31
     refine HR2.out.mono ?_
     rintro e w2 ⟨p, rfl, hA⟩
     have HA : Hid (CaA W0 w w2 R (m + 1) Q s t.text ex res1 n 0 r2 (.slice va 0 vc) us p) := hA
     have hq2 := hA.mem.q.2
     have e4 := hA.mem.nd.cell2
     clear hA HR2
     go_wp2_with (at_builtin; refine wpList_append_lies _ rfl _ _ 62 rfl (Q + 1) 24 i1 (.pointer none) 1 8 Tryz.underlying62 hj0 hj1 hj2 hj3 rfl (by decide) (.slice va 0 vc) 0 us rfl (World.ownsRow.alloc HA.out.mem.own _) ⟨w2.heap.size, 0, none⟩ 1 1 [.pointer p] rfl rfl (cell_one_new w2 _ _) (by intro x hx; simp at hx; subst hx; rfl) (by omega) (by unfold maxLen; omega) (by omega) (by simp; omega) (w2.heap.size + 1) (by simp) ?_)
     intro g9 cap9 w9 hown9 hg9 hat9 hlt9
     obtain ⟨y1, y2, y3, y4⟩ := HA.out.put hRw h16 hown9 hg9 hat9
     have HB : Hid (CaI W0 w (w9.setCell ⟨Q, 3, none⟩ (.slice (some ⟨g9, 0, none⟩) (0 + 1) cap9)) R (m + 1) Q s t.text ex res1 n (0 + 1) (stE r2) (.slice (some ⟨g9, 0, none⟩) (0 + 1) cap9) (us ++ [.pointer p])) := y4
     clear y4 hown9 hg9 hat9 hlt9 HA e4
     go_wp2
     go_roundw
     case rel => exact ⟨0 + 1, _, _, _, rfl, HB⟩
     case measure => simp [intOf]; omega
    ·have hd0 : decide ((i : Int) > 0) = true := decide_eq_true (by omega)
     rw [if_neg h0] at HRd
     generalize (needS s [44] o).bind ex = r2 at *
     generalize needS s [44] o = o3 at *
     clear HX0
     go_wp2_with fail
     go_at_call 58
     refine HCm.out.mono ?_
     rintro e w1 ⟨rfl, hg1, hX1⟩
     have HR2 : Hid (Calls Tryz.prog 31 #[.pointer (some ⟨R, 0, none⟩)] w1 fun e w2 => ∃ p, e = .returned (.pointer p) ∧ CaA W0 w w2 R (m + 1) Q s t.text ex res1 n i r2 (.slice va i vc) us p) := HRd.out w1 hg1 hX1
     clear HRd HCm hg1 hX1
     go_wp2_with fail
     go_at_call 31
     refine HR2.out.mono ?_
     rintro e w2 ⟨p, rfl, hA⟩
     have HA : Hid (CaA W0 w w2 R (m + 1) Q s t.text ex res1 n i r2 (.slice va i vc) us p) := hA
     have hq2 := hA.mem.q.2
     have e4 := hA.mem.nd.cell2
     clear hA HR2
     go_wp2_with (at_builtin; refine wpList_append_lies _ rfl _ _ 62 rfl (Q + 1) 24 i1 (.pointer none) 1 8 Tryz.underlying62 hj0 hj1 hj2 hj3 rfl (by decide) (.slice va i vc) i us rfl (World.ownsRow.alloc HA.out.mem.own _) ⟨w2.heap.size, 0, none⟩ 1 1 [.pointer p] rfl rfl (cell_one_new w2 _ _) (by intro x hx; simp at hx; subst hx; rfl) (by omega) (by unfold maxLen; omega) (by omega) (by simp; omega) (w2.heap.size + 1) (by simp) ?_)
     intro g9 cap9 w9 hown9 hg9 hat9 hlt9
     obtain ⟨y1, y2, y3, y4⟩ := HA.out.put hRw h16 hown9 hg9 hat9
     have HB : Hid (CaI W0 w (w9.setCell ⟨Q, 3, none⟩ (.slice (some ⟨g9, 0, none⟩) (i + 1) cap9)) R (m + 1) Q s t.text ex res1 n (i + 1) (stE r2) (.slice (some ⟨g9, 0, none⟩) (i + 1) cap9) (us ++ [.pointer p])) := y4
     clear y4 hown9 hg9 hat9 hlt9 HA e4
     go_wp2
     go_roundw
     case rel => exact ⟨i + 1, _, _, _, by go_num, HB⟩
     case measure => simp [intOf]; omega
   ·obtain ⟨d0, d1, d2, d3, d4, d5, d6, d7, d8⟩ := hp.cells
    have hind : (i : Int) < (n : Int) := by omega
    have HFin : Hid (Calls Tryz.prog 58 #[.pointer (some ⟨R, 0, none⟩), .string ⟨#[41]⟩] wr fun e w' => e = .returned (.tuple #[]) ∧ GotE W0 w R s (calS s t.text res1) (.returned (.pointer (some ⟨Q, 0, none⟩))) w') := HNe.out.mono fun e w' hh => ⟨hh.1, hh.2 (.inr ho')⟩
    clear hp HI HEx HG HNe ho'
    go_wp2_with fail
    go_at_call 58
    refine HFin.out.mono ?_
    rintro e w' ⟨rfl, hG⟩
    go_wp2
    go_ret
    rw [HV.out]
    exact hG
  ·obtain rfl : i = n := by omega
   have hind : ¬ (i : Int) < (i : Int) := by omega
   have HFin : Hid (Calls Tryz.prog 58 #[.pointer (some ⟨R, 0, none⟩), .string ⟨#[41]⟩] wr fun e w' => e = .returned (.tuple #[]) ∧ GotE W0 w R s (calS s t.text res1) (.returned (.pointer (some ⟨Q, 0, none⟩))) w') := HNe.out.mono fun e w' hh => ⟨hh.1, hh.2 (.inl rfl)⟩
   clear HI HEx HG HNe
   go_wp2_with fail
   go_at_call 58
   refine HFin.out.mono ?_
   rintro e w' ⟨rfl, hG⟩
   go_wp2
   go_ret
   rw [HV.out]
   exact hG

end Go.Proofs.YtgmmfpdekefamaaGreatDoor
