/- Texts of the proof, put together: AExp10, ARea, AWrI, PEscT, PWrA, PWrB, QQuo. -/
import Derived.Test.YtgmmfpdekefamaaGreatDoorAt38
import Derived.Test.YtgmmfpdekefamaaGreatDoorAt15
import Derived.Test.YtgmmfpdekefamaaGreatDoorAt36
import Derived.Test.YtgmmfpdekefamaaGreatDoorAt35
namespace Go.Proofs.YtgmmfpdekefamaaGreatDoor
open Go.RowKit
set_option linter.unusedVariables false
set_option maxRecDepth 100000

theorem kidsL_three (l : List UInt8) : ∃ n : Nat, kidsL l = (n : Int) ∧ n ≤ 3 := by
 unfold kidsL
 cases l == [108, 101, 110] <;> cases l == [116, 101, 120, 116] <;> cases l == [116, 97, 103] <;> cases l == [107, 105, 100, 115] <;> cases l == [105, 110, 116] <;> cases l == [110, 111, 100, 101] <;> cases l == [97, 116] <;> first | exact ⟨0, rfl, by omega⟩ | exact ⟨1, rfl, by omega⟩ | exact ⟨2, rfl, by omega⟩ | exact ⟨3, rfl, by omega⟩
theorem atom_all {W0 : World} (L : LibA W0) {R m : Nat} {s : ByteArray} {ex : Tok → RE} (hE : m ≤ s.size → ExC W0 R s (m + 1) ex) (hgo : GoesE s ex) : AtC W0 R s m (atomS s ex) := by
 intro w o h ho
 cases o with
 | none => exact patom_bad h
 | some t =>
  simp only [Option.bind_some]
  have hE := hE (by have := (ho t rfl).2; have := (ho t rfl).1.2.1; omega)
  by_cases h1 : t.kind = 1
  ·exact patom_num L h h1
  by_cases h3 : t.kind = 3
  ·exact patom_arg L h h3
  by_cases h2 : t.kind = 2
  ·exact patom_text L h h2
  cases hp : isS [40] (some t)
  ·cases hb : isS [91] (some t)
   ·obtain ⟨n, hn, hn3⟩ := kidsL_three t.text.toList
    by_cases h4 : t.kind = 4 ∧ 0 < n
    ·exact patom_call L hE hgo h ho h1 h3 h2 hp hb h4.1 hn h4.2 hn3
    ·exact patom_name L h h1 h3 h2 hp hb (fun hh => h4 ⟨hh.1, by omega⟩)
   ·exact patom_list L hE hgo h ho h1 h3 h2 hp hb
  ·exact patom_paren L hE h ho h1 h3 h2 hp
theorem sgd_all {W0 : World} (L : LibA W0) {R : Nat} {s : ByteArray} {ex : Tok → RE} {m0 : Nat} (hA : ∀ m, m0 ≤ m → AtC W0 R s m (atomS s ex)) : ∀ (f m : Nat), m0 ≤ m → s.size + 1 ≤ f + m → SgC W0 R s m (sgdS s ex f)
 | 0, m, hm, hf => fun w o h ho => by
  cases o with
  | none => exact psigned_step (f := 0) L (hA m hm) (fun ⟨t, ht⟩ => by cases ht) h ho
  | some t => have := (ho t rfl).2; have := (ho t rfl).1.2.1; omega
 | f + 1, m, hm, hf => fun w o h ho => psigned_step L (hA m hm) (fun _ => sgd_all L hA f (m + 1) (by omega) (by omega)) h ho

set_option maxHeartbeats 2000000 in
theorem plevel_three {W0 w : World} {R m : Nat} {s : ByteArray} {sub : Tok → RE} (hS : SgC W0 R s m sub) {o : Option Tok} (h : PX W0 w R s o) (ho : OkO s m o) :
  Calls Tryz.prog 59 #[.pointer (some ⟨R, 0, none⟩), .int .i64 3] w (GotE W0 w R s (o.bind sub)) := by
 have HS : Hid (Calls Tryz.prog 118 #[.pointer (some ⟨R, 0, none⟩)] w (GotE W0 w R s (o.bind sub))) := hS w o h ho
 generalize o.bind sub = res at *
 clear h ho hS
 go_enter Tryz.func59, Tryz.ntmps59
 go_wp2_with fail
 go_at_call 118
 refine HS.out.mono ?_
 rintro e w1 ⟨p, rfl, hg, hX, hv⟩
 have HG : Hid (GotE W0 w R s res (.returned (.pointer p)) w1) := ⟨p, rfl, hg, hX, hv⟩
 clear hv hX hg
 go_wp2
 go_ret
 exact HG.out
theorem lv_step {W0 : World} (L : LibA W0) {R m : Nat} {s : ByteArray} {sub : Tok → RE} (n k : Int) (hk : n + 1 = k) (hn0 : 0 ≤ n) (hn2 : n ≤ 2) (hS : LvC W0 R s m k sub) (hgo : GoesE s sub) : LvC W0 R s m n (levS s n sub) := by
 subst hk
 exact fun w o h ho => plevel_step L hn0 hn2 hS hgo h ho
theorem top_all {W0 : World} (L : LibA W0) {R m : Nat} {s : ByteArray} {ex : Tok → RE} (hgo : GoesE s ex) (hS : SgC W0 R s m (sgdS s ex (s.size + 1))) : LvC W0 R s m 0 (topS s ex) := by
 have g3 := sgd_goes hgo (s.size + 1)
 have l3 : LvC W0 R s m 3 (sgdS s ex (s.size + 1)) := fun w o h ho => plevel_three hS h ho
 have l2 := lv_step L 2 3 (by omega) (by omega) (by omega) l3 g3
 have l1 := lv_step L 1 2 (by omega) (by omega) (by omega) l2 (lev_goes g3)
 have l0 := lv_step L 0 1 (by omega) (by omega) (by omega) l1 (lev_goes (lev_goes g3))
 intro w o h ho
 have := l0 w o h ho
 unfold topS
 exact this

set_option maxHeartbeats 8000000 in
theorem pexpr_let {W0 w : World} (L : LibA W0) {R m : Nat} {s : ByteArray} {ex : Tok → RE} (hgo : GoesE s ex) (hE : ExC W0 R s (m + 1) ex) {t : Tok} (h : PX W0 w R s (some t)) (ho : OkO s m (some t)) (hi : isS letL (some t) = true) :
  Calls Tryz.prog 31 #[.pointer (some ⟨R, 0, none⟩)] w (GotE W0 w R s (letS s ex (nextS s (some t)))) := by
 have hRw := h.lt
 have hO1 : OkO s (m + 1) (nextS s (some t)) := OkO.next (ho t rfl).1 (ho t rfl).2 (by have := is_kind hi; omega)
 have hO3 : OkO s (m + 1) (needS s [61] (nameS s (nextS s (some t)))) := (hO1.name.need [61]).mono (by omega)
 have HE1 : Hid (Calls Tryz.prog 56 #[.pointer (some ⟨R, 0, none⟩), .string ⟨#[108, 101, 116]⟩] w fun e w' => e = .returned (.bool true) ∧ w.grownBy w' (some R) ∧ PX W0 w' R s (nextS s (some t))) := by
  have := peat_any L h ⟨#[108, 101, 116]⟩
  rw [Lib.toList_data] at this
  refine this.mono ?_
  rintro e w' ⟨rfl, hg, hX⟩
  have e1 : eatS s letL (some t) = nextS s (some t) := by unfold eatS; rw [hi]; rfl
  refine ⟨by show _ = Ending.returned (.bool true); rw [← hi]; rfl, hg, by rw [← e1]; exact hX⟩
 have HV : Hid (stE (letS s ex (nextS s (some t))) = stE ((needS s inL (stE ((needS s [61] (nameS s (nextS s (some t)))).bind ex))).bind ex)) := let_st s ex _
 have HW : Hid (∀ x t', letS s ex (nextS s (some t)) = some (x, t') → ∃ v t3 b, (needS s [61] (nameS s (nextS s (some t)))).bind ex = some (v, t3) ∧ (needS s inL (stE ((needS s [61] (nameS s (nextS s (some t)))).bind ex))).bind ex = some (b, t') ∧ x = exN 5 0 (textS (nextS s (some t))) [v, b] ∧ namedS (nextS s (some t)) = true) := fun x t' hh => let_val hh
 have HEx : Hid (∀ w o, PX W0 w R s o → OkO s (m + 1) o → Calls Tryz.prog 31 #[.pointer (some ⟨R, 0, none⟩)] w (GotE W0 w R s (o.bind ex))) := hE
 have HO3 : Hid (OkO s (m + 1) (needS s [61] (nameS s (nextS s (some t))))) := hO3
 have HO5 : Hid (OkO s (m + 1) (needS s inL (stE ((needS s [61] (nameS s (nextS s (some t)))).bind ex)))) := ((hO3.st hgo).need inL).mono (by omega)
 generalize letS s ex (nextS s (some t)) = res at *
 generalize nextS s (some t) = o1 at *
 clear h ho hi hO1 hO3 hE hgo
 go_enter Tryz.func31, Tryz.ntmps31
 go_wp2_with fail
 go_at_call 56
 refine HE1.out.mono ?_
 rintro e w1 ⟨rfl, hg1, hX1⟩
 have HN : Hid (Calls Tryz.prog 57 #[.pointer (some ⟨R, 0, none⟩)] w1 fun e w' => ∃ x, e = .returned (.string x) ∧ w1.grownBy w' (some R) ∧ PX W0 w' R s (nameS s o1) ∧ (namedS o1 = true → x = textS o1)) := pname_any L hX1
 clear HE1 hX1
 generalize nameS s o1 = o2 at *
 go_wp2_with fail
 go_at_call 57
 refine HN.out.mono ?_
 rintro e w2 ⟨nm, rfl, hg2, hX2, hnm⟩
 have HNM : Hid (namedS o1 = true → nm = textS o1) := hnm
 have hg12 := gT hg1 hg2
 have HD : Hid (Calls Tryz.prog 58 #[.pointer (some ⟨R, 0, none⟩), .string ⟨#[61]⟩] w2 fun e w' => e = .returned (.tuple #[]) ∧ w2.grownBy w' (some R) ∧ PX W0 w' R s (needS s [61] o2)) := by
  have := pneed_any L hX2 ⟨#[61]⟩
  rwa [Lib.toList_data] at this
 clear HN hX2 hnm hg1 hg2
 generalize needS s [61] o2 = o3 at *
 go_wp2_with fail
 go_at_call 58
 refine HD.out.mono ?_
 rintro e w3 ⟨rfl, hg3, hX3⟩
 have hg13 := gT hg12 hg3
 have HE3 : Hid (Calls Tryz.prog 31 #[.pointer (some ⟨R, 0, none⟩)] w3 (GotE W0 w3 R s (o3.bind ex))) := HEx.out w3 o3 hX3 HO3.out
 clear HD hX3 hg12 hg3 HO3
 generalize o3.bind ex = r3 at *
 go_wp2_with fail
 go_at_call 31
 refine HE3.out.mono ?_
 rintro e w4 ⟨p3, rfl, hg4, hX4, hv4⟩
 have HV4 : Hid (∀ x t', r3 = some (x, t') → ExB w3.heap.size w4 (.pointer p3) x) := hv4
 have hg14 := gT hg13 hg4
 have HD2 : Hid (Calls Tryz.prog 58 #[.pointer (some ⟨R, 0, none⟩), .string ⟨#[105, 110]⟩] w4 fun e w' => e = .returned (.tuple #[]) ∧ w4.grownBy w' (some R) ∧ PX W0 w' R s (needS s inL (stE r3))) := by
  have := pneed_any L hX4 ⟨#[105, 110]⟩
  rwa [Lib.toList_data] at this
 clear HE3 hX4 hv4
 generalize needS s inL (stE r3) = o5 at *
 go_wp2_with fail
 go_at_call 58
 refine HD2.out.mono ?_
 rintro e w5 ⟨rfl, hg5, hX5⟩
 have hg15 := gT hg14 hg5
 have HE5 : Hid (Calls Tryz.prog 31 #[.pointer (some ⟨R, 0, none⟩)] w5 (GotE W0 w5 R s (o5.bind ex))) := HEx.out w5 o5 hX5 HO5.out
 clear HD2 hX5 HO5 HEx
 generalize o5.bind ex = r5 at *
 go_wp2_with fail
 go_at_call 31
 refine HE5.out.mono ?_
 rintro e w6 ⟨p5, rfl, hg6, hX6, hv6⟩
 have HV6 : Hid (∀ x t', r5 = some (x, t') → ExB w5.heap.size w6 (.pointer p5) x) := hv6
 clear HE5 hv6
 go_wp2
 go_ret
 have hg16 := gT hg15 hg6
 have hbl : Below w6.heap.size w6 ((w6.alloc (.cells #[.pointer p3, .pointer p5] 24)).alloc (.cells #[.int .i64 5, .int .i64 0, .string nm, .slice (some ⟨w6.heap.size, 0, none⟩) 2 2] 64)) := (alloc_below w6 _).trans ((alloc_below _ _).mono (by rw [alloc_size]; omega))
 refine ⟨some ⟨w6.heap.size + 1, 0, none⟩, by simp, gT hg16 (grownA_below hbl _), by rw [HV.out]; exact hX6.below hbl, fun x t' hx => ?_⟩
 obtain ⟨v, t3, b, y1, y2, rfl, y4⟩ := HW.out x t' hx
 rw [← HNM.out y4]
 have k3 : ExB w.heap.size w6 (.pointer p3) v := ((HV4.out v t3 y1).mono hg13.size).grown hRw (gT hg5 hg6)
 have k5 : ExB w.heap.size w6 (.pointer p5) b := (HV6.out b t' y2).mono hg15.size
 obtain ⟨W, hW, _, hEE⟩ := ex_built hg16.size 5 0 nm [.pointer p3, .pointer p5] [v, b] rfl (by simp) (fun j hj => by
  rcases (show j = 0 ∨ j = 1 by simp at hj; omega) with rfl | rfl
  ·exact ⟨_, rfl, k3⟩
  ·exact ⟨_, rfl, k5⟩)
 rw [← hW] at hEE
 exact hEE

set_option maxHeartbeats 8000000 in
theorem pexpr_if {W0 w : World} (L : LibA W0) {R m : Nat} {s : ByteArray} {ex : Tok → RE} (hgo : GoesE s ex) (hE : ExC W0 R s (m + 1) ex) {t : Tok} (h : PX W0 w R s (some t)) (ho : OkO s m (some t)) (hn : isS letL (some t) = false) (hi : isS ifL (some t) = true) :
  Calls Tryz.prog 31 #[.pointer (some ⟨R, 0, none⟩)] w (GotE W0 w R s (ifS s ex (nextS s (some t)))) := by
 have hRw := h.lt
 have hO1 : OkO s (m + 1) (nextS s (some t)) := OkO.next (ho t rfl).1 (ho t rfl).2 (by have := is_kind hi; omega)
 have HE0 : Hid (Calls Tryz.prog 56 #[.pointer (some ⟨R, 0, none⟩), .string ⟨#[108, 101, 116]⟩] w fun e w' => e = .returned (.bool false) ∧ w.grownBy w' (some R) ∧ PX W0 w' R s (some t)) := by
  have := peat_any L h ⟨#[108, 101, 116]⟩
  rw [Lib.toList_data] at this
  refine this.mono ?_
  rintro e w' ⟨rfl, hg, hX⟩
  have e1 : eatS s letL (some t) = some t := by unfold eatS; rw [hn]; rfl
  refine ⟨by show _ = Ending.returned (.bool false); rw [← hn]; rfl, hg, by rw [← e1]; exact hX⟩
 have HE1 : Hid (∀ w1, PX W0 w1 R s (some t) → Calls Tryz.prog 56 #[.pointer (some ⟨R, 0, none⟩), .string ⟨#[105, 102]⟩] w1 fun e w' => e = .returned (.bool true) ∧ w1.grownBy w' (some R) ∧ PX W0 w' R s (nextS s (some t))) := fun w1 h1 => by
  have := peat_any L h1 ⟨#[105, 102]⟩
  rw [Lib.toList_data] at this
  refine this.mono ?_
  rintro e w' ⟨rfl, hg, hX⟩
  have e1 : eatS s ifL (some t) = nextS s (some t) := by unfold eatS; rw [hi]; rfl
  refine ⟨by show _ = Ending.returned (.bool true); rw [← hi]; rfl, hg, by rw [← e1]; exact hX⟩
 have HV : Hid (stE (ifS s ex (nextS s (some t))) = stE ((needS s elseL (stE ((needS s thenL (stE ((nextS s (some t)).bind ex))).bind ex))).bind ex)) := if_st s ex _
 have HW : Hid (∀ x t', ifS s ex (nextS s (some t)) = some (x, t') → ∃ a t1 b t2 c, (nextS s (some t)).bind ex = some (a, t1) ∧ (needS s thenL (stE ((nextS s (some t)).bind ex))).bind ex = some (b, t2) ∧ (needS s elseL (stE ((needS s thenL (stE ((nextS s (some t)).bind ex))).bind ex))).bind ex = some (c, t') ∧ x = exN 6 0 emptyT [a, b, c]) := fun x t' hh => if_val hh
 have HEx : Hid (∀ w o, PX W0 w R s o → OkO s (m + 1) o → Calls Tryz.prog 31 #[.pointer (some ⟨R, 0, none⟩)] w (GotE W0 w R s (o.bind ex))) := hE
 have hO3 : OkO s (m + 1) (needS s thenL (stE ((nextS s (some t)).bind ex))) := ((hO1.st hgo).need thenL).mono (by omega)
 have HO1 : Hid (OkO s (m + 1) (nextS s (some t))) := hO1
 have HO3 : Hid (OkO s (m + 1) (needS s thenL (stE ((nextS s (some t)).bind ex)))) := hO3
 have HO5 : Hid (OkO s (m + 1) (needS s elseL (stE ((needS s thenL (stE ((nextS s (some t)).bind ex))).bind ex)))) := ((hO3.st hgo).need elseL).mono (by omega)
 generalize ifS s ex (nextS s (some t)) = res at *
 generalize nextS s (some t) = o1 at *
 clear h ho hi hn hO1 hO3 hE hgo
 go_enter Tryz.func31, Tryz.ntmps31
 go_wp2_with fail
 go_at_call 56
 refine HE0.out.mono ?_
 rintro e w0 ⟨rfl, hg0, hX0⟩
 have HE1b : Hid (Calls Tryz.prog 56 #[.pointer (some ⟨R, 0, none⟩), .string ⟨#[105, 102]⟩] w0 fun e w' => e = .returned (.bool true) ∧ w0.grownBy w' (some R) ∧ PX W0 w' R s o1) := HE1.out w0 hX0
 clear HE0 HE1 hX0
 go_wp2_with fail
 go_at_call 56
 refine HE1b.out.mono ?_
 rintro e w1 ⟨rfl, hg1, hX1⟩
 have hg01 := gT hg0 hg1
 have HEa : Hid (Calls Tryz.prog 31 #[.pointer (some ⟨R, 0, none⟩)] w1 (GotE W0 w1 R s (o1.bind ex))) := HEx.out w1 o1 hX1 HO1.out
 clear HE1b hX1 HO1 hg0 hg1
 generalize o1.bind ex = r1 at *
 go_wp2_with fail
 go_at_call 31
 refine HEa.out.mono ?_
 rintro e w2 ⟨p1, rfl, hg2, hX2, hv2⟩
 have HV2 : Hid (∀ x t', r1 = some (x, t') → ExB w1.heap.size w2 (.pointer p1) x) := hv2
 have hg12 := gT hg01 hg2
 have HD : Hid (Calls Tryz.prog 58 #[.pointer (some ⟨R, 0, none⟩), .string ⟨#[116, 104, 101, 110]⟩] w2 fun e w' => e = .returned (.tuple #[]) ∧ w2.grownBy w' (some R) ∧ PX W0 w' R s (needS s thenL (stE r1))) := by
  have := pneed_any L hX2 ⟨#[116, 104, 101, 110]⟩
  rwa [Lib.toList_data] at this
 clear HEa hX2 hv2
 generalize needS s thenL (stE r1) = o3 at *
 go_wp2_with fail
 go_at_call 58
 refine HD.out.mono ?_
 rintro e w3 ⟨rfl, hg3, hX3⟩
 have hg13 := gT hg12 hg3
 have HE3 : Hid (Calls Tryz.prog 31 #[.pointer (some ⟨R, 0, none⟩)] w3 (GotE W0 w3 R s (o3.bind ex))) := HEx.out w3 o3 hX3 HO3.out
 clear HD hX3 HO3
 generalize o3.bind ex = r3 at *
 go_wp2_with fail
 go_at_call 31
 refine HE3.out.mono ?_
 rintro e w4 ⟨p3, rfl, hg4, hX4, hv4⟩
 have HV4 : Hid (∀ x t', r3 = some (x, t') → ExB w3.heap.size w4 (.pointer p3) x) := hv4
 have hg14 := gT hg13 hg4
 have HD2 : Hid (Calls Tryz.prog 58 #[.pointer (some ⟨R, 0, none⟩), .string ⟨#[101, 108, 115, 101]⟩] w4 fun e w' => e = .returned (.tuple #[]) ∧ w4.grownBy w' (some R) ∧ PX W0 w' R s (needS s elseL (stE r3))) := by
  have := pneed_any L hX4 ⟨#[101, 108, 115, 101]⟩
  rwa [Lib.toList_data] at this
 clear HE3 hX4 hv4
 generalize needS s elseL (stE r3) = o5 at *
 go_wp2_with fail
 go_at_call 58
 refine HD2.out.mono ?_
 rintro e w5 ⟨rfl, hg5, hX5⟩
 have hg15 := gT hg14 hg5
 have HE5 : Hid (Calls Tryz.prog 31 #[.pointer (some ⟨R, 0, none⟩)] w5 (GotE W0 w5 R s (o5.bind ex))) := HEx.out w5 o5 hX5 HO5.out
 clear HD2 hX5 HO5 HEx
 generalize o5.bind ex = r5 at *
 go_wp2_with fail
 go_at_call 31
 refine HE5.out.mono ?_
 rintro e w6 ⟨p5, rfl, hg6, hX6, hv6⟩
 have HV6 : Hid (∀ x t', r5 = some (x, t') → ExB w5.heap.size w6 (.pointer p5) x) := hv6
 clear HE5 hv6
 go_wp2
 go_ret
 have hg16 := gT hg15 hg6
 have hbl : Below w6.heap.size w6 ((w6.alloc (.cells #[.pointer p1, .pointer p3, .pointer p5] 24)).alloc (.cells #[.int .i64 6, .int .i64 0, .string ⟨#[]⟩, .slice (some ⟨w6.heap.size, 0, none⟩) 3 3] 64)) := (alloc_below w6 _).trans ((alloc_below _ _).mono (by rw [alloc_size]; omega))
 refine ⟨some ⟨w6.heap.size + 1, 0, none⟩, by simp, gT hg16 (grownA_below hbl _), by rw [HV.out]; exact hX6.below hbl, fun x t' hx => ?_⟩
 obtain ⟨a, t1, b, t2, c, y1, y2, y3, rfl⟩ := HW.out x t' hx
 have k1 : ExB w.heap.size w6 (.pointer p1) a := ((HV2.out a t1 y1).mono hg01.size).grown hRw (gT hg3 (gT hg4 (gT hg5 hg6)))
 have k3 : ExB w.heap.size w6 (.pointer p3) b := ((HV4.out b t2 y2).mono hg13.size).grown hRw (gT hg5 hg6)
 have k5 : ExB w.heap.size w6 (.pointer p5) c := (HV6.out c t' y3).mono hg15.size
 obtain ⟨W, hW, _, hEE⟩ := ex_built hg16.size 6 0 emptyT [.pointer p1, .pointer p3, .pointer p5] [a, b, c] rfl (by simp) (fun j hj => by
  rcases (show j = 0 ∨ j = 1 ∨ j = 2 by simp at hj; omega) with rfl | rfl | rfl
  ·exact ⟨_, rfl, k1⟩
  ·exact ⟨_, rfl, k3⟩
  ·exact ⟨_, rfl, k5⟩)
 rw [← hW] at hEE
 exact hEE

set_option maxHeartbeats 4000000 in
theorem pexpr_top {W0 w : World} (L : LibA W0) {R m : Nat} {s : ByteArray} {top : Tok → RE} (hT : LvC W0 R s m 0 top) {o : Option Tok} (h : PX W0 w R s o) (ho : OkO s m o) (hn : isS letL o = false) (hi : isS ifL o = false) :
  Calls Tryz.prog 31 #[.pointer (some ⟨R, 0, none⟩)] w (GotE W0 w R s (o.bind top)) := by
 have HE0 : Hid (Calls Tryz.prog 56 #[.pointer (some ⟨R, 0, none⟩), .string ⟨#[108, 101, 116]⟩] w fun e w' => e = .returned (.bool false) ∧ w.grownBy w' (some R) ∧ PX W0 w' R s o) := by
  have := peat_any L h ⟨#[108, 101, 116]⟩
  rw [Lib.toList_data] at this
  refine this.mono ?_
  rintro e w' ⟨rfl, hg, hX⟩
  have e1 : eatS s letL o = o := by unfold eatS; rw [hn]; rfl
  refine ⟨by show _ = Ending.returned (.bool false); rw [← hn]; rfl, hg, by rw [← e1]; exact hX⟩
 have HE1 : Hid (∀ w1, PX W0 w1 R s o → Calls Tryz.prog 56 #[.pointer (some ⟨R, 0, none⟩), .string ⟨#[105, 102]⟩] w1 fun e w' => e = .returned (.bool false) ∧ w1.grownBy w' (some R) ∧ PX W0 w' R s o) := fun w1 h1 => by
  have := peat_any L h1 ⟨#[105, 102]⟩
  rw [Lib.toList_data] at this
  refine this.mono ?_
  rintro e w' ⟨rfl, hg, hX⟩
  have e1 : eatS s ifL o = o := by unfold eatS; rw [hi]; rfl
  refine ⟨by show _ = Ending.returned (.bool false); rw [← hi]; rfl, hg, by rw [← e1]; exact hX⟩
 have HL : Hid (∀ w1, w.grownBy w1 (some R) → PX W0 w1 R s o → Calls Tryz.prog 59 #[.pointer (some ⟨R, 0, none⟩), .int .i64 0] w1 fun e w2 => ∃ p, e = .returned (.pointer p) ∧ GotE W0 w R s (o.bind top) (.returned (.pointer p)) w2) := fun w1 hg1 h1 => by
  refine (hT w1 o h1 ho).mono ?_
  rintro e w2 ⟨p, rfl, hg2, hX2, hv2⟩
  exact ⟨p, rfl, p, rfl, gT hg1 hg2, hX2, fun x u hx => (hv2 x u hx).mono hg1.size⟩
 generalize o.bind top = res at *
 clear h ho hi hn hT
 go_enter Tryz.func31, Tryz.ntmps31
 go_wp2_with fail
 go_at_call 56
 refine HE0.out.mono ?_
 rintro e w0 ⟨rfl, hg0, hX0⟩
 have HE1b : Hid (Calls Tryz.prog 56 #[.pointer (some ⟨R, 0, none⟩), .string ⟨#[105, 102]⟩] w0 fun e w' => e = .returned (.bool false) ∧ w0.grownBy w' (some R) ∧ PX W0 w' R s o) := HE1.out w0 hX0
 clear HE0 HE1 hX0
 go_wp2_with fail
 go_at_call 56
 refine HE1b.out.mono ?_
 rintro e w1 ⟨rfl, hg1, hX1⟩
 have HL2 : Hid (Calls Tryz.prog 59 #[.pointer (some ⟨R, 0, none⟩), .int .i64 0] w1 fun e w2 => ∃ p, e = .returned (.pointer p) ∧ GotE W0 w R s res (.returned (.pointer p)) w2) := HL.out w1 (gT hg0 hg1) hX1
 clear HE1b hX1 HL hg0 hg1
 go_wp2_with fail
 go_at_call 59
 refine HL2.out.mono ?_
 rintro e w2 ⟨p, rfl, hG⟩
 go_wp2
 go_ret
 exact hG

theorem expr_all {W0 : World} (L : LibA W0) {R : Nat} {s : ByteArray} : ∀ (f m : Nat), s.size + 1 ≤ f + m → ExC W0 R s m (exprS s f)
 | 0, m, hf => fun w o h ho => by
  cases o with
  | none =>
   have hA : ∀ m', m ≤ m' → AtC W0 R s m' (atomS s (exprS s 0)) := fun m' hm' => atom_all L (fun hh => by omega) (expr_goes s 0)
   exact pexpr_top L (top_all L (expr_goes s 0) (sgd_all L hA (s.size + 1) m (Nat.le_refl _) (by omega))) h ho rfl rfl
  | some t => have := (ho t rfl).2; have := (ho t rfl).1.2.1; omega
 | f + 1, m, hf => fun w o h ho => by
  have hE : ExC W0 R s (m + 1) (exprS s f) := expr_all L f (m + 1) (by omega)
  have hA : ∀ m', m ≤ m' → AtC W0 R s m' (atomS s (exprS s f)) := fun m' hm' => atom_all L (fun _ w o h ho => hE w o h (ho.mono (by omega))) (expr_goes s f)
  have hT := top_all L (expr_goes s f) (sgd_all L hA (s.size + 1) m (Nat.le_refl _) (by omega))
  cases o with
  | none => exact pexpr_top L hT h ho rfl rfl
  | some t =>
   simp only [Option.bind_some]
   rw [exprS]
   cases h1 : isS letL (some t)
   ·rw [if_neg (by simp)]
    cases h2 : isS ifL (some t)
    ·rw [if_neg (by simp)]
     exact pexpr_top L hT h ho h1 h2
    ·rw [if_pos rfl]
     exact pexpr_if L (expr_goes s f) hE h ho h1 h2
   ·rw [if_pos rfl]
    exact pexpr_let L (expr_goes s f) hE h ho h1

end Go.Proofs.YtgmmfpdekefamaaGreatDoor

namespace Go.Proofs.YtgmmfpdekefamaaGreatDoor
open Go.RowKit
set_option linter.unusedVariables false
set_option maxRecDepth 100000

/-- the expression of a text, valid or not -/
def readE (s : ByteArray) : Option Ex := match (nextS s (some zeroT)).bind (exprS s (s.size + 1)) with
 | none => none
 | some (x, t) => if t.kind = 0 then some x else none
theorem zero_ok (s : ByteArray) : TokOk s zeroT := ⟨by decide, Nat.zero_le _, Nat.zero_le _, fun h => absurd rfl h⟩
theorem parser_new {W0 w : World} {s : ByteArray} (hE : EnvA W0 w) (hs : s.size ≤ 70000) : PX W0 (w.alloc (.cells #[.string s, .bool false, .int .i64 0, .string ⟨#[]⟩, .int .i64 0, .int .i64 0, .int .i64 0, .nilIface, .int .i64 0] 73)) w.heap.size s (some zeroT) :=
 ⟨hE.below (alloc_below w _), hE.1, hs, by rw [alloc_size]; omega, fun t ht => by cases ht; exact ⟨zero_ok s, 0, allocAtA w _⟩, fun h => by cases h⟩
theorem grown_new {w w' : World} {o : Obj} (hg : (w.alloc o).grownBy w' (some w.heap.size)) : Below w.heap.size w w' :=
 ⟨hg.os, hg.tape, hg.output, Nat.le_trans (by rw [alloc_size]; omega) hg.size, fun b hb => (hg.block b (by rw [alloc_size]; omega) (fun e => by cases e; omega)).trans ((alloc_below w o).block b hb)⟩
/-- what ReadExpr gives -/
def RdX (w : World) (s : ByteArray) (e : Ending) (w' : World) : Prop := Below w.heap.size w w' ∧ ((∃ te pe, ∃ z : Int, e = .returned (.tuple #[.pointer none, .iface te pe, .int .i64 z]) ∧ ∀ x, readE s = some x → okX x = false) ∨ ∃ x p, readE s = some x ∧ okX x = true ∧ e = .returned (.tuple #[.pointer p, .nilIface, .int .i64 0]) ∧ ExB w.heap.size w' (.pointer p) x)
theorem EnvA.bnd {W0 w : World} (L : LibA W0) (h : EnvA W0 w) : ∃ te pe, w.cell? ⟨1, 0, none⟩ = some (.iface te pe) := by
 obtain ⟨te, pe, e⟩ := L.bnd
 exact ⟨te, pe, (World.cell?_of_block (a := ⟨1, 0, none⟩) (h.2 1 (by omega))).trans e⟩

set_option maxHeartbeats 8000000 in
theorem readexpr_any {W0 w : World} (L : LibA W0) (hE : EnvA W0 w) {s : ByteArray} (hs : s.size ≤ 65536) (hT : ∀ x, readE s = some x → TxA x) :
  Calls Tryz.prog 13 #[.string s] w (RdX w s) := by
 have hl : ¬ (65536 : Int) < (s.size : Int) := by omega
 have hl2 : decide ((s.size : Int) > 65536) = false := decide_eq_false (by omega)
 have hX0 := parser_new (s := s) hE (by omega)
 have HN : Hid (Calls Tryz.prog 30 #[.pointer (some ⟨w.heap.size, 0, none⟩)] (w.alloc (.cells #[.string s, .bool false, .int .i64 0, .string ⟨#[]⟩, .int .i64 0, .int .i64 0, .int .i64 0, .nilIface, .int .i64 0] 73)) fun e w' => e = .returned (.tuple #[]) ∧ (w.alloc (.cells #[.string s, .bool false, .int .i64 0, .string ⟨#[]⟩, .int .i64 0, .int .i64 0, .int .i64 0, .nilIface, .int .i64 0] 73)).grownBy w' (some w.heap.size) ∧ PX W0 w' w.heap.size s (nextS s (some zeroT))) := pnext_any L hX0
 have HO : Hid (OkO s 0 (nextS s (some zeroT))) := fun u hu => by
  have := cut_goes (Nat.zero_le _) hu
  exact ⟨⟨this.2.2.2.2.2.1, this.2.1, this.2.2.1, this.2.2.2.1⟩, Nat.zero_le _⟩
 have HX : Hid (∀ w1 o, PX W0 w1 w.heap.size s o → OkO s 0 o → Calls Tryz.prog 31 #[.pointer (some ⟨w.heap.size, 0, none⟩)] w1 (GotE W0 w1 w.heap.size s (o.bind (exprS s (s.size + 1))))) := fun w1 o h1 h2 => expr_all L (s.size + 1) 0 (by omega) w1 o h1 h2
 have HR : Hid (readE s = match (nextS s (some zeroT)).bind (exprS s (s.size + 1)) with | none => none | some (x, t) => if t.kind = 0 then some x else none) := rfl
 have HT : Hid (∀ x, readE s = some x → TxA x) := hT
 have HG : Hid (∀ w', (w.alloc (.cells #[.string s, .bool false, .int .i64 0, .string ⟨#[]⟩, .int .i64 0, .int .i64 0, .int .i64 0, .nilIface, .int .i64 0] 73)).grownBy w' (some w.heap.size) → Below w.heap.size w w') := fun w' h => grown_new h
 have HSz : Hid (w.heap.size ≤ (w.alloc (.cells #[.string s, .bool false, .int .i64 0, .string ⟨#[]⟩, .int .i64 0, .int .i64 0, .int .i64 0, .nilIface, .int .i64 0] 73)).heap.size) := by show _ ≤ _; rw [alloc_size]; omega
 generalize hrdE : readE s = rd at *
 have HQ : Hid (readE s = rd) := hrdE
 clear hrdE
 generalize nextS s (some zeroT) = o1 at *
 clear hX0 hE hT
 go_enter Tryz.func13, Tryz.ntmps13
 go_wp2_with fail
 generalize w.alloc (.cells #[.string s, .bool false, .int .i64 0, .string ⟨#[]⟩, .int .i64 0, .int .i64 0, .int .i64 0, .nilIface, .int .i64 0] 73) = w0 at *
 go_at_call 30
 refine HN.out.mono ?_
 rintro e w1 ⟨rfl, hg1, hX1⟩
 have HE1 : Hid (Calls Tryz.prog 31 #[.pointer (some ⟨w.heap.size, 0, none⟩)] w1 (GotE W0 w1 w.heap.size s (o1.bind (exprS s (s.size + 1))))) := HX.out w1 o1 hX1 HO.out
 clear HN HX HO hX1
 generalize o1.bind (exprS s (s.size + 1)) = r at *
 go_wp2_with fail
 go_at_call 31
 refine HE1.out.mono ?_
 rintro e w2 ⟨p, rfl, hg2, hX2, hv2⟩
 have hg12 := gT hg1 hg2
 have HV2 : Hid (∀ x t, r = some (x, t) → ExB w1.heap.size w2 (.pointer p) x) := hv2
 have hs1 : w.heap.size ≤ w1.heap.size := Nat.le_trans HSz.out hg1.size
 clear HE1 hv2
 obtain ⟨t, b, z, hp, hf, hst⟩ := hX2.cells
 obtain ⟨c0, c1, c2, c3, c4, c5, c6, c7, c8⟩ := hp.cells
 by_cases hk : t.kind = 0
 ·have hk2 : (t.kind != 0) = false := by rw [hk]; rfl
  rcases hst with ⟨hr, rfl, hok⟩ | ⟨hr, te, pe, rfl⟩
  ·-- good
   cases r with
   | none => cases hr
   | some y =>
    obtain ⟨x, t'⟩ := y
    obtain rfl : t' = t := Option.some.inj hr
    have hrd : rd = some x := by rw [HR.out]; simp only; rw [if_pos hk]
    have hEx := HV2.out x t' rfl
    have HEx : Hid (ExB w.heap.size w2 (.pointer p) x) := hEx.mono hs1
    have HOk : Hid (Calls Tryz.prog 8 #[.pointer p] w2 fun e w' => e = .returned (.bool (okX x)) ∧ w' = w2) := rexprok_any hEx (HT.out x hrd)
    have HRD : Hid (rd = some x) := hrd
    have HB : Hid (Below w.heap.size w w2) := HG.out w2 hg12
    obtain ⟨te, pe, cb⟩ := hX2.env.bnd L
    clear hEx hrd HR HT hp hX2 hg12 hg2 hg1 HV2
    cases hox : okX x
    ·rw [hox] at HOk
     go_wp2_with (go_at_call 8; refine HOk.out.mono ?_; rintro e w' ⟨rfl, hw⟩; obtain rfl := hw.symm; clear hw)
     go_quiet (fail)
     go_wp2
     go_ret3
     exact ⟨below_drewG HB.out nq, .inl ⟨te, pe, 0, rfl, fun y hy => by rw [HQ.out, HRD.out] at hy; cases hy; exact hox⟩⟩
    ·rw [hox] at HOk
     go_wp2_with (go_at_call 8; refine HOk.out.mono ?_; rintro e w' ⟨rfl, hw⟩; obtain rfl := hw.symm; clear hw)
     go_ret3
     exact ⟨HB.out, .inr ⟨x, p, by rw [HQ.out]; exact HRD.out, hox, rfl, HEx.out⟩⟩
  ·-- bad
   have hrd : rd = none := by
    rw [HR.out]
    cases r with
    | none => rfl
    | some y => cases hr
   have HRD : Hid (rd = none) := hrd
   have HB : Hid (Below w.heap.size w w2) := HG.out w2 hg12
   clear hrd HR HT hp hX2 hg12 hg2 hg1 HV2
   go_wp2
   go_quiet (fail)
   go_wp2
   go_ret3
   exact ⟨below_drewG HB.out nq, .inl ⟨te, pe, z, rfl, fun y hy => by rw [HQ.out, HRD.out] at hy; cases hy⟩⟩
 ·have hk2 : (t.kind != 0) = true := by rw [bne_iff_ne]; exact hk
  have hrd : ∀ x, rd ≠ some x := fun x hx => by
   rw [HR.out] at hx
   rcases hst with ⟨hr, _⟩ | ⟨hr, _⟩
   ·cases r with
    | none => cases hr
    | some y =>
     obtain ⟨x', t'⟩ := y
     obtain rfl : t' = t := Option.some.inj hr
     simp only at hx
     rw [if_neg hk] at hx
     cases hx
   ·cases r with
    | none => cases hx
    | some y => cases hr
  have HRD : Hid (∀ x, rd ≠ some x) := hrd
  have HW : Hid (Calls Tryz.prog 32 #[.pointer (some ⟨w.heap.size, 0, none⟩)] w2 fun e w3 => e = .returned (.tuple #[]) ∧ Below w.heap.size w w3 ∧ ∃ te pe, ∃ z : Int, w3.cell? ⟨w.heap.size, 7, none⟩ = some (.iface te pe) ∧ w3.cell? ⟨w.heap.size, 8, none⟩ = some (.int .i64 z)) := by
   refine (pwrong_any L hX2).mono ?_
   rintro e w3 ⟨rfl, hg3, hX3⟩
   obtain ⟨t3, te, pe, z3, _, hp3⟩ := hX3.bad rfl
   obtain ⟨_, _, _, _, _, _, _, e7, e8⟩ := hp3.cells
   exact ⟨rfl, HG.out w3 (gT hg12 hg3), te, pe, z3, e7, e8⟩
  clear hrd HR HT hp hX2 hg12 hg2 hg1 HV2 hst c0 c1 c3 c4 c5 c6 c7 c8
  go_wp2_with fail
  go_at_call 32
  refine HW.out.mono ?_
  rintro e w3 ⟨rfl, hb3, te3, pe3, z3, e7, e8⟩
  clear HW
  go_wp2
  go_quiet (fail)
  go_wp2
  go_ret3
  exact ⟨below_drewG hb3 nq, .inl ⟨te3, pe3, z3, rfl, fun y hy => absurd (HQ.out.symm.trans hy) (HRD.out y)⟩⟩

end Go.Proofs.YtgmmfpdekefamaaGreatDoor

namespace Go.Proofs.YtgmmfpdekefamaaGreatDoor
open Go.RowKit
set_option linter.unusedVariables false
set_option maxRecDepth 100000

end Go.Proofs.YtgmmfpdekefamaaGreatDoor

namespace Go.Proofs.YtgmmfpdekefamaaGreatDoor
open Go.RowKit
set_option linter.unusedVariables false
set_option maxRecDepth 100000

end Go.Proofs.YtgmmfpdekefamaaGreatDoor

namespace Go.Proofs.YtgmmfpdekefamaaGreatDoor
open Go.RowKit
set_option linter.unusedVariables false
set_option maxRecDepth 100000

end Go.Proofs.YtgmmfpdekefamaaGreatDoor

namespace Go.Proofs.YtgmmfpdekefamaaGreatDoor
open Go.RowKit
set_option linter.unusedVariables false
set_option maxRecDepth 100000

end Go.Proofs.YtgmmfpdekefamaaGreatDoor

namespace Go.Proofs.YtgmmfpdekefamaaGreatDoor
open Go.RowKit
set_option linter.unusedVariables false
set_option maxRecDepth 100000

/-- one step of a text that is one -/
theorem quo_step {s : ByteArray} {f i : Nat} {t : ByteArray} {y : ByteArray × Nat} (h : quoE s f i t = some y) :
  i < s.size ∧ okAt s i = true ∧ (s.get! i).toNat ≠ 10 ∧ (((s.get! i).toNat = 34 ∧ y = (t, i + 1)) ∨ ((s.get! i).toNat ≠ 34 ∧ (s.get! i).toNat ≠ 92 ∧ ∃ f', quoE s f' (i + (Utf8.decode s i).2) (t ++ s.extract i (i + (Utf8.decode s i).2)) = some y) ∨
   ((s.get! i).toNat = 92 ∧ i + 1 < s.size ∧ ∃ (f' : Nat) (c : UInt8), (((s.get! (i + 1)).toNat = 110 ∧ c.toNat = 10) ∨ ((s.get! (i + 1)).toNat = 34 ∧ c.toNat = 34) ∨ ((s.get! (i + 1)).toNat = 92 ∧ c.toNat = 92)) ∧ quoE s f' (i + 2) (t ++ ⟨#[c]⟩) = some y)) := by
 cases f with
 | zero => cases h
 | succ f =>
  unfold quoE at h
  by_cases hi : i < s.size
  ·rw [if_pos hi] at h
   by_cases hb : okAt s i = false ∨ (s.get! i).toNat = 10
   ·rw [if_pos hb] at h; cases h
   ·rw [if_neg hb] at h
    have ho : okAt s i = true := by
     cases hq : okAt s i
     ·exact absurd (.inl hq) hb
     ·rfl
    refine ⟨hi, ho, fun e => hb (.inr e), ?_⟩
    by_cases h34 : (s.get! i).toNat = 34
    ·rw [if_pos h34] at h
     exact .inl ⟨h34, (Option.some.inj h).symm⟩
    ·rw [if_neg h34] at h
     by_cases h92 : (s.get! i).toNat ≠ 92
     ·rw [if_pos h92] at h
      exact .inr (.inl ⟨h34, h92, f, h⟩)
     ·rw [if_neg h92] at h
      by_cases h2 : i + 1 < s.size
      ·rw [if_pos h2] at h
       refine .inr (.inr ⟨by omega, h2, f, ?_⟩)
       by_cases k1 : (s.get! (i + 1)).toNat = 110
       ·rw [if_pos k1] at h; exact ⟨10, .inl ⟨k1, rfl⟩, h⟩
       ·rw [if_neg k1] at h
        by_cases k2 : (s.get! (i + 1)).toNat = 34
        ·rw [if_pos k2] at h; exact ⟨34, .inr (.inl ⟨k2, rfl⟩), h⟩
        ·rw [if_neg k2] at h
         by_cases k3 : (s.get! (i + 1)).toNat = 92
         ·rw [if_pos k3] at h; exact ⟨92, .inr (.inr ⟨k3, rfl⟩), h⟩
         ·rw [if_neg k3] at h; cases h
      ·rw [if_neg h2] at h; cases h
  ·rw [if_neg hi] at h; cases h
theorem go_decode {s : ByteArray} {i : Nat} (hi : i < s.size) : Lib.decodeGo (s.extract i s.size) = Utf8.decode s i := by
 have hsz : (s.extract i s.size).size ≠ 0 := by rw [ByteArray.size_extract]; omega
 have h1 := Lib.decodeL_drop (s.extract i s.size) 0
 have h2 := Lib.decodeL_drop s i
 have h3 : (s.extract i s.size).data.toList.drop 0 = s.data.toList.drop i := by
  rw [List.drop_zero, ByteArray.data_extract, Array.toList_extract]
  have hz : s.data.toList.length = s.size := by rw [Array.length_toList]; rfl
  rw [List.extract_eq_take_drop, List.take_of_length_le (by rw [List.length_drop]; omega)]
 rw [h3, h2] at h1
 unfold Lib.decodeGo
 rw [if_neg hsz]
 exact h1.symm
theorem dec_asc {s : ByteArray} {i : Nat} (h : (s.get! i).toNat < 128) : Utf8.decode s i = ((s.get! i).toNat, 1) := by
 rw [Lib.decode_at, Lib.decodeN, if_pos h]
theorem q_head {s : ByteArray} {i n : Nat} (hi : i < s.size) (ho : okAt s i = true) (hn : n < 128) (h : (Utf8.decode s i).1 = n) : (s.get! i).toNat = n := by
 have h1 := enc_dec s i hi ho
 rw [h] at h1
 have e : Lib.encodeRune (n : Int) = [n.toUInt8] := by
  unfold Lib.encodeRune
  rw [Lib.encodeRuneZ_one (by omega) (by omega)]
  simp
 have h2 := dec_width s i
 have hl : i < s.data.toList.length := by rw [Array.length_toList]; exact hi
 rw [e, List.drop_eq_getElem_cons hl] at h1
 obtain ⟨m, hm⟩ : ∃ m, (Utf8.decode s i).2 = m + 1 := ⟨(Utf8.decode s i).2 - 1, by omega⟩
 rw [hm, List.take_succ_cons] at h1
 have h3 := (List.cons.inj h1).1
 have h4 : s.get! i = s.data.toList[i] := by
  rw [get_bangA, Array.getElem_toList, Array.getElem?_eq_getElem (by simpa using hl)]
  rfl
 rw [h4, ← h3]
 have : (n.toUInt8).toNat = n % 256 := by simp
 omega
/-- how far the text between quotes is -/
structure QI (w0 w : World) (C : Nat) (s : ByteArray) (i : Nat) (t : ByteArray) : Prop where
 cx : CX w0 w C s i zeroP
 bld : Bld (w0.heap.size + 1) (w0.heap.size + 1) 173 [] (Lib.byteCells t.data.toList) w
 utf : UtfW w
 big : 16 ≤ C
 le : t.size ≤ i ∧ i ≤ s.size
theorem QI.move {w0 w w' : World} {C : Nat} {s : ByteArray} {i j : Nat} {t : ByteArray} (h : QI w0 w C s i t) (hg : w.grownBy w' (some C)) (hc : CtA w' C s j) (hj : i ≤ j) (hs : j ≤ s.size) : QI w0 w' C s j t :=
 ⟨h.cx.run hg hc, h.bld.keptC hg (by have := h.cx.ne; omega), h.utf.kept hg h.big, h.big, by have := h.le.1; omega, hs⟩
theorem QI.wrote {w0 w w' : World} {C : Nat} {s : ByteArray} {i : Nat} {t u : ByteArray} (h : QI w0 w C s i t) (hb : Bld (w0.heap.size + 1) (w0.heap.size + 1) 173 [] (Lib.byteCells u.data.toList) w') (hf : BFr (w0.heap.size + 1) (w0.heap.size + 1) w w') (hu : u.size ≤ i) : QI w0 w' C s i u := by
 have hne := h.cx.ne
 have hB := hf.1
 refine ⟨⟨⟨hB.os.trans h.cx.gr.os, hB.tape.trans h.cx.gr.tape, hB.output.trans h.cx.gr.output, Nat.le_trans h.cx.gr.size hB.size, fun b hb1 hb2 => (hB.block b (by omega)).trans (h.cx.gr.block b hb1 hb2)⟩, (hB.block C (by omega)).trans h.cx.ct, (hB.block _ (by omega)).trans h.cx.box, hne⟩, hb, ?_, h.big, hu, h.le.2⟩
 have k : ∀ (g j : Nat) (v : Value), g < 16 → w.cell? ⟨g, j, none⟩ = some v → w'.cell? ⟨g, j, none⟩ = some v := fun g j v hg16 hc => by
  have := h.big
  exact (World.cell?_of_block (a := ⟨g, j, none⟩) (hB.block g (by omega))).trans hc
 exact ⟨fun c hc => k _ _ _ (by show (8 : Nat) < 16; decide) (h.utf.1 c hc), fun i hi => ⟨k _ _ _ (by show (9 : Nat) < 16; decide) (h.utf.2 i hi).1, k _ _ _ (by show (9 : Nat) < 16; decide) (h.utf.2 i hi).2⟩⟩

end Go.Proofs.YtgmmfpdekefamaaGreatDoor
