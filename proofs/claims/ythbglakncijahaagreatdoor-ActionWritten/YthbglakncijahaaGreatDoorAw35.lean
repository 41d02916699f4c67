/- Texts of the proof, put together: AExp10. -/
import Derived.Test.YthbglakncijahaaGreatDoorAw34
namespace Go.Proofs.YthbglakncijahaaGreatDoor
open Go.RowKit
set_option linter.unusedVariables false
set_option maxRecDepth 100000

theorem kidsL_three (l : List UInt8) : ∃ n : Nat, kidsL l = (n : Int) ∧ n ≤ 3 := by
  unfold kidsL
  cases l == [108, 101, 110] <;> cases l == [116, 101, 120, 116] <;> cases l == [116, 97, 103] <;> cases l == [107, 105, 100, 115] <;> cases l == [105, 110, 116] <;> cases l == [110, 111, 100, 101] <;> cases l == [97, 116] <;> first | exact ⟨0, rfl, by omega⟩ | exact ⟨1, rfl, by omega⟩ | exact ⟨2, rfl, by omega⟩ | exact ⟨3, rfl, by omega⟩
theorem atom_all {W0 : World} (L : LibA W0) {R m : Nat} {s : ByteArray} {ex : Tok → RE} (hE : m ≤ s.size → ExC W0 R s (m + 1) ex) (hgo : GoesE s ex) : AtC W0 R s m (atomS s ex) := by
  intro w o h ho
  cases o with
  | none => exact patom_bad h
  | some t =>
    simp only [Option.bind_some]
    have hE := hE (by have := (ho t rfl).2; have := (ho t rfl).1.2.1; omega)
    by_cases h1 : t.kind = 1
    · exact patom_num L h h1
    by_cases h3 : t.kind = 3
    · exact patom_arg L h h3
    by_cases h2 : t.kind = 2
    · exact patom_text L h h2
    cases hp : isS [40] (some t)
    · cases hb : isS [91] (some t)
      · obtain ⟨n, hn, hn3⟩ := kidsL_three t.text.toList
        by_cases h4 : t.kind = 4 ∧ 0 < n
        · exact patom_call L hE hgo h ho h1 h3 h2 hp hb h4.1 hn h4.2 hn3
        · exact patom_name L h h1 h3 h2 hp hb (fun hh => h4 ⟨hh.1, by omega⟩)
      · exact patom_list L hE hgo h ho h1 h3 h2 hp hb
    · exact patom_paren L hE h ho h1 h3 h2 hp
theorem sgd_all {W0 : World} (L : LibA W0) {R : Nat} {s : ByteArray} {ex : Tok → RE} {m0 : Nat} (hA : ∀ m, m0 ≤ m → AtC W0 R s m (atomS s ex)) : ∀ (f m : Nat), m0 ≤ m → s.size + 1 ≤ f + m → SgC W0 R s m (sgdS s ex f)
  | 0, m, hm, hf => fun w o h ho => by
    cases o with
    | none => exact psigned_step (f := 0) L (hA m hm) (fun ⟨t, ht⟩ => by cases ht) h ho
    | some t => have := (ho t rfl).2; have := (ho t rfl).1.2.1; omega
  | f + 1, m, hm, hf => fun w o h ho => psigned_step L (hA m hm) (fun _ => sgd_all L hA f (m + 1) (by omega) (by omega)) h ho

set_option maxHeartbeats 2000000 in
theorem plevel_three {W0 w : World} {R m : Nat} {s : ByteArray} {sub : Tok → RE} (hS : SgC W0 R s m sub) {o : Option Tok} (h : PX W0 w R s o) (ho : OkO s m o) :
    Calls Tryz.prog 59 #[.pointer (some ⟨R, 0, none⟩), .int .i64 3] w (GotE W0 w R s (o.bind sub)) := by
  have HS : Hid (Calls Tryz.prog 118 #[.pointer (some ⟨R, 0, none⟩)] w (GotE W0 w R s (o.bind sub))) := hS w o h ho
  generalize o.bind sub = res at *
  clear h ho hS
  go_enter Tryz.func59, Tryz.ntmps59
  go_wp2_with fail
  go_at_call 118
  refine HS.out.mono ?_
  rintro e w1 ⟨p, rfl, hg, hX, hv⟩
  have HG : Hid (GotE W0 w R s res (.returned (.pointer p)) w1) := ⟨p, rfl, hg, hX, hv⟩
  clear hv hX hg
  go_wp2
  go_ret
  exact HG.out
theorem lv_step {W0 : World} (L : LibA W0) {R m : Nat} {s : ByteArray} {sub : Tok → RE} (n k : Int) (hk : n + 1 = k) (hn0 : 0 ≤ n) (hn2 : n ≤ 2) (hS : LvC W0 R s m k sub) (hgo : GoesE s sub) : LvC W0 R s m n (levS s n sub) := by
  subst hk
  exact fun w o h ho => plevel_step L hn0 hn2 hS hgo h ho
theorem top_all {W0 : World} (L : LibA W0) {R m : Nat} {s : ByteArray} {ex : Tok → RE} (hgo : GoesE s ex) (hS : SgC W0 R s m (sgdS s ex (s.size + 1))) : LvC W0 R s m 0 (topS s ex) := by
  have g3 := sgd_goes hgo (s.size + 1)
  have l3 : LvC W0 R s m 3 (sgdS s ex (s.size + 1)) := fun w o h ho => plevel_three hS h ho
  have l2 := lv_step L 2 3 (by omega) (by omega) (by omega) l3 g3
  have l1 := lv_step L 1 2 (by omega) (by omega) (by omega) l2 (lev_goes g3)
  have l0 := lv_step L 0 1 (by omega) (by omega) (by omega) l1 (lev_goes (lev_goes g3))
  intro w o h ho
  have := l0 w o h ho
  unfold topS
  exact this

set_option maxHeartbeats 8000000 in
theorem pexpr_let {W0 w : World} (L : LibA W0) {R m : Nat} {s : ByteArray} {ex : Tok → RE} (hgo : GoesE s ex) (hE : ExC W0 R s (m + 1) ex) {t : Tok} (h : PX W0 w R s (some t)) (ho : OkO s m (some t)) (hi : isS letL (some t) = true) :
    Calls Tryz.prog 31 #[.pointer (some ⟨R, 0, none⟩)] w (GotE W0 w R s (letS s ex (nextS s (some t)))) := by
  have hRw := h.lt
  have hO1 : OkO s (m + 1) (nextS s (some t)) := OkO.next (ho t rfl).1 (ho t rfl).2 (by have := is_kind hi; omega)
  have hO3 : OkO s (m + 1) (needS s [61] (nameS s (nextS s (some t)))) := (hO1.name.need [61]).mono (by omega)
  have HE1 : Hid (Calls Tryz.prog 56 #[.pointer (some ⟨R, 0, none⟩), .string ⟨#[108, 101, 116]⟩] w fun e w' => e = .returned (.bool true) ∧ w.grownBy w' (some R) ∧ PX W0 w' R s (nextS s (some t))) := by
    have := peat_any L h ⟨#[108, 101, 116]⟩
    rw [Lib.toList_data] at this
    refine this.mono ?_
    rintro e w' ⟨rfl, hg, hX⟩
    have e1 : eatS s letL (some t) = nextS s (some t) := by unfold eatS; rw [hi]; rfl
    refine ⟨by show _ = Ending.returned (.bool true); rw [← hi]; rfl, hg, by rw [← e1]; exact hX⟩
  have HV : Hid (stE (letS s ex (nextS s (some t))) = stE ((needS s inL (stE ((needS s [61] (nameS s (nextS s (some t)))).bind ex))).bind ex)) := let_st s ex _
  have HW : Hid (∀ x t', letS s ex (nextS s (some t)) = some (x, t') → ∃ v t3 b, (needS s [61] (nameS s (nextS s (some t)))).bind ex = some (v, t3) ∧ (needS s inL (stE ((needS s [61] (nameS s (nextS s (some t)))).bind ex))).bind ex = some (b, t') ∧ x = exN 5 0 (textS (nextS s (some t))) [v, b] ∧ namedS (nextS s (some t)) = true) := fun x t' hh => let_val hh
  have HEx : Hid (∀ w o, PX W0 w R s o → OkO s (m + 1) o → Calls Tryz.prog 31 #[.pointer (some ⟨R, 0, none⟩)] w (GotE W0 w R s (o.bind ex))) := hE
  have HO3 : Hid (OkO s (m + 1) (needS s [61] (nameS s (nextS s (some t))))) := hO3
  have HO5 : Hid (OkO s (m + 1) (needS s inL (stE ((needS s [61] (nameS s (nextS s (some t)))).bind ex)))) := ((hO3.st hgo).need inL).mono (by omega)
  generalize letS s ex (nextS s (some t)) = res at *
  generalize nextS s (some t) = o1 at *
  clear h ho hi hO1 hO3 hE hgo
  go_enter Tryz.func31, Tryz.ntmps31
  go_wp2_with fail
  go_at_call 56
  refine HE1.out.mono ?_
  rintro e w1 ⟨rfl, hg1, hX1⟩
  have HN : Hid (Calls Tryz.prog 57 #[.pointer (some ⟨R, 0, none⟩)] w1 fun e w' => ∃ x, e = .returned (.string x) ∧ w1.grownBy w' (some R) ∧ PX W0 w' R s (nameS s o1) ∧ (namedS o1 = true → x = textS o1)) := pname_any L hX1
  clear HE1 hX1
  generalize nameS s o1 = o2 at *
  go_wp2_with fail
  go_at_call 57
  refine HN.out.mono ?_
  rintro e w2 ⟨nm, rfl, hg2, hX2, hnm⟩
  have HNM : Hid (namedS o1 = true → nm = textS o1) := hnm
  have hg12 := gT hg1 hg2
  have HD : Hid (Calls Tryz.prog 58 #[.pointer (some ⟨R, 0, none⟩), .string ⟨#[61]⟩] w2 fun e w' => e = .returned (.tuple #[]) ∧ w2.grownBy w' (some R) ∧ PX W0 w' R s (needS s [61] o2)) := by
    have := pneed_any L hX2 ⟨#[61]⟩
    rwa [Lib.toList_data] at this
  clear HN hX2 hnm hg1 hg2
  generalize needS s [61] o2 = o3 at *
  go_wp2_with fail
  go_at_call 58
  refine HD.out.mono ?_
  rintro e w3 ⟨rfl, hg3, hX3⟩
  have hg13 := gT hg12 hg3
  have HE3 : Hid (Calls Tryz.prog 31 #[.pointer (some ⟨R, 0, none⟩)] w3 (GotE W0 w3 R s (o3.bind ex))) := HEx.out w3 o3 hX3 HO3.out
  clear HD hX3 hg12 hg3 HO3
  generalize o3.bind ex = r3 at *
  go_wp2_with fail
  go_at_call 31
  refine HE3.out.mono ?_
  rintro e w4 ⟨p3, rfl, hg4, hX4, hv4⟩
  have HV4 : Hid (∀ x t', r3 = some (x, t') → ExB w3.heap.size w4 (.pointer p3) x) := hv4
  have hg14 := gT hg13 hg4
  have HD2 : Hid (Calls Tryz.prog 58 #[.pointer (some ⟨R, 0, none⟩), .string ⟨#[105, 110]⟩] w4 fun e w' => e = .returned (.tuple #[]) ∧ w4.grownBy w' (some R) ∧ PX W0 w' R s (needS s inL (stE r3))) := by
    have := pneed_any L hX4 ⟨#[105, 110]⟩
    rwa [Lib.toList_data] at this
  clear HE3 hX4 hv4
  generalize needS s inL (stE r3) = o5 at *
  go_wp2_with fail
  go_at_call 58
  refine HD2.out.mono ?_
  rintro e w5 ⟨rfl, hg5, hX5⟩
  have hg15 := gT hg14 hg5
  have HE5 : Hid (Calls Tryz.prog 31 #[.pointer (some ⟨R, 0, none⟩)] w5 (GotE W0 w5 R s (o5.bind ex))) := HEx.out w5 o5 hX5 HO5.out
  clear HD2 hX5 HO5 HEx
  generalize o5.bind ex = r5 at *
  go_wp2_with fail
  go_at_call 31
  refine HE5.out.mono ?_
  rintro e w6 ⟨p5, rfl, hg6, hX6, hv6⟩
  have HV6 : Hid (∀ x t', r5 = some (x, t') → ExB w5.heap.size w6 (.pointer p5) x) := hv6
  clear HE5 hv6
  go_wp2
  go_ret
  have hg16 := gT hg15 hg6
  have hbl : Below w6.heap.size w6 ((w6.alloc (.cells #[.pointer p3, .pointer p5] 24)).alloc (.cells #[.int .i64 5, .int .i64 0, .string nm, .slice (some ⟨w6.heap.size, 0, none⟩) 2 2] 64)) := (alloc_below w6 _).trans ((alloc_below _ _).mono (by rw [alloc_size]; omega))
  refine ⟨some ⟨w6.heap.size + 1, 0, none⟩, by simp, gT hg16 (grownA_below hbl _), by rw [HV.out]; exact hX6.below hbl, fun x t' hx => ?_⟩
  obtain ⟨v, t3, b, y1, y2, rfl, y4⟩ := HW.out x t' hx
  rw [← HNM.out y4]
  have k3 : ExB w.heap.size w6 (.pointer p3) v := ((HV4.out v t3 y1).mono hg13.size).grown hRw (gT hg5 hg6)
  have k5 : ExB w.heap.size w6 (.pointer p5) b := (HV6.out b t' y2).mono hg15.size
  obtain ⟨W, hW, _, hEE⟩ := ex_built hg16.size 5 0 nm [.pointer p3, .pointer p5] [v, b] rfl (by simp) (fun j hj => by
    rcases (show j = 0 ∨ j = 1 by simp at hj; omega) with rfl | rfl
    · exact ⟨_, rfl, k3⟩
    · exact ⟨_, rfl, k5⟩)
  rw [← hW] at hEE
  exact hEE

set_option maxHeartbeats 8000000 in
theorem pexpr_if {W0 w : World} (L : LibA W0) {R m : Nat} {s : ByteArray} {ex : Tok → RE} (hgo : GoesE s ex) (hE : ExC W0 R s (m + 1) ex) {t : Tok} (h : PX W0 w R s (some t)) (ho : OkO s m (some t)) (hn : isS letL (some t) = false) (hi : isS ifL (some t) = true) :
    Calls Tryz.prog 31 #[.pointer (some ⟨R, 0, none⟩)] w (GotE W0 w R s (ifS s ex (nextS s (some t)))) := by
  have hRw := h.lt
  have hO1 : OkO s (m + 1) (nextS s (some t)) := OkO.next (ho t rfl).1 (ho t rfl).2 (by have := is_kind hi; omega)
  have HE0 : Hid (Calls Tryz.prog 56 #[.pointer (some ⟨R, 0, none⟩), .string ⟨#[108, 101, 116]⟩] w fun e w' => e = .returned (.bool false) ∧ w.grownBy w' (some R) ∧ PX W0 w' R s (some t)) := by
    have := peat_any L h ⟨#[108, 101, 116]⟩
    rw [Lib.toList_data] at this
    refine this.mono ?_
    rintro e w' ⟨rfl, hg, hX⟩
    have e1 : eatS s letL (some t) = some t := by unfold eatS; rw [hn]; rfl
    refine ⟨by show _ = Ending.returned (.bool false); rw [← hn]; rfl, hg, by rw [← e1]; exact hX⟩
  have HE1 : Hid (∀ w1, PX W0 w1 R s (some t) → Calls Tryz.prog 56 #[.pointer (some ⟨R, 0, none⟩), .string ⟨#[105, 102]⟩] w1 fun e w' => e = .returned (.bool true) ∧ w1.grownBy w' (some R) ∧ PX W0 w' R s (nextS s (some t))) := fun w1 h1 => by
    have := peat_any L h1 ⟨#[105, 102]⟩
    rw [Lib.toList_data] at this
    refine this.mono ?_
    rintro e w' ⟨rfl, hg, hX⟩
    have e1 : eatS s ifL (some t) = nextS s (some t) := by unfold eatS; rw [hi]; rfl
    refine ⟨by show _ = Ending.returned (.bool true); rw [← hi]; rfl, hg, by rw [← e1]; exact hX⟩
  have HV : Hid (stE (ifS s ex (nextS s (some t))) = stE ((needS s elseL (stE ((needS s thenL (stE ((nextS s (some t)).bind ex))).bind ex))).bind ex)) := if_st s ex _
  have HW : Hid (∀ x t', ifS s ex (nextS s (some t)) = some (x, t') → ∃ a t1 b t2 c, (nextS s (some t)).bind ex = some (a, t1) ∧ (needS s thenL (stE ((nextS s (some t)).bind ex))).bind ex = some (b, t2) ∧ (needS s elseL (stE ((needS s thenL (stE ((nextS s (some t)).bind ex))).bind ex))).bind ex = some (c, t') ∧ x = exN 6 0 emptyT [a, b, c]) := fun x t' hh => if_val hh
  have HEx : Hid (∀ w o, PX W0 w R s o → OkO s (m + 1) o → Calls Tryz.prog 31 #[.pointer (some ⟨R, 0, none⟩)] w (GotE W0 w R s (o.bind ex))) := hE
  have hO3 : OkO s (m + 1) (needS s thenL (stE ((nextS s (some t)).bind ex))) := ((hO1.st hgo).need thenL).mono (by omega)
  have HO1 : Hid (OkO s (m + 1) (nextS s (some t))) := hO1
  have HO3 : Hid (OkO s (m + 1) (needS s thenL (stE ((nextS s (some t)).bind ex)))) := hO3
  have HO5 : Hid (OkO s (m + 1) (needS s elseL (stE ((needS s thenL (stE ((nextS s (some t)).bind ex))).bind ex)))) := ((hO3.st hgo).need elseL).mono (by omega)
  generalize ifS s ex (nextS s (some t)) = res at *
  generalize nextS s (some t) = o1 at *
  clear h ho hi hn hO1 hO3 hE hgo
  go_enter Tryz.func31, Tryz.ntmps31
  go_wp2_with fail
  go_at_call 56
  refine HE0.out.mono ?_
  rintro e w0 ⟨rfl, hg0, hX0⟩
  have HE1b : Hid (Calls Tryz.prog 56 #[.pointer (some ⟨R, 0, none⟩), .string ⟨#[105, 102]⟩] w0 fun e w' => e = .returned (.bool true) ∧ w0.grownBy w' (some R) ∧ PX W0 w' R s o1) := HE1.out w0 hX0
  clear HE0 HE1 hX0
  go_wp2_with fail
  go_at_call 56
  refine HE1b.out.mono ?_
  rintro e w1 ⟨rfl, hg1, hX1⟩
  have hg01 := gT hg0 hg1
  have HEa : Hid (Calls Tryz.prog 31 #[.pointer (some ⟨R, 0, none⟩)] w1 (GotE W0 w1 R s (o1.bind ex))) := HEx.out w1 o1 hX1 HO1.out
  clear HE1b hX1 HO1 hg0 hg1
  generalize o1.bind ex = r1 at *
  go_wp2_with fail
  go_at_call 31
  refine HEa.out.mono ?_
  rintro e w2 ⟨p1, rfl, hg2, hX2, hv2⟩
  have HV2 : Hid (∀ x t', r1 = some (x, t') → ExB w1.heap.size w2 (.pointer p1) x) := hv2
  have hg12 := gT hg01 hg2
  have HD : Hid (Calls Tryz.prog 58 #[.pointer (some ⟨R, 0, none⟩), .string ⟨#[116, 104, 101, 110]⟩] w2 fun e w' => e = .returned (.tuple #[]) ∧ w2.grownBy w' (some R) ∧ PX W0 w' R s (needS s thenL (stE r1))) := by
    have := pneed_any L hX2 ⟨#[116, 104, 101, 110]⟩
    rwa [Lib.toList_data] at this
  clear HEa hX2 hv2
  generalize needS s thenL (stE r1) = o3 at *
  go_wp2_with fail
  go_at_call 58
  refine HD.out.mono ?_
  rintro e w3 ⟨rfl, hg3, hX3⟩
  have hg13 := gT hg12 hg3
  have HE3 : Hid (Calls Tryz.prog 31 #[.pointer (some ⟨R, 0, none⟩)] w3 (GotE W0 w3 R s (o3.bind ex))) := HEx.out w3 o3 hX3 HO3.out
  clear HD hX3 HO3
  generalize o3.bind ex = r3 at *
  go_wp2_with fail
  go_at_call 31
  refine HE3.out.mono ?_
  rintro e w4 ⟨p3, rfl, hg4, hX4, hv4⟩
  have HV4 : Hid (∀ x t', r3 = some (x, t') → ExB w3.heap.size w4 (.pointer p3) x) := hv4
  have hg14 := gT hg13 hg4
  have HD2 : Hid (Calls Tryz.prog 58 #[.pointer (some ⟨R, 0, none⟩), .string ⟨#[101, 108, 115, 101]⟩] w4 fun e w' => e = .returned (.tuple #[]) ∧ w4.grownBy w' (some R) ∧ PX W0 w' R s (needS s elseL (stE r3))) := by
    have := pneed_any L hX4 ⟨#[101, 108, 115, 101]⟩
    rwa [Lib.toList_data] at this
  clear HE3 hX4 hv4
  generalize needS s elseL (stE r3) = o5 at *
  go_wp2_with fail
  go_at_call 58
  refine HD2.out.mono ?_
  rintro e w5 ⟨rfl, hg5, hX5⟩
  have hg15 := gT hg14 hg5
  have HE5 : Hid (Calls Tryz.prog 31 #[.pointer (some ⟨R, 0, none⟩)] w5 (GotE W0 w5 R s (o5.bind ex))) := HEx.out w5 o5 hX5 HO5.out
  clear HD2 hX5 HO5 HEx
  generalize o5.bind ex = r5 at *
  go_wp2_with fail
  go_at_call 31
  refine HE5.out.mono ?_
  rintro e w6 ⟨p5, rfl, hg6, hX6, hv6⟩
  have HV6 : Hid (∀ x t', r5 = some (x, t') → ExB w5.heap.size w6 (.pointer p5) x) := hv6
  clear HE5 hv6
  go_wp2
  go_ret
  have hg16 := gT hg15 hg6
  have hbl : Below w6.heap.size w6 ((w6.alloc (.cells #[.pointer p1, .pointer p3, .pointer p5] 24)).alloc (.cells #[.int .i64 6, .int .i64 0, .string ⟨#[]⟩, .slice (some ⟨w6.heap.size, 0, none⟩) 3 3] 64)) := (alloc_below w6 _).trans ((alloc_below _ _).mono (by rw [alloc_size]; omega))
  refine ⟨some ⟨w6.heap.size + 1, 0, none⟩, by simp, gT hg16 (grownA_below hbl _), by rw [HV.out]; exact hX6.below hbl, fun x t' hx => ?_⟩
  obtain ⟨a, t1, b, t2, c, y1, y2, y3, rfl⟩ := HW.out x t' hx
  have k1 : ExB w.heap.size w6 (.pointer p1) a := ((HV2.out a t1 y1).mono hg01.size).grown hRw (gT hg3 (gT hg4 (gT hg5 hg6)))
  have k3 : ExB w.heap.size w6 (.pointer p3) b := ((HV4.out b t2 y2).mono hg13.size).grown hRw (gT hg5 hg6)
  have k5 : ExB w.heap.size w6 (.pointer p5) c := (HV6.out c t' y3).mono hg15.size
  obtain ⟨W, hW, _, hEE⟩ := ex_built hg16.size 6 0 emptyT [.pointer p1, .pointer p3, .pointer p5] [a, b, c] rfl (by simp) (fun j hj => by
    rcases (show j = 0 ∨ j = 1 ∨ j = 2 by simp at hj; omega) with rfl | rfl | rfl
    · exact ⟨_, rfl, k1⟩
    · exact ⟨_, rfl, k3⟩
    · exact ⟨_, rfl, k5⟩)
  rw [← hW] at hEE
  exact hEE

set_option maxHeartbeats 4000000 in
theorem pexpr_top {W0 w : World} (L : LibA W0) {R m : Nat} {s : ByteArray} {top : Tok → RE} (hT : LvC W0 R s m 0 top) {o : Option Tok} (h : PX W0 w R s o) (ho : OkO s m o) (hn : isS letL o = false) (hi : isS ifL o = false) :
    Calls Tryz.prog 31 #[.pointer (some ⟨R, 0, none⟩)] w (GotE W0 w R s (o.bind top)) := by
  have HE0 : Hid (Calls Tryz.prog 56 #[.pointer (some ⟨R, 0, none⟩), .string ⟨#[108, 101, 116]⟩] w fun e w' => e = .returned (.bool false) ∧ w.grownBy w' (some R) ∧ PX W0 w' R s o) := by
    have := peat_any L h ⟨#[108, 101, 116]⟩
    rw [Lib.toList_data] at this
    refine this.mono ?_
    rintro e w' ⟨rfl, hg, hX⟩
    have e1 : eatS s letL o = o := by unfold eatS; rw [hn]; rfl
    refine ⟨by show _ = Ending.returned (.bool false); rw [← hn]; rfl, hg, by rw [← e1]; exact hX⟩
  have HE1 : Hid (∀ w1, PX W0 w1 R s o → Calls Tryz.prog 56 #[.pointer (some ⟨R, 0, none⟩), .string ⟨#[105, 102]⟩] w1 fun e w' => e = .returned (.bool false) ∧ w1.grownBy w' (some R) ∧ PX W0 w' R s o) := fun w1 h1 => by
    have := peat_any L h1 ⟨#[105, 102]⟩
    rw [Lib.toList_data] at this
    refine this.mono ?_
    rintro e w' ⟨rfl, hg, hX⟩
    have e1 : eatS s ifL o = o := by unfold eatS; rw [hi]; rfl
    refine ⟨by show _ = Ending.returned (.bool false); rw [← hi]; rfl, hg, by rw [← e1]; exact hX⟩
  have HL : Hid (∀ w1, w.grownBy w1 (some R) → PX W0 w1 R s o → Calls Tryz.prog 59 #[.pointer (some ⟨R, 0, none⟩), .int .i64 0] w1 fun e w2 => ∃ p, e = .returned (.pointer p) ∧ GotE W0 w R s (o.bind top) (.returned (.pointer p)) w2) := fun w1 hg1 h1 => by
    refine (hT w1 o h1 ho).mono ?_
    rintro e w2 ⟨p, rfl, hg2, hX2, hv2⟩
    exact ⟨p, rfl, p, rfl, gT hg1 hg2, hX2, fun x u hx => (hv2 x u hx).mono hg1.size⟩
  generalize o.bind top = res at *
  clear h ho hi hn hT
  go_enter Tryz.func31, Tryz.ntmps31
  go_wp2_with fail
  go_at_call 56
  refine HE0.out.mono ?_
  rintro e w0 ⟨rfl, hg0, hX0⟩
  have HE1b : Hid (Calls Tryz.prog 56 #[.pointer (some ⟨R, 0, none⟩), .string ⟨#[105, 102]⟩] w0 fun e w' => e = .returned (.bool false) ∧ w0.grownBy w' (some R) ∧ PX W0 w' R s o) := HE1.out w0 hX0
  clear HE0 HE1 hX0
  go_wp2_with fail
  go_at_call 56
  refine HE1b.out.mono ?_
  rintro e w1 ⟨rfl, hg1, hX1⟩
  have HL2 : Hid (Calls Tryz.prog 59 #[.pointer (some ⟨R, 0, none⟩), .int .i64 0] w1 fun e w2 => ∃ p, e = .returned (.pointer p) ∧ GotE W0 w R s res (.returned (.pointer p)) w2) := HL.out w1 (gT hg0 hg1) hX1
  clear HE1b hX1 HL hg0 hg1
  go_wp2_with fail
  go_at_call 59
  refine HL2.out.mono ?_
  rintro e w2 ⟨p, rfl, hG⟩
  go_wp2
  go_ret
  exact hG

theorem expr_all {W0 : World} (L : LibA W0) {R : Nat} {s : ByteArray} : ∀ (f m : Nat), s.size + 1 ≤ f + m → ExC W0 R s m (exprS s f)
  | 0, m, hf => fun w o h ho => by
    cases o with
    | none =>
      have hA : ∀ m', m ≤ m' → AtC W0 R s m' (atomS s (exprS s 0)) := fun m' hm' => atom_all L (fun hh => by omega) (expr_goes s 0)
      exact pexpr_top L (top_all L (expr_goes s 0) (sgd_all L hA (s.size + 1) m (Nat.le_refl _) (by omega))) h ho rfl rfl
    | some t => have := (ho t rfl).2; have := (ho t rfl).1.2.1; omega
  | f + 1, m, hf => fun w o h ho => by
    have hE : ExC W0 R s (m + 1) (exprS s f) := expr_all L f (m + 1) (by omega)
    have hA : ∀ m', m ≤ m' → AtC W0 R s m' (atomS s (exprS s f)) := fun m' hm' => atom_all L (fun _ w o h ho => hE w o h (ho.mono (by omega))) (expr_goes s f)
    have hT := top_all L (expr_goes s f) (sgd_all L hA (s.size + 1) m (Nat.le_refl _) (by omega))
    cases o with
    | none => exact pexpr_top L hT h ho rfl rfl
    | some t =>
      simp only [Option.bind_some]
      rw [exprS]
      cases h1 : isS letL (some t)
      · rw [if_neg (by simp)]
        cases h2 : isS ifL (some t)
        · rw [if_neg (by simp)]
          exact pexpr_top L hT h ho h1 h2
        · rw [if_pos rfl]
          exact pexpr_if L (expr_goes s f) hE h ho h1 h2
      · rw [if_pos rfl]
        exact pexpr_let L (expr_goes s f) hE h ho h1

end Go.Proofs.YthbglakncijahaaGreatDoor
