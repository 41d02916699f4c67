/- Texts of the proof, put together: AWrG. -/
import Derived.Test.YthbglakncijahaaGreatDoorAw26
namespace Go.Proofs.YthbglakncijahaaGreatDoor
open Go.RowKit
set_option linter.unusedVariables false
set_option maxRecDepth 100000

/-- an operator between two texts -/
theorem op_parts {a b : Ex} {la lb : List UInt8} {x : ByteArray} {lva lvb : Nat} (ha : RdT a la lva) (hb : RdT b lb lvb) (hx : 0 ≤ lvlL x.toList) {s : ByteArray} {i : Nat} {u : Tok} {f : Nat} (hA : At s i (la ++ ([32] ++ (x.data.toList ++ ([32] ++ lb))))) (hi : i ≤ s.size) (hn : NoW s (i + (la ++ ([32] ++ (x.data.toList ++ ([32] ++ lb)))).length)) (hu : cutE s (i + (la ++ ([32] ++ (x.data.toList ++ ([32] ++ lb)))).length) = some u) (hf : s.size ≤ f + i) :
    ∃ t0 t2 j, cutE s i = some t0 ∧ t0.fr = i ∧ RdS s f t0 a ⟨6, x, j, j + x.data.toList.length, 0⟩ lva ∧ nextS s (some ⟨6, x, j, j + x.data.toList.length, 0⟩) = some t2 ∧ RdS s f t2 b u lvb ∧ TokOk s u ∧ 1 ≤ u.fr := by
  obtain ⟨h1, h2⟩ := At.append.1 hA
  obtain ⟨h3, h4⟩ := At.append.1 h2
  obtain ⟨h5, h6⟩ := At.append.1 h4
  obtain ⟨h7, h8⟩ := At.append.1 h6
  simp only [List.length_singleton] at h4 h5 h6 h7 h8
  have hlen : (la ++ ([32] ++ (x.data.toList ++ ([32] ++ lb)))).length = la.length + 1 + x.data.toList.length + 1 + lb.length := by simp; omega
  rw [hlen] at hn hu
  have hle1 := h1.le hi
  have hle3 := h3.le hle1
  have hle5 := h5.le hle3
  have hle7 := h7.le hle5
  simp only [List.length_singleton] at hle3 hle7
  have hop := cut_op (s := s) (j := i + la.length + 1) hx (At.append.2 ⟨h5, h7⟩)
  have hc1 : cutE s (i + la.length) = some ⟨6, x, i + la.length + 1, i + la.length + 1 + x.data.toList.length, 0⟩ := by rw [cut_blank h3]; exact hop
  obtain ⟨t0, a1, a2, a3⟩ := ha s i _ f h1 hi (noW_byte h3 (by decide)) hc1 hf
  have e9 : i + la.length + 1 + x.data.toList.length + 1 + lb.length = i + (la.length + 1 + x.data.toList.length + 1 + lb.length) := by omega
  obtain ⟨t2, b1, b2, b3⟩ := hb s (i + la.length + 1 + x.data.toList.length + 1) u f h8 (by omega) (by rw [e9]; exact hn) (by rw [e9]; exact hu) (by omega)
  have hle8 := h8.le (by omega)
  refine ⟨t0, t2, _, a1, a2, a3, ?_, b3, cut_ok (by omega) hu, ?_⟩
  · show cutE s (i + la.length + 1 + x.data.toList.length) = _
    rw [cut_blank h7]
    exact b1
  · have := (cut_goes (by omega) hu).1
    omega
theorem rd_mul {a b : Ex} {la lb : List UInt8} {x : ByteArray} (hx : lvlL x.toList = 2) (ha : RdT a la 3) (hb : RdT b lb 4) : RdT (exN 7 0 x [a, b]) (la ++ ([32] ++ (x.data.toList ++ ([32] ++ lb)))) 3 := by
  intro s i u f hA hi hn hu hf
  obtain ⟨t0, t2, j, h1, h2, h3, h4, h5, h6, h7⟩ := op_parts ha hb (by omega) hA hi hn hu hf
  refine ⟨t0, h1, h2, ?_, h3.2⟩
  rw [h3.1, ops_hit rfl hx, h4, Option.bind_some, show sgF s f t2 = some (b, u) from h5.1 (s.size + 1) (by omega)]
  unfold opK
  simp only
  rw [if_neg (by omega)]
  exact ops_fuel (sgd_goes (expr_goes s f) _) _ _ _ u h6 (by omega) (by omega)
theorem rd_add {a b : Ex} {la lb : List UInt8} {x : ByteArray} (hx : lvlL x.toList = 1) (ha : RdT a la 2) (hb : RdT b lb 3) : RdT (exN 7 0 x [a, b]) (la ++ ([32] ++ (x.data.toList ++ ([32] ++ lb)))) 2 := by
  intro s i u f hA hi hn hu hf
  obtain ⟨t0, t2, j, h1, h2, h3, h4, h5, h6, h7⟩ := op_parts ha hb (by omega) hA hi hn hu hf
  refine ⟨t0, h1, h2, fun hn2 => ?_, h3.2⟩
  rw [h3.1 (fun hh => by have := hh.2; rw [hx] at this; omega), ops_hit rfl hx, h4, Option.bind_some, show l2F s f t2 = some (b, u) from h5.1.trans (ops_stop hn2)]
  unfold opK
  simp only
  rw [if_neg (by omega)]
  exact ops_fuel (lev_goes (sgd_goes (expr_goes s f) _)) _ _ _ u h6 (by omega) (by omega)
theorem rd_cmp {a b : Ex} {la lb : List UInt8} {x : ByteArray} (hx : lvlL x.toList = 0) (ha : RdT a la 2) (hb : RdT b lb 2) : RdT (exN 7 0 x [a, b]) (la ++ ([32] ++ (x.data.toList ++ ([32] ++ lb)))) 1 := by
  intro s i u f hA hi hn hu hf
  obtain ⟨t0, t2, j, h1, h2, h3, h4, h5, h6, h7⟩ := op_parts ha hb (by omega) hA hi hn hu hf
  refine ⟨t0, h1, h2, fun hn2 hn1 hn0 => ?_, h3.2⟩
  have e1 : l1F s f t0 = some (a, _) := (h3.1 (fun hh => by have := hh.2; rw [hx] at this; omega)).trans (ops_stop (fun hh => by have := hh.2; rw [hx] at this; omega))
  show levS s 0 (l1F s f) t0 = _
  unfold levS
  rw [e1]
  simp only
  rw [ops_hit rfl hx, h4, Option.bind_some, show l1F s f t2 = some (b, u) from (h5.1 hn2).trans (ops_stop hn1)]
  unfold opK
  simp only [if_true]

/-- a word that is kept, between blanks -/
theorem cut_kept {s : ByteArray} {i : Nat} {l : List UInt8} (hw : WordL l) (h : At s i (l ++ [32])) (hi : i ≤ s.size) : cutE s i = some ⟨4, baL l, i, i + l.length, 0⟩ := by
  obtain ⟨h1, h2⟩ := At.append.1 h
  have := WordL.cut (x := baL l) (s := s) (i := i) (by rw [baL_list]; exact hw) (by rw [baL_list]; exact h1) (by rw [baL_list]; exact noW_byte h2 (by decide)) hi
  rwa [baL_list] at this
theorem isS_kept {i j : Nat} {n : Int} (l : List UInt8) : isS l (some ⟨4, baL l, i, j, n⟩) = true := by
  simp only [isS]
  rw [Lib.toList_data, baL_list]
  simp
theorem need_kept {s : ByteArray} {i j : Nat} {n : Int} (l : List UInt8) : needS s l (some ⟨4, baL l, i, j, n⟩) = cutE s j := by
  unfold needS
  rw [isS_kept, if_pos rfl]
  rfl
theorem word_let : WordL letL := ⟨⟨108, [101, 116], rfl, by decide⟩, by decide⟩
theorem word_in : WordL inL := ⟨⟨105, [110], rfl, by decide⟩, by decide⟩
theorem word_if : WordL ifL := ⟨⟨105, [102], rfl, by decide⟩, by decide⟩
theorem word_then : WordL thenL := ⟨⟨116, [104, 101, 110], rfl, by decide⟩, by decide⟩
theorem word_else : WordL elseL := ⟨⟨101, [108, 115, 101], rfl, by decide⟩, by decide⟩
theorem at_split {s : ByteArray} {i : Nat} {a b : List UInt8} (h : At s i (a ++ b)) (hi : i ≤ s.size) : At s i a ∧ At s (i + a.length) b ∧ i + a.length ≤ s.size := by
  obtain ⟨h1, h2⟩ := At.append.1 h
  exact ⟨h1, h2, h1.le hi⟩

theorem rd_let {a b : Ex} {la lb : List UInt8} {x : ByteArray} (hx : isNameB x = true) (ha : RdT a la 0) (hb : RdT b lb 0) : RdT (exN 5 0 x [a, b]) (letL ++ ([32] ++ (x.data.toList ++ ([32] ++ ([61] ++ ([32] ++ (la ++ ([32] ++ (inL ++ ([32] ++ lb)))))))))) 0 := by
  unfold isNameB at hx
  simp only [Bool.and_eq_true, Bool.not_eq_true', beq_iff_eq] at hx
  obtain ⟨x1, x2, x3, x4⟩ := hx
  have hw := word_list x1
  intro s i u f hA hi hn hu hf
  obtain ⟨p0, A1, i0⟩ := at_split hA hi
  obtain ⟨p1, A2, i1⟩ := at_split A1 i0
  obtain ⟨p2, A3, i2⟩ := at_split A2 i1
  obtain ⟨p3, A4, i3⟩ := at_split A3 i2
  obtain ⟨p4, A5, i4⟩ := at_split A4 i3
  obtain ⟨p5, A6, i5⟩ := at_split A5 i4
  obtain ⟨p6, A7, i6⟩ := at_split A6 i5
  obtain ⟨p7, A8, i7⟩ := at_split A7 i6
  obtain ⟨p8, A9, i8⟩ := at_split A8 i7
  obtain ⟨p9, A10, i9⟩ := at_split A9 i8
  have e1 : ([32] : List UInt8).length = 1 := rfl
  have e2 : ([61] : List UInt8).length = 1 := rfl
  simp only [e1, e2] at *
  have hlen : (letL ++ ([32] ++ (x.data.toList ++ ([32] ++ ([61] ++ ([32] ++ (la ++ ([32] ++ (inL ++ ([32] ++ lb)))))))))).length = letL.length + 1 + x.data.toList.length + 1 + 1 + 1 + la.length + 1 + inL.length + 1 + lb.length := by simp; omega
  rw [hlen] at hn hu
  have c0 := cut_kept word_let (At.append.2 ⟨p0, p1⟩) hi
  have c2 : cutE s (i + letL.length) = some ⟨4, x, i + letL.length + 1, i + letL.length + 1 + x.data.toList.length, 0⟩ := by
    rw [cut_blank p1]
    exact hw.cut p2 (noW_byte p3 (by decide)) i1
  have c4 : cutE s (i + letL.length + 1 + x.data.toList.length) = some ⟨6, ⟨#[61]⟩, i + letL.length + 1 + x.data.toList.length + 1, i + letL.length + 1 + x.data.toList.length + 1 + 1, 0⟩ := by
    rw [cut_blank p3]
    refine cut_sign p4 (by decide) ?_
    obtain ⟨b1, b2⟩ := At.one.1 p5
    rintro ⟨_, ⟨_, h⟩ | ⟨h, _⟩⟩
    · rw [b2] at h; revert h; decide
    · revert h; decide
  have c8 : cutE s (i + letL.length + 1 + x.data.toList.length + 1 + 1 + 1 + la.length) = some ⟨4, baL inL, i + letL.length + 1 + x.data.toList.length + 1 + 1 + 1 + la.length + 1, i + letL.length + 1 + x.data.toList.length + 1 + 1 + 1 + la.length + 1 + inL.length, 0⟩ := by
    rw [cut_blank p7]
    exact cut_kept word_in (At.append.2 ⟨p8, p9⟩) i7
  obtain ⟨f', rfl⟩ : ∃ f', f = f' + 1 := ⟨f - 1, by omega⟩
  obtain ⟨ta, a1, a2, a3⟩ := ha s _ _ f' p6 i5 (noW_byte p7 (by decide)) c8 (by omega)
  have hj : i + (letL.length + 1 + x.data.toList.length + 1 + 1 + 1 + la.length + 1 + inL.length + 1 + lb.length) = i + letL.length + 1 + x.data.toList.length + 1 + 1 + 1 + la.length + 1 + inL.length + 1 + lb.length := by omega
  rw [hj] at hn hu
  obtain ⟨tb, b1, b2, b3⟩ := hb s _ u f' A10 i9 hn hu (by omega)
  refine ⟨_, c0, rfl, fun hn2 hn1 hn0 => ?_, by simp only [isS]; rw [Lib.toList_data, baL_list]; rfl⟩
  rw [exprS, isS_kept, if_pos rfl]
  have n1 : nextS s (some ⟨4, baL letL, i, i + letL.length, 0⟩) = some ⟨4, x, i + letL.length + 1, i + letL.length + 1 + x.data.toList.length, 0⟩ := c2
  rw [n1]
  unfold letS
  have hnm : namedS (some ⟨4, x, i + letL.length + 1, i + letL.length + 1 + x.data.toList.length, 0⟩) = true := by
    simp only [namedS]
    rw [x3, x4]
    rfl
  have n2 : nameS s (some ⟨4, x, i + letL.length + 1, i + letL.length + 1 + x.data.toList.length, 0⟩) = some ⟨6, ⟨#[61]⟩, i + letL.length + 1 + x.data.toList.length + 1, i + letL.length + 1 + x.data.toList.length + 1 + 1, 0⟩ := by
    unfold nameS
    rw [if_pos hnm]
    exact c4
  rw [n2]
  have n3 : needS s [61] (some ⟨6, ⟨#[61]⟩, i + letL.length + 1 + x.data.toList.length + 1, i + letL.length + 1 + x.data.toList.length + 1 + 1, 0⟩) = some ta := by
    unfold needS
    rw [isS_sign, if_pos (by rfl)]
    show cutE s (i + letL.length + 1 + x.data.toList.length + 1 + 1) = _
    rw [cut_blank p5]
    exact a1
  rw [n3, Option.bind_some, a3.1 op_word op_word op_word]
  simp only
  rw [need_kept]
  have n4 : cutE s (i + letL.length + 1 + x.data.toList.length + 1 + 1 + 1 + la.length + 1 + inL.length) = some tb := by
    rw [cut_blank p9]
    exact b1
  rw [n4, Option.bind_some, b3.1 hn2 hn1 hn0]
  rfl
theorem rd_if {a b c : Ex} {la lb lc : List UInt8} (ha : RdT a la 0) (hb : RdT b lb 0) (hc : RdT c lc 0) : RdT (exN 6 0 emptyT [a, b, c]) (ifL ++ ([32] ++ (la ++ ([32] ++ (thenL ++ ([32] ++ (lb ++ ([32] ++ (elseL ++ ([32] ++ lc)))))))))) 0 := by
  intro s i u f hA hi hn hu hf
  obtain ⟨p0, A1, i0⟩ := at_split hA hi
  obtain ⟨p1, A2, i1⟩ := at_split A1 i0
  obtain ⟨p2, A3, i2⟩ := at_split A2 i1
  obtain ⟨p3, A4, i3⟩ := at_split A3 i2
  obtain ⟨p4, A5, i4⟩ := at_split A4 i3
  obtain ⟨p5, A6, i5⟩ := at_split A5 i4
  obtain ⟨p6, A7, i6⟩ := at_split A6 i5
  obtain ⟨p7, A8, i7⟩ := at_split A7 i6
  obtain ⟨p8, A9, i8⟩ := at_split A8 i7
  obtain ⟨p9, A10, i9⟩ := at_split A9 i8
  have e1 : ([32] : List UInt8).length = 1 := rfl
  simp only [e1] at *
  have hlen : (ifL ++ ([32] ++ (la ++ ([32] ++ (thenL ++ ([32] ++ (lb ++ ([32] ++ (elseL ++ ([32] ++ lc)))))))))).length = ifL.length + 1 + la.length + 1 + thenL.length + 1 + lb.length + 1 + elseL.length + 1 + lc.length := by simp; omega
  rw [hlen] at hn hu
  have c0 := cut_kept word_if (At.append.2 ⟨p0, p1⟩) hi
  have c4 : cutE s (i + ifL.length + 1 + la.length) = some ⟨4, baL thenL, i + ifL.length + 1 + la.length + 1, i + ifL.length + 1 + la.length + 1 + thenL.length, 0⟩ := by
    rw [cut_blank p3]
    exact cut_kept word_then (At.append.2 ⟨p4, p5⟩) i3
  have c8 : cutE s (i + ifL.length + 1 + la.length + 1 + thenL.length + 1 + lb.length) = some ⟨4, baL elseL, i + ifL.length + 1 + la.length + 1 + thenL.length + 1 + lb.length + 1, i + ifL.length + 1 + la.length + 1 + thenL.length + 1 + lb.length + 1 + elseL.length, 0⟩ := by
    rw [cut_blank p7]
    exact cut_kept word_else (At.append.2 ⟨p8, p9⟩) i7
  obtain ⟨f', rfl⟩ : ∃ f', f = f' + 1 := ⟨f - 1, by omega⟩
  obtain ⟨ta, a1, a2, a3⟩ := ha s _ _ f' p2 i1 (noW_byte p3 (by decide)) c4 (by omega)
  obtain ⟨tb, b1, b2, b3⟩ := hb s _ _ f' p6 i5 (noW_byte p7 (by decide)) c8 (by omega)
  have hj : i + (ifL.length + 1 + la.length + 1 + thenL.length + 1 + lb.length + 1 + elseL.length + 1 + lc.length) = i + ifL.length + 1 + la.length + 1 + thenL.length + 1 + lb.length + 1 + elseL.length + 1 + lc.length := by omega
  rw [hj] at hn hu
  obtain ⟨tc, d1, d2, d3⟩ := hc s _ u f' A10 i9 hn hu (by omega)
  refine ⟨_, c0, rfl, fun hn2 hn1 hn0 => ?_, by simp only [isS]; rw [Lib.toList_data, baL_list]; rfl⟩
  have hnl : isS letL (some ⟨4, baL ifL, i, i + ifL.length, 0⟩) = false := by
    simp only [isS]
    rw [Lib.toList_data, baL_list]
    rfl
  rw [exprS, hnl, if_neg (by simp), isS_kept, if_pos rfl]
  have n1 : nextS s (some ⟨4, baL ifL, i, i + ifL.length, 0⟩) = some ta := by
    show cutE s (i + ifL.length) = _
    rw [cut_blank p1]
    exact a1
  rw [n1]
  unfold ifS
  rw [Option.bind_some, a3.1 op_word op_word op_word]
  simp only
  rw [need_kept]
  have n4 : cutE s (i + ifL.length + 1 + la.length + 1 + thenL.length) = some tb := by
    rw [cut_blank p5]
    exact b1
  rw [n4, Option.bind_some, b3.1 op_word op_word op_word]
  simp only
  rw [need_kept]
  have n5 : cutE s (i + ifL.length + 1 + la.length + 1 + thenL.length + 1 + lb.length + 1 + elseL.length) = some tc := by
    rw [cut_blank p9]
    exact d1
  rw [n5, Option.bind_some, d3.1 hn2 hn1 hn0]

end Go.Proofs.YthbglakncijahaaGreatDoor
