/- Texts of the proof, put together: ARea, AWrI. -/
import Derived.Test.YthbglakncijahaaGreatDoorAw35
import Derived.Test.YthbglakncijahaaGreatDoorAw17
import Derived.Test.YthbglakncijahaaGreatDoorAw28
namespace Go.Proofs.YthbglakncijahaaGreatDoor
open Go.RowKit
set_option linter.unusedVariables false
set_option maxRecDepth 100000

/-- the expression of a text, valid or not -/
def readE (s : ByteArray) : Option Ex := match (nextS s (some zeroT)).bind (exprS s (s.size + 1)) with
  | none => none
  | some (x, t) => if t.kind = 0 then some x else none
theorem zero_ok (s : ByteArray) : TokOk s zeroT := ⟨by decide, Nat.zero_le _, Nat.zero_le _, fun h => absurd rfl h⟩
theorem parser_new {W0 w : World} {s : ByteArray} (hE : EnvA W0 w) (hs : s.size ≤ 70000) : PX W0 (w.alloc (.cells #[.string s, .bool false, .int .i64 0, .string ⟨#[]⟩, .int .i64 0, .int .i64 0, .int .i64 0, .nilIface, .int .i64 0] 73)) w.heap.size s (some zeroT) :=
  ⟨hE.below (alloc_below w _), hE.1, hs, by rw [alloc_size]; omega, fun t ht => by cases ht; exact ⟨zero_ok s, 0, allocAtA w _⟩, fun h => by cases h⟩
theorem grown_new {w w' : World} {o : Obj} (hg : (w.alloc o).grownBy w' (some w.heap.size)) : Below w.heap.size w w' :=
  ⟨hg.os, hg.tape, hg.output, Nat.le_trans (by rw [alloc_size]; omega) hg.size, fun b hb => (hg.block b (by rw [alloc_size]; omega) (fun e => by cases e; omega)).trans ((alloc_below w o).block b hb)⟩
/-- what ReadExpr gives -/
def RdX (w : World) (s : ByteArray) (e : Ending) (w' : World) : Prop := Below w.heap.size w w' ∧ ((∃ te pe, ∃ z : Int, e = .returned (.tuple #[.pointer none, .iface te pe, .int .i64 z]) ∧ ∀ x, readE s = some x → okX x = false) ∨ ∃ x p, readE s = some x ∧ okX x = true ∧ e = .returned (.tuple #[.pointer p, .nilIface, .int .i64 0]) ∧ ExB w.heap.size w' (.pointer p) x)
theorem EnvA.bnd {W0 w : World} (L : LibA W0) (h : EnvA W0 w) : ∃ te pe, w.cell? ⟨1, 0, none⟩ = some (.iface te pe) := by
  obtain ⟨te, pe, e⟩ := L.bnd
  exact ⟨te, pe, (World.cell?_of_block (a := ⟨1, 0, none⟩) (h.2 1 (by omega))).trans e⟩

set_option maxHeartbeats 8000000 in
theorem readexpr_any {W0 w : World} (L : LibA W0) (hE : EnvA W0 w) {s : ByteArray} (hs : s.size ≤ 65536) (hT : ∀ x, readE s = some x → TxA x) :
    Calls Tryz.prog 13 #[.string s] w (RdX w s) := by
  have hl : ¬ (65536 : Int) < (s.size : Int) := by omega
  have hl2 : decide ((s.size : Int) > 65536) = false := decide_eq_false (by omega)
  have hX0 := parser_new (s := s) hE (by omega)
  have HN : Hid (Calls Tryz.prog 30 #[.pointer (some ⟨w.heap.size, 0, none⟩)] (w.alloc (.cells #[.string s, .bool false, .int .i64 0, .string ⟨#[]⟩, .int .i64 0, .int .i64 0, .int .i64 0, .nilIface, .int .i64 0] 73)) fun e w' => e = .returned (.tuple #[]) ∧ (w.alloc (.cells #[.string s, .bool false, .int .i64 0, .string ⟨#[]⟩, .int .i64 0, .int .i64 0, .int .i64 0, .nilIface, .int .i64 0] 73)).grownBy w' (some w.heap.size) ∧ PX W0 w' w.heap.size s (nextS s (some zeroT))) := pnext_any L hX0
  have HO : Hid (OkO s 0 (nextS s (some zeroT))) := fun u hu => by
    have := cut_goes (Nat.zero_le _) hu
    exact ⟨⟨this.2.2.2.2.2.1, this.2.1, this.2.2.1, this.2.2.2.1⟩, Nat.zero_le _⟩
  have HX : Hid (∀ w1 o, PX W0 w1 w.heap.size s o → OkO s 0 o → Calls Tryz.prog 31 #[.pointer (some ⟨w.heap.size, 0, none⟩)] w1 (GotE W0 w1 w.heap.size s (o.bind (exprS s (s.size + 1))))) := fun w1 o h1 h2 => expr_all L (s.size + 1) 0 (by omega) w1 o h1 h2
  have HR : Hid (readE s = match (nextS s (some zeroT)).bind (exprS s (s.size + 1)) with | none => none | some (x, t) => if t.kind = 0 then some x else none) := rfl
  have HT : Hid (∀ x, readE s = some x → TxA x) := hT
  have HG : Hid (∀ w', (w.alloc (.cells #[.string s, .bool false, .int .i64 0, .string ⟨#[]⟩, .int .i64 0, .int .i64 0, .int .i64 0, .nilIface, .int .i64 0] 73)).grownBy w' (some w.heap.size) → Below w.heap.size w w') := fun w' h => grown_new h
  have HSz : Hid (w.heap.size ≤ (w.alloc (.cells #[.string s, .bool false, .int .i64 0, .string ⟨#[]⟩, .int .i64 0, .int .i64 0, .int .i64 0, .nilIface, .int .i64 0] 73)).heap.size) := by show _ ≤ _; rw [alloc_size]; omega
  generalize hrdE : readE s = rd at *
  have HQ : Hid (readE s = rd) := hrdE
  clear hrdE
  generalize nextS s (some zeroT) = o1 at *
  clear hX0 hE hT
  go_enter Tryz.func13, Tryz.ntmps13
  go_wp2_with fail
  generalize w.alloc (.cells #[.string s, .bool false, .int .i64 0, .string ⟨#[]⟩, .int .i64 0, .int .i64 0, .int .i64 0, .nilIface, .int .i64 0] 73) = w0 at *
  go_at_call 30
  refine HN.out.mono ?_
  rintro e w1 ⟨rfl, hg1, hX1⟩
  have HE1 : Hid (Calls Tryz.prog 31 #[.pointer (some ⟨w.heap.size, 0, none⟩)] w1 (GotE W0 w1 w.heap.size s (o1.bind (exprS s (s.size + 1))))) := HX.out w1 o1 hX1 HO.out
  clear HN HX HO hX1
  generalize o1.bind (exprS s (s.size + 1)) = r at *
  go_wp2_with fail
  go_at_call 31
  refine HE1.out.mono ?_
  rintro e w2 ⟨p, rfl, hg2, hX2, hv2⟩
  have hg12 := gT hg1 hg2
  have HV2 : Hid (∀ x t, r = some (x, t) → ExB w1.heap.size w2 (.pointer p) x) := hv2
  have hs1 : w.heap.size ≤ w1.heap.size := Nat.le_trans HSz.out hg1.size
  clear HE1 hv2
  obtain ⟨t, b, z, hp, hf, hst⟩ := hX2.cells
  obtain ⟨c0, c1, c2, c3, c4, c5, c6, c7, c8⟩ := hp.cells
  by_cases hk : t.kind = 0
  · have hk2 : (t.kind != 0) = false := by rw [hk]; rfl
    rcases hst with ⟨hr, rfl, hok⟩ | ⟨hr, te, pe, rfl⟩
    · -- good
      cases r with
      | none => cases hr
      | some y =>
        obtain ⟨x, t'⟩ := y
        obtain rfl : t' = t := Option.some.inj hr
        have hrd : rd = some x := by rw [HR.out]; simp only; rw [if_pos hk]
        have hEx := HV2.out x t' rfl
        have HEx : Hid (ExB w.heap.size w2 (.pointer p) x) := hEx.mono hs1
        have HOk : Hid (Calls Tryz.prog 8 #[.pointer p] w2 fun e w' => e = .returned (.bool (okX x)) ∧ w' = w2) := rexprok_any hEx (HT.out x hrd)
        have HRD : Hid (rd = some x) := hrd
        have HB : Hid (Below w.heap.size w w2) := HG.out w2 hg12
        obtain ⟨te, pe, cb⟩ := hX2.env.bnd L
        clear hEx hrd HR HT hp hX2 hg12 hg2 hg1 HV2
        cases hox : okX x
        · rw [hox] at HOk
          go_wp2_with (go_at_call 8; refine HOk.out.mono ?_; rintro e w' ⟨rfl, hw⟩; obtain rfl := hw.symm; clear hw)
          go_quiet (fail)
          go_wp2
          go_ret3
          exact ⟨below_drewG HB.out nq, .inl ⟨te, pe, 0, rfl, fun y hy => by rw [HQ.out, HRD.out] at hy; cases hy; exact hox⟩⟩
        · rw [hox] at HOk
          go_wp2_with (go_at_call 8; refine HOk.out.mono ?_; rintro e w' ⟨rfl, hw⟩; obtain rfl := hw.symm; clear hw)
          go_ret3
          exact ⟨HB.out, .inr ⟨x, p, by rw [HQ.out]; exact HRD.out, hox, rfl, HEx.out⟩⟩
    · -- bad
      have hrd : rd = none := by
        rw [HR.out]
        cases r with
        | none => rfl
        | some y => cases hr
      have HRD : Hid (rd = none) := hrd
      have HB : Hid (Below w.heap.size w w2) := HG.out w2 hg12
      clear hrd HR HT hp hX2 hg12 hg2 hg1 HV2
      go_wp2
      go_quiet (fail)
      go_wp2
      go_ret3
      exact ⟨below_drewG HB.out nq, .inl ⟨te, pe, z, rfl, fun y hy => by rw [HQ.out, HRD.out] at hy; cases hy⟩⟩
  · have hk2 : (t.kind != 0) = true := by rw [bne_iff_ne]; exact hk
    have hrd : ∀ x, rd ≠ some x := fun x hx => by
      rw [HR.out] at hx
      rcases hst with ⟨hr, _⟩ | ⟨hr, _⟩
      · cases r with
        | none => cases hr
        | some y =>
          obtain ⟨x', t'⟩ := y
          obtain rfl : t' = t := Option.some.inj hr
          simp only at hx
          rw [if_neg hk] at hx
          cases hx
      · cases r with
        | none => cases hx
        | some y => cases hr
    have HRD : Hid (∀ x, rd ≠ some x) := hrd
    have HW : Hid (Calls Tryz.prog 32 #[.pointer (some ⟨w.heap.size, 0, none⟩)] w2 fun e w3 => e = .returned (.tuple #[]) ∧ Below w.heap.size w w3 ∧ ∃ te pe, ∃ z : Int, w3.cell? ⟨w.heap.size, 7, none⟩ = some (.iface te pe) ∧ w3.cell? ⟨w.heap.size, 8, none⟩ = some (.int .i64 z)) := by
      refine (pwrong_any L hX2).mono ?_
      rintro e w3 ⟨rfl, hg3, hX3⟩
      obtain ⟨t3, te, pe, z3, _, hp3⟩ := hX3.bad rfl
      obtain ⟨_, _, _, _, _, _, _, e7, e8⟩ := hp3.cells
      exact ⟨rfl, HG.out w3 (gT hg12 hg3), te, pe, z3, e7, e8⟩
    clear hrd HR HT hp hX2 hg12 hg2 hg1 HV2 hst c0 c1 c3 c4 c5 c6 c7 c8
    go_wp2_with fail
    go_at_call 32
    refine HW.out.mono ?_
    rintro e w3 ⟨rfl, hb3, te3, pe3, z3, e7, e8⟩
    clear HW
    go_wp2
    go_quiet (fail)
    go_wp2
    go_ret3
    exact ⟨below_drewG hb3 nq, .inl ⟨te3, pe3, z3, rfl, fun y hy => absurd (HQ.out.symm.trans hy) (HRD.out y)⟩⟩

end Go.Proofs.YthbglakncijahaaGreatDoor

namespace Go.Proofs.YthbglakncijahaaGreatDoor
open Go.RowKit
set_option linter.unusedVariables false
set_option maxRecDepth 100000

/-- numbers within 64 bits, so deep -/
def NmB : Nat → Ex → Prop
  | 0, _ => True
  | n + 1, t => -9223372036854775808 ≤ t.num ∧ t.num ≤ 9223372036854775807 ∧ ∀ k ∈ t.kids, NmB n k
def NmA (t : Ex) : Prop := ∀ n, NmB n t
theorem NmA.kid {t k : Ex} (h : NmA t) (hk : k ∈ t.kids) : NmA k := fun n => (h (n + 1)).2.2 k hk
theorem NmA.num {t : Ex} (h : NmA t) : -9223372036854775808 ≤ t.num ∧ t.num ≤ 9223372036854775807 := ⟨(h 1).1, (h 1).2.1⟩

theorem empty_text {x : ByteArray} (h : (x.toList == []) = true) : x = emptyT := by
  rw [Lib.toList_data, beq_iff_eq] at h
  have := baL_self x
  rw [h] at this
  exact this.symm
theorem two_kids {ks : List Ex} (h : ks.length = 2) : ∃ a b, ks = [a, b] := by
  match ks, h with
  | [a, b], _ => exact ⟨a, b, rfl⟩
theorem three_kids {ks : List Ex} (h : ks.length = 3) : ∃ a b c, ks = [a, b, c] := by
  match ks, h with
  | [a, b, c], _ => exact ⟨a, b, c, rfl⟩
theorem one_kid {ks : List Ex} (h : ks.length = 1) : ∃ a, ks = [a] := by
  match ks, h with
  | [a], _ => exact ⟨a, rfl⟩
theorem tig_le (t : Ex) : tigE t ≤ 5 := by
  unfold tigE tightU
  have := lvlL_le t.text.toList
  split
  · omega
  · split
    · omega
    · split <;> omega
theorem itoa_nat {z : Int} (h : 0 ≤ z) : Lib.itoa z = Lib.decDigits z.toNat := by
  unfold Lib.itoa
  rw [if_neg (by omega)]

theorem rd_all : ∀ t : Ex, wellE t = true → NmA t → RdT t (barE t) (tigE t) := by
  intro t
  induction t using Ex.ind with
  | _ t ih =>
    intro hw hN
    obtain ⟨his, hsh⟩ := wellE_is hw
    have hK : RdK t.kids := fun k hk lv hlv => rd_level (ih k hk (wellE_kid hw hk) (hN.kid hk)) (tig_le k) hlv
    have hnum := hN.num
    clear ih
    obtain ⟨i, kind, num, text, kids⟩ := t
    simp only at his hsh hK hnum
    subst his
    unfold barE tigE
    simp only
    unfold shapeB at hsh
    by_cases k1 : kind = 1
    · subst k1
      rw [if_pos rfl] at hsh
      simp only [Bool.and_eq_true, decide_eq_true_eq, beq_iff_eq] at hsh
      obtain ⟨⟨h1, h2⟩, h3⟩ := hsh
      obtain rfl := empty_text (by rw [h2]; rfl)
      obtain rfl : kids = [] := List.eq_nil_of_length_eq_zero (by omega)
      obtain ⟨u, rfl⟩ : ∃ u : Nat, num = (u : Int) := ⟨num.toNat, by omega⟩
      unfold bareU tightU
      rw [if_pos rfl, if_neg (by omega), if_neg (by omega), if_neg (by omega), itoa_nat h1, Int.toNat_natCast]
      exact rd_num (by omega)
    rw [if_neg k1] at hsh
    by_cases k3 : kind = 3
    · subst k3
      rw [if_pos rfl] at hsh
      simp only [Bool.and_eq_true, decide_eq_true_eq, beq_iff_eq] at hsh
      obtain ⟨⟨⟨h1, h1'⟩, h2⟩, h3⟩ := hsh
      obtain rfl := empty_text (by rw [h2]; rfl)
      obtain rfl : kids = [] := List.eq_nil_of_length_eq_zero (by omega)
      obtain ⟨u, rfl⟩ : ∃ u : Nat, num = (u : Int) := ⟨num.toNat, by omega⟩
      unfold bareU tightU
      rw [if_neg (by omega), if_neg (by omega), if_pos rfl, if_neg (by omega), if_neg (by omega), if_neg (by omega), itoa_nat (by omega), Int.toNat_natCast]
      exact rd_arg (by omega)
    rw [if_neg k3] at hsh
    by_cases hz : (num != 0) = true
    · rw [if_pos hz] at hsh; cases hsh
    rw [if_neg hz] at hsh
    obtain rfl : num = 0 := by simpa using hz
    clear hz
    by_cases k2 : kind = 2
    · subst k2
      rw [if_pos rfl] at hsh
      simp only [Bool.and_eq_true, decide_eq_true_eq, beq_iff_eq] at hsh
      obtain ⟨⟨h1, h2⟩, h3⟩ := hsh
      obtain rfl : kids = [] := List.eq_nil_of_length_eq_zero (by omega)
      unfold bareU tightU
      rw [if_neg (by omega), if_pos rfl, if_neg (by omega), if_neg (by omega), if_neg (by omega)]
      exact rd_text h1
    rw [if_neg k2] at hsh
    by_cases k4 : kind = 4
    · subst k4
      rw [if_pos rfl] at hsh
      simp only [Bool.and_eq_true, beq_iff_eq] at hsh
      obtain ⟨h1, h3⟩ := hsh
      obtain rfl : kids = [] := List.eq_nil_of_length_eq_zero (by omega)
      unfold bareU tightU
      simp only [show ((4 : Int) = 1) = False from by simp, show ((4 : Int) = 2) = False from by simp, show ((4 : Int) = 3) = False from by simp, show ((4 : Int) = 5) = False from by simp, show ((4 : Int) = 6) = False from by simp, show ((4 : Int) = 7) = False from by simp, show ((4 : Int) = 8) = False from by simp, show ((4 : Int) = 9) = False from by simp, show ((4 : Int) = 10) = False from by simp, if_false, or_self]
      exact rd_name h1
    rw [if_neg k4] at hsh
    by_cases k5 : kind = 5
    · subst k5
      rw [if_pos rfl] at hsh
      simp only [Bool.and_eq_true, beq_iff_eq] at hsh
      obtain ⟨h1, h3⟩ := hsh
      obtain ⟨a, b, rfl⟩ := two_kids (show kids.length = 2 by omega)
      unfold bareU tightU
      rw [if_neg (by omega), if_neg (by omega), if_neg (by omega), if_pos rfl, if_pos (.inl rfl)]
      exact rd_let h1 (hK a (by simp) 0 (by omega)) (hK b (by simp) 0 (by omega))
    rw [if_neg k5] at hsh
    by_cases k7 : kind = 7
    · subst k7
      rw [if_pos rfl] at hsh
      simp only [Bool.and_eq_true, decide_eq_true_eq, beq_iff_eq] at hsh
      obtain ⟨h1, h3⟩ := hsh
      obtain ⟨a, b, rfl⟩ := two_kids (show kids.length = 2 by omega)
      have hl := lvlL_le text.toList
      have ht : tightU 7 text = (lvlL text.toList + 1).toNat := by unfold tightU; rw [if_neg (by omega), if_pos rfl]
      unfold bareU
      rw [if_neg (by omega), if_neg (by omega), if_neg (by omega), if_neg (by omega), if_neg (by omega), if_pos rfl, ht]
      rcases (show lvlL text.toList = 0 ∨ lvlL text.toList = 1 ∨ lvlL text.toList = 2 by omega) with h | h | h
      · rw [h]
        exact rd_cmp h (hK a (by simp) 2 (by omega)) (hK b (by simp) 2 (by omega))
      · rw [h]
        exact rd_add h (hK a (by simp) 2 (by omega)) (hK b (by simp) 3 (by omega))
      · rw [h]
        exact rd_mul h (hK a (by simp) 3 (by omega)) (hK b (by simp) 4 (by omega))
    rw [if_neg k7] at hsh
    by_cases k10 : kind = 10
    · subst k10
      rw [if_pos rfl] at hsh
      simp only [Bool.and_eq_true, decide_eq_true_eq, beq_iff_eq] at hsh
      obtain ⟨h1, h3⟩ := hsh
      unfold bareU tightU
      rw [if_neg (by omega), if_neg (by omega), if_neg (by omega), if_neg (by omega), if_neg (by omega), if_neg (by omega), if_neg (by omega), if_neg (by omega), if_pos rfl, if_neg (by omega), if_neg (by omega), if_neg (by omega)]
      exact rd_call h1 h3 hK
    rw [if_neg k10] at hsh
    by_cases he : (text.toList == []) = false
    · rw [if_pos he] at hsh; cases hsh
    rw [if_neg he] at hsh
    obtain rfl := empty_text (by simpa using he)
    by_cases k6 : kind = 6
    · subst k6
      rw [if_pos rfl, beq_iff_eq] at hsh
      obtain ⟨a, b, c, rfl⟩ := three_kids (show kids.length = 3 by omega)
      unfold bareU tightU
      rw [if_neg (by omega), if_neg (by omega), if_neg (by omega), if_neg (by omega), if_pos rfl, if_pos (.inr rfl)]
      exact rd_if (hK a (by simp) 0 (by omega)) (hK b (by simp) 0 (by omega)) (hK c (by simp) 0 (by omega))
    rw [if_neg k6] at hsh
    by_cases k8 : kind = 8
    · subst k8
      rw [if_pos rfl, beq_iff_eq] at hsh
      obtain ⟨a, rfl⟩ := one_kid (show kids.length = 1 by omega)
      unfold bareU tightU
      rw [if_neg (by omega), if_neg (by omega), if_neg (by omega), if_neg (by omega), if_neg (by omega), if_neg (by omega), if_pos rfl, if_neg (by omega), if_neg (by omega), if_pos rfl]
      exact rd_neg (hK a (by simp) 4 (by omega))
    rw [if_neg k8, beq_iff_eq] at hsh
    subst hsh
    unfold bareU tightU
    rw [if_neg (by omega), if_neg (by omega), if_neg (by omega), if_neg (by omega), if_neg (by omega), if_neg (by omega), if_neg (by omega), if_pos rfl, if_neg (by omega), if_neg (by omega), if_neg (by omega)]
    exact rd_list hK
/-- the text of a valid expression says it -/
theorem written_read {t : Ex} (hw : wellE t = true) (hN : NmA t) : readE (baL (wrU t 0)) = some t := by
  have h := rd_level (rd_all t hw hN) (tig_le t) (show 0 ≤ 5 by omega)
  have hsz := baL_size (wrU t 0)
  have hend : cutE (baL (wrU t 0)) (0 + (wrU t 0).length) = some ⟨0, emptyT, (baL (wrU t 0)).size, (baL (wrU t 0)).size, 0⟩ := by
    rw [Nat.zero_add, ← hsz]
    exact cut_end
  obtain ⟨t0, a1, a2, a3⟩ := h (baL (wrU t 0)) 0 _ (baL (wrU t 0)).size (at_whole _) (by omega) (fun hh => by omega) hend (by omega)
  have e := a3.1 (by rintro ⟨h, _⟩; simp at h) (by rintro ⟨h, _⟩; simp at h) (by rintro ⟨h, _⟩; simp at h)
  unfold readE
  have n1 : nextS (baL (wrU t 0)) (some zeroT) = some t0 := a1
  rw [n1, Option.bind_some, e]
  simp

end Go.Proofs.YthbglakncijahaaGreatDoor
