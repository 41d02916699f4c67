/- Texts of the proof, put together: ASam, ALng. -/
import Derived.Test.YthbglakncijahaaGreatDoorAw43
import Derived.Test.YthbglakncijahaaGreatDoorAw17
import Derived.Test.YthbglakncijahaaGreatDoorAw42
namespace Go.Proofs.YthbglakncijahaaGreatDoor
open Go.RowKit
set_option linter.unusedVariables false
set_option maxRecDepth 100000

theorem below_drewS {w w' : World} (h : Below w.heap.size w w') (n : Nat) : Below w.heap.size w (w'.drewN n) := ⟨h.os, h.tape, h.output, h.size, h.block⟩
theorem below_drewS1 {w w' : World} (h : Below w.heap.size w w') : Below w.heap.size w w'.drew := ⟨h.os, h.tape, h.output, h.size, h.block⟩
set_option maxHeartbeats 4000000 in
theorem same_nil (w : World) : Calls Tryz.prog 14 #[.pointer none, .pointer none] w fun e w' => e = .returned (.bool true) ∧ Below w.heap.size w w' := by
  go_enter Tryz.func14, Tryz.ntmps14
  go_wp2_with fail
  go_ret
  exact ⟨rfl, Below.refl _ _⟩

set_option maxHeartbeats 8000000 in
theorem same_expr : ∀ (n : Nat) (w : World) (v v' : Value) (t : Ex), TxA t → IsEx (fun _ => True) n w v t → IsEx (fun _ => True) n w v' t → Calls Tryz.prog 14 #[v, v'] w fun e w' => e = .returned (.bool true) ∧ Below w.heap.size w w'
  | 0, w, v, v', t, _, h, _ => h.elim
  | n + 1, w, v, v', t, hk, h, h' => by
    rcases h with ⟨rfl, rfl⟩ | ⟨hi, b, kv, rfl, _, hc, hK⟩
    · rcases h' with ⟨_, rfl⟩ | ⟨hi', _⟩
      · exact same_nil w
      · simp [nilE] at hi'
    · rcases h' with ⟨rfl, _⟩ | ⟨_, b', kv', rfl, _, hc', hK'⟩
      · simp [nilE] at hi
      · have HIH : Hid (∀ (w : World) (v v' : Value) (t : Ex), TxA t → IsEx (fun _ => True) n w v t → IsEx (fun _ => True) n w v' t → Calls Tryz.prog 14 #[v, v'] w fun e w' => e = .returned (.bool true) ∧ Below w.heap.size w w') := same_expr n
        obtain ⟨ka, kc, rfl⟩ := hK.slice
        obtain ⟨ka', kc', rfl⟩ := hK'.slice
        have HKK : Hid (∀ k ∈ t.kids, TxA k) := fun k hm => hk.kid hm
        have hlen : t.kids.length ≤ 1000000000000000 := by have := hk.size.2; omega
        have htx : t.text.size ≤ 140737488351232 := hk.size.1
        have hbl : b < w.heap.size := (Array.getElem?_eq_some_iff.1 hc).1
        have hbl' : b' < w.heap.size := (Array.getElem?_eq_some_iff.1 hc').1
        have c0 : w.cell? ⟨b, 0, none⟩ = some (.int .i64 t.kind) := cellsAtA hc 0 _ rfl
        have c1 : w.cell? ⟨b, 1, none⟩ = some (.int .i64 t.num) := cellsAtA hc 1 _ rfl
        have c2 : w.cell? ⟨b, 2, none⟩ = some (.string t.text) := cellsAtA hc 2 _ rfl
        have c3 : w.cell? ⟨b, 3, none⟩ = some (.slice ka t.kids.length kc) := cellsAtA hc 3 _ rfl
        have d0 : w.cell? ⟨b', 0, none⟩ = some (.int .i64 t.kind) := cellsAtA hc' 0 _ rfl
        have d1 : w.cell? ⟨b', 1, none⟩ = some (.int .i64 t.num) := cellsAtA hc' 1 _ rfl
        have d2 : w.cell? ⟨b', 2, none⟩ = some (.string t.text) := cellsAtA hc' 2 _ rfl
        have d3 : w.cell? ⟨b', 3, none⟩ = some (.slice ka' t.kids.length kc') := cellsAtA hc' 3 _ rfl
        have HC2 : Hid (w.cell? ⟨b, 3, none⟩ = some (.slice ka t.kids.length kc)) := c3
        have HD2 : Hid (w.cell? ⟨b', 3, none⟩ = some (.slice ka' t.kids.length kc')) := d3
        have HK1 : Hid (KidsE (IsEx (fun _ => True) n w) (fun _ => True) w (.slice ka t.kids.length kc) t.kids) := hK
        have HK2 : Hid (KidsE (IsEx (fun _ => True) n w) (fun _ => True) w (.slice ka' t.kids.length kc') t.kids) := hK'
        clear hK hK' hc hc' hk
        generalize t.kind = tp at *
        generalize t.num = tt at *
        generalize t.text = tx at *
        generalize hKs : t.kids = ks at *
        clear hKs hi
        generalize hN : ks.length = N at *
        have HN : Hid (ks.length = N) := hN
        clear hN
        go_enter Tryz.func14, Tryz.ntmps14
        go_wp2_with fail
        go_quiet (fail)
        have HB1 : Hid (Below w.heap.size w (w.drewN nq)) := below_drewS (Below.refl _ _) nq
        generalize w.drewN nq = W1 at *
        clear c0 c1 c2 c3 d0 d1 d2 d3
        go_wp2_with fail
        go_loopw [5] (fun iv wr => ∃ i : Nat, i ≤ N ∧ iv = .int .i64 i ∧ Hid (Below w.heap.size w wr)) (fun iv _ => N - (intOf iv).toNat)
        case atStart => exact ⟨0, Nat.zero_le _, rfl, HB1⟩
        case round =>
          obtain ⟨i, hi, rfl, HBW⟩ := hrel
          have hb := Nat.lt_of_lt_of_le hbl HBW.out.size
          have hb' := Nat.lt_of_lt_of_le hbl' HBW.out.size
          have c2 := (HBW.out.cell (p := ⟨b, 3, none⟩) hbl).trans HC2.out
          have d2 := (HBW.out.cell (p := ⟨b', 3, none⟩) hbl').trans HD2.out
          by_cases hlt : i < N
          · obtain ⟨g1, o1, u1, rfl, hg1, k1, p1⟩ := HK1.out.at (k := i) (by rw [HN.out]; exact hlt)
            obtain ⟨g2, o2, u2, rfl, hg2, k2, p2⟩ := HK2.out.at (k := i) (by rw [HN.out]; exact hlt)
            have e1 := (HBW.out.cell (p := ⟨g1, o1 + i, none⟩) hg1).trans k1
            have e2 := (HBW.out.cell (p := ⟨g2, o2 + i, none⟩) hg2).trans k2
            have HCall : Hid (Calls Tryz.prog 14 #[u1, u2] wr.drew fun e w' => e = .returned (.bool true) ∧ Below w.heap.size w w') := by
              have hd : Below w.heap.size w wr.drew := below_drewS1 HBW.out
              refine (HIH.out wr.drew u1 u2 (ks.getD i nilE) (HKK.out _ (by rw [List.getD_eq_getElem?_getD, List.getElem?_eq_getElem (by rw [HN.out]; exact hlt)]; exact List.getElem_mem _)) (p1.below hd) (p2.below hd)).mono ?_
              rintro e w' ⟨h1, h2⟩
              exact ⟨h1, hd.trans (h2.mono hd.size)⟩
            have HX : Hid (∀ w', Below w.heap.size w w' → w'.cell? ⟨b, 3, none⟩ = some (.slice (some ⟨g1, o1, none⟩) N kc) ∧ w'.cell? ⟨b', 3, none⟩ = some (.slice (some ⟨g2, o2, none⟩) N kc') ∧ w'.cell? ⟨g1, o1 + i, none⟩ = some u1 ∧ w'.cell? ⟨g2, o2 + i, none⟩ = some u2) := fun w' h => ⟨(h.cell (p := ⟨b, 3, none⟩) hbl).trans HC2.out, (h.cell (p := ⟨b', 3, none⟩) hbl').trans HD2.out, (h.cell (p := ⟨g1, o1 + i, none⟩) hg1).trans k1, (h.cell (p := ⟨g2, o2 + i, none⟩) hg2).trans k2⟩
            clear p1 p2 k1 k2
            go_wp2_with fail
            go_region_held3 (fun w' => w'.cell? ⟨b, 3, none⟩ = some (.slice (some ⟨g1, o1, none⟩) N kc) ∧ w'.cell? ⟨b', 3, none⟩ = some (.slice (some ⟨g2, o2, none⟩) N kc') ∧ w'.cell? ⟨g1, o1 + i, none⟩ = some u1 ∧ w'.cell? ⟨g2, o2 + i, none⟩ = some u2) (go_keep) ((go_at_call 14; refine HCall.out.mono ?_; rintro e w4 ⟨rfl, hb4⟩; have f := HX.out w4 hb4; obtain ⟨f0, f1, f2, f3⟩ := f))
            all_goals
              have HB4 : Hid (Below w.heap.size w w4) := hb4
              clear f0 f1 f2 f3 hb4 c2 d2 e1 e2
              go_wp2_with fail
              go_roundw
              case rel => exact ⟨i + 1, by omega, by go_num, HB4⟩
              case measure => simp [intOf]; omega
          · obtain rfl : i = N := by omega
            go_wp2_with fail
            go_ret
            exact ⟨rfl, HBW.out⟩

end Go.Proofs.YthbglakncijahaaGreatDoor

namespace Go.Proofs.YthbglakncijahaaGreatDoor
open Go.RowKit
set_option linter.unusedVariables false
set_option maxRecDepth 100000

/-- how many bytes its texts have -/
def lngE (t : Ex) : Nat := match t with
  | ⟨_, k, _, x, ks⟩ => (if k = 2 then x.size else 0) + (ks.map lngE).sum
def lngL (ks : List Ex) : Nat := (ks.map lngE).sum
theorem lngE_eq (t : Ex) : lngE t = (if t.kind = 2 then t.text.size else 0) + lngL t.kids := by obtain ⟨i, p, k, x, ks⟩ := t; rw [lngE]; rfl
theorem lngL_append (a b : List Ex) : lngL (a ++ b) = lngL a + lngL b := by simp [lngL]
theorem lngL_one (t : Ex) : lngL [t] = lngE t := by simp [lngL]
theorem text_le {t : Ex} (hw : wellE t = true) (h2 : t.kind = 2) : t.text.size ≤ 200 := by
  obtain ⟨_, hsh⟩ := wellE_is hw
  unfold shapeB at hsh
  rw [if_neg (by omega), if_neg (by omega)] at hsh
  by_cases hz : (t.num != 0) = true
  · rw [if_pos hz] at hsh; cases hsh
  rw [if_neg hz, if_pos h2] at hsh
  simp only [Bool.and_eq_true, decide_eq_true_eq] at hsh
  omega
theorem lngL_le : ∀ (ks : List Ex), (∀ k ∈ ks, lngE k ≤ 200 * wtE k) → lngL ks ≤ 200 * wtL ks
  | [], _ => by simp [lngL]
  | a :: l, h => by
    have h1 := h a (by simp)
    have h2 := lngL_le l fun k hk => h k (List.mem_cons_of_mem _ hk)
    have e1 : lngL (a :: l) = lngE a + lngL l := by rw [show a :: l = [a] ++ l from rfl, lngL_append, lngL_one]
    have e2 : wtL (a :: l) = wtE a + wtL l := by rw [show a :: l = [a] ++ l from rfl, wtL_append, wtL_one]
    omega
theorem lngE_le : ∀ t : Ex, wellE t = true → lngE t ≤ 200 * wtE t := by
  intro t
  induction t using Ex.ind with
  | _ t ih =>
    intro hw
    have h1 := lngL_le t.kids fun k hk => ih k hk (wellE_kid hw hk)
    rw [lngE_eq, wtE_eq]
    by_cases h2 : t.kind = 2
    · have := text_le hw h2
      rw [if_pos h2]; omega
    · rw [if_neg h2]; omega
theorem lngL_mono (ks : List Ex) (i : Nat) : lngL (ks.take i) ≤ lngL ks := by
  have e : lngL ks = lngL (ks.take i) + lngL (ks.drop i) := by rw [← lngL_append, List.take_append_drop]
  omega
theorem lngL_step {ks : List Ex} {i : Nat} (h : i < ks.length) : lngL (ks.take (i + 1)) = lngL (ks.take i) + lngE (ks.getD i nilE) := by
  rw [List.take_succ_eq_append_getElem h, lngL_append, lngL_one]
  simp [List.getD, h]

set_option maxHeartbeats 8000000 in
theorem long_any {ok : Nat → Prop} : ∀ (n : Nat) {w : World} {v : Value} {t : Ex}, IsEx ok n w v t → wellE t = true → TxA t → wtE t ≤ 200 →
    Calls Tryz.prog 12 #[v] w fun e w' => e = .returned (.int .i64 (lngE t : Nat)) ∧ Below w.heap.size w w'
  | 0, w, v, t, h, _, _, _ => h.elim
  | n + 1, w, v, t, .inl ⟨h1, h2⟩, hw, _, _ => by rw [h1, wellE_eq] at hw; cases hw
  | n + 1, w, v, t, .inr ⟨hi, b, kv, h1, h2, h3, h5⟩, hw, hT, hwt => by
    subst h1
    obtain ⟨ka, kc, rfl⟩ := h5.slice
    have hbl : b < w.heap.size := (Array.getElem?_eq_some_iff.1 h3).1
    have c0 : w.cell? ⟨b, 0, none⟩ = some (.int .i64 t.kind) := cellsAtA h3 0 _ rfl
    have c2 : w.cell? ⟨b, 2, none⟩ = some (.string t.text) := cellsAtA h3 2 _ rfl
    have c3 : w.cell? ⟨b, 3, none⟩ = some (.slice ka t.kids.length kc) := cellsAtA h3 3 _ rfl
    have HC3 : Hid (w.cell? ⟨b, 3, none⟩ = some (.slice ka t.kids.length kc)) := c3
    have HKid : Hid (∀ i, i < t.kids.length → ∀ w1, Below w.heap.size w w1 → ∃ g off u, ka = some ⟨g, off, none⟩ ∧ g < w1.heap.size ∧ w1.cell? ⟨g, off + i, none⟩ = some u ∧ Calls Tryz.prog 12 #[u] w1 fun e w' => e = .returned (.int .i64 (lngE (t.kids.getD i nilE) : Nat)) ∧ Below w.heap.size w w') := fun i hik w1 hb1 => by
      obtain ⟨g, off, u, e1, e2, e3, e4⟩ := h5.at hik
      have hm : t.kids.getD i nilE ∈ t.kids := getD_mem hik
      have q1 := wtL_mem t.kids _ hm
      have q2 := wtE_eq t
      refine ⟨g, off, u, e1, Nat.lt_of_lt_of_le e2 hb1.size, (hb1.cell (p := ⟨g, off + i, none⟩) e2).trans e3, (long_any n (e4.below hb1) (wellE_kid hw hm) (hT.kid hm) (by omega)).mono ?_⟩
      rintro e w' ⟨q1, q2⟩
      exact ⟨q1, hb1.trans (q2.mono hb1.size)⟩
    have hle := lngE_le t hw
    have hEq := lngE_eq t
    obtain ⟨z0, hz0⟩ : ∃ z0 : Nat, (if t.kind = 2 then t.text.size else 0) = z0 := ⟨_, rfl⟩
    rw [hz0] at hEq
    have HB : Hid (∀ i, i < t.kids.length → z0 + lngL (t.kids.take i) + lngE (t.kids.getD i nilE) ≤ 40000) := fun i hik => by
      have h1 := lngL_step hik
      have h2 := lngL_mono t.kids (i + 1)
      omega
    have hkl := hT.size.2
    have HE : Hid (lngE t = z0 + lngL t.kids) := hEq
    have htxs := hT.size.1
    have hz1 : z0 ≤ 40000 := by omega
    clear h3 h5 hw hT hi hle hEq
    have key : ∀ W, Below w.heap.size w W → True := fun _ _ => trivial
    by_cases h2k : t.kind = 2
    · rw [if_pos h2k] at hz0
      rw [h2k] at c0
      subst hz0
      go_enter Tryz.func12, Tryz.ntmps12
      go_wp2
      go_loopw [3, 4] (fun nv iv wr => ∃ i : Nat, i ≤ t.kids.length ∧ iv = .int .i64 i ∧ nv = .int .i64 (t.text.size + lngL (t.kids.take i) : Nat) ∧ Hid (Below w.heap.size w wr)) (fun _ iv _ => t.kids.length - (intOf iv).toNat)
      case atStart => exact ⟨0, by omega, rfl, by simp [lngL], Below.refl _ _⟩
      case round =>
        obtain ⟨i, hil, rfl, rfl, HBW⟩ := hrel
        have c3r := (HBW.out.cell (p := ⟨b, 3, none⟩) hbl).trans HC3.out
        have hbr := Nat.lt_of_lt_of_le hbl HBW.out.size
        by_cases hlt : i < t.kids.length
        · obtain ⟨g, off, u, rfl, hg, cu, hC⟩ := HKid.out i hlt wr HBW.out
          have HC : Hid (Calls Tryz.prog 12 #[u] wr fun e w' => e = .returned (.int .i64 (lngE (t.kids.getD i nilE) : Nat)) ∧ Below w.heap.size w w') := hC
          have hltI : (i : Int) < (t.kids.length : Int) := by omega
          have hbd := HB.out i hlt
          have hst := lngL_step hlt
          obtain ⟨z1, hz1⟩ : ∃ z1 : Nat, t.text.size + lngL (t.kids.take i) = z1 := ⟨_, rfl⟩
          obtain ⟨z2, hz2⟩ : ∃ z2 : Nat, lngE (t.kids.getD i nilE) = z2 := ⟨_, rfl⟩
          have HS : Hid (t.text.size + lngL (t.kids.take (i + 1)) = z1 + z2) := by show _ = _; omega
          rw [hz1, hz2] at hbd
          rw [hz1]
          rw [hz2] at HC
          clear hC hst hz1 hz2
          have hw1 : IntKind.i64.wrap ((z1 : Int) + (z2 : Int)) = ((z1 + z2 : Nat) : Int) := by rw [IntKind.wrap_i64]; omega
          go_wp2_with fail
          go_at_call 12
          refine HC.out.mono ?_
          rintro e w4 ⟨rfl, hb4⟩
          have HB4 : Hid (Below w.heap.size w w4) := hb4
          clear hb4 c3r cu
          go_wp2_with fail
          go_roundw
          case rel => exact ⟨i + 1, by omega, by go_num, by rw [HS.out, Int.natCast_add], HB4⟩
          case measure => simp [intOf]; omega
        · obtain rfl : i = t.kids.length := by omega
          have HE2 := HE.out
          rw [List.take_length]
          rw [← HE2]
          go_wp2_with fail
          go_ret
          exact ⟨rfl, HBW.out⟩
    · rw [if_neg h2k] at hz0
      subst hz0
      have h2b : (t.kind == 2) = false := by rw [beq_eq_false_iff_ne]; exact h2k
      go_enter Tryz.func12, Tryz.ntmps12
      go_wp2
      go_loopw [3, 4] (fun nv iv wr => ∃ i : Nat, i ≤ t.kids.length ∧ iv = .int .i64 i ∧ nv = .int .i64 (0 + lngL (t.kids.take i) : Nat) ∧ Hid (Below w.heap.size w wr)) (fun _ iv _ => t.kids.length - (intOf iv).toNat)
      case atStart => exact ⟨0, by omega, rfl, by simp [lngL], Below.refl _ _⟩
      case round =>
        obtain ⟨i, hil, rfl, rfl, HBW⟩ := hrel
        have c3r := (HBW.out.cell (p := ⟨b, 3, none⟩) hbl).trans HC3.out
        have hbr := Nat.lt_of_lt_of_le hbl HBW.out.size
        by_cases hlt : i < t.kids.length
        · obtain ⟨g, off, u, rfl, hg, cu, hC⟩ := HKid.out i hlt wr HBW.out
          have HC : Hid (Calls Tryz.prog 12 #[u] wr fun e w' => e = .returned (.int .i64 (lngE (t.kids.getD i nilE) : Nat)) ∧ Below w.heap.size w w') := hC
          have hltI : (i : Int) < (t.kids.length : Int) := by omega
          have hbd := HB.out i hlt
          have hst := lngL_step hlt
          obtain ⟨z1, hz1⟩ : ∃ z1 : Nat, 0 + lngL (t.kids.take i) = z1 := ⟨_, rfl⟩
          obtain ⟨z2, hz2⟩ : ∃ z2 : Nat, lngE (t.kids.getD i nilE) = z2 := ⟨_, rfl⟩
          have HS : Hid (0 + lngL (t.kids.take (i + 1)) = z1 + z2) := by show _ = _; omega
          rw [hz1, hz2] at hbd
          rw [hz1]
          rw [hz2] at HC
          clear hC hst hz1 hz2
          have hw1 : IntKind.i64.wrap ((z1 : Int) + (z2 : Int)) = ((z1 + z2 : Nat) : Int) := by rw [IntKind.wrap_i64]; omega
          go_wp2_with fail
          go_at_call 12
          refine HC.out.mono ?_
          rintro e w4 ⟨rfl, hb4⟩
          have HB4 : Hid (Below w.heap.size w w4) := hb4
          clear hb4 c3r cu
          go_wp2_with fail
          go_roundw
          case rel => exact ⟨i + 1, by omega, by go_num, by rw [HS.out, Int.natCast_add], HB4⟩
          case measure => simp [intOf]; omega
        · obtain rfl : i = t.kids.length := by omega
          have HE2 := HE.out
          rw [List.take_length]
          rw [← HE2]
          go_wp2_with fail
          go_ret
          exact ⟨rfl, HBW.out⟩

end Go.Proofs.YthbglakncijahaaGreatDoor
