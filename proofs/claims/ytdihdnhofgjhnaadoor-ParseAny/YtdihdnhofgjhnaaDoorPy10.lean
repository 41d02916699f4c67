/- Texts of the proof, put together: YRef, GOkP. -/
import Derived.Test.YtdihdnhofgjhnaaDoorPy09
import Derived.Test.YtdihdnhofgjhnaaDoorPy07
namespace Go.Proofs.YtdihdnhofgjhnaaDoor
open Go.RowKit
set_option linter.unusedVariables false
set_option maxRecDepth 100000

set_option maxHeartbeats 4000000 in
theorem ractOk_any (e : Bool) (n m : Nat) (a : Ac) (w : World) :
    Calls Tryd.prog 17 #[.agg #[.int .i64 a.kind, .int .i64 a.to], .bool e, .int .i64 n, .int .i64 m] w fun r w' => r = .returned (.bool (actB e n m a)) ∧ Below w.heap.size w w' := by
  have HB : Hid (Below w.heap.size w (w.alloc (.cells #[.int .i64 a.kind, .int .i64 a.to] 53))) := alloc_below _ _
  obtain ⟨r0, r1⟩ := box2_cells w (.int .i64 a.kind) (.int .i64 a.to) 53
  generalize hR : actB e n m a = R at *
  have HR : Hid (actB e n m a = R) := hR
  clear hR
  unfold actB at HR
  obtain ⟨kind, to⟩ := a
  simp only at *
  by_cases h1 : kind = 1
  · subst h1
    by_cases ht : to ≥ 0
    · have dt : decide (to ≥ 0) = true := decide_eq_true ht
      by_cases hn : to < (n : Int)
      · have dn : decide (to < (n : Int)) = true := decide_eq_true hn
        cases e with
        | false =>
          have HZ : Hid (R = true) := by show _ = _; rw [← HR.out]; simp [show 0 ≤ to from ht, hn]
          clear HR
          go_enter Tryd.func17, Tryd.ntmps17
          go_wp2
          go_ret
          exact ⟨by rw [HZ.out]; rfl, HB.out⟩
        | true =>
          have HZ : Hid (R = false) := by show _ = _; rw [← HR.out]; simp
          clear HR
          go_enter Tryd.func17, Tryd.ntmps17
          go_wp2
          go_ret
          exact ⟨by rw [HZ.out]; rfl, HB.out⟩
      · have dn : decide (to < (n : Int)) = false := decide_eq_false hn
        have HZ : Hid (R = false) := by show _ = _; rw [← HR.out]; simp [hn]
        clear HR
        go_enter Tryd.func17, Tryd.ntmps17
        go_wp2
        go_ret
        exact ⟨by rw [HZ.out]; rfl, HB.out⟩
    · have dt : decide (to ≥ 0) = false := decide_eq_false ht
      have HZ : Hid (R = false) := by show _ = _; rw [← HR.out]; simp [show ¬ 0 ≤ to from ht]
      clear HR
      go_enter Tryd.func17, Tryd.ntmps17
      go_wp2
      go_ret
      exact ⟨by rw [HZ.out]; rfl, HB.out⟩
  have k1 : (kind == 1) = false := by rw [beq_eq_false_iff_ne]; exact h1
  by_cases h2 : kind = 2
  · subst h2
    by_cases ht : to ≥ 0
    · have dt : decide (to ≥ 0) = true := decide_eq_true ht
      have HZ : Hid (R = decide (to < (m : Int))) := by show _ = _; rw [← HR.out]; simp [show 0 ≤ to from ht]
      clear HR
      go_enter Tryd.func17, Tryd.ntmps17
      go_wp2
      go_ret
      exact ⟨by rw [HZ.out]; rfl, HB.out⟩
    · have dt : decide (to ≥ 0) = false := decide_eq_false ht
      have HZ : Hid (R = false) := by show _ = _; rw [← HR.out]; simp [show ¬ 0 ≤ to from ht]
      clear HR
      go_enter Tryd.func17, Tryd.ntmps17
      go_wp2
      go_ret
      exact ⟨by rw [HZ.out]; rfl, HB.out⟩
  have k2 : (kind == 2) = false := by rw [beq_eq_false_iff_ne]; exact h2
  by_cases h3 : kind = 3
  · subst h3
    by_cases ht : to = 0
    · subst ht
      have HZ : Hid (R = e) := by show _ = _; rw [← HR.out]; simp
      clear HR
      go_enter Tryd.func17, Tryd.ntmps17
      go_wp2
      go_ret
      exact ⟨by rw [HZ.out]; rfl, HB.out⟩
    · have dt : (to == 0) = false := by rw [beq_eq_false_iff_ne]; exact ht
      have HZ : Hid (R = false) := by show _ = _; rw [← HR.out]; simp [ht]
      clear HR
      go_enter Tryd.func17, Tryd.ntmps17
      go_wp2
      go_ret
      exact ⟨by rw [HZ.out]; rfl, HB.out⟩
  have k3 : (kind == 3) = false := by rw [beq_eq_false_iff_ne]; exact h3
  by_cases h0 : kind = 0
  · subst h0
    have HZ : Hid (R = (to == 0)) := by show _ = _; rw [← HR.out]; rw [Bool.eq_iff_iff]; simp
    clear HR
    go_enter Tryd.func17, Tryd.ntmps17
    go_wp2
    go_ret
    exact ⟨by rw [HZ.out]; rfl, HB.out⟩
  have k0 : (kind == 0) = false := by rw [beq_eq_false_iff_ne]; exact h0
  have HZ : Hid (R = false) := by show _ = _; rw [← HR.out]; simp [h0, h1, h2, h3]
  clear HR
  go_enter Tryd.func17, Tryd.ntmps17
  go_wp2
  go_ret
  exact ⟨by rw [HZ.out]; rfl, HB.out⟩

end Go.Proofs.YtdihdnhofgjhnaaDoor

namespace Go.Proofs.YtdihdnhofgjhnaaDoor
open Go.RowKit
set_option linter.unusedVariables false
set_option maxRecDepth 100000

theorem wrap_g64 (n : Int) (h0 : -9223372036854775808 ≤ n) (h1 : n ≤ 9223372036854775807) : IntKind.i64.wrap n = n := by
  simp [IntKind.wrap, IntKind.bits, IntKind.signed]
  split <;> omega
def I64 (z : Int) : Prop := -9223372036854775808 ≤ z ∧ z ≤ 9223372036854775807

set_option maxHeartbeats 1000000 in
theorem nameOf_any (s : Int) (hs : I64 s) (w : World) :
    Calls Tryd.prog 65 #[.int .i64 s] w fun e w' => e = .returned (.tuple #[.int .i64 (-1 - s), .bool (decide (s < 0))]) ∧ w' = w := by
  have hw : IntKind.i64.wrap (-1 - s) = -1 - s := wrap_g64 _ (by unfold I64 at hs; omega) (by unfold I64 at hs; omega)
  clear hs
  go_enter Tryd.func65, Tryd.ntmps65
  go_wp2
  go_ret2
  exact ⟨rfl, rfl⟩

set_option maxHeartbeats 1000000 in
theorem isName_any (g : Gm) (pv lv sv : Value) (n : Int) (w : World) :
    Calls Tryd.prog 44 #[gv g pv lv sv, .int .i64 n] w fun e w' => e = .returned (.bool (decide (0 ≤ n) && decide (n < g.names))) ∧ Below w.heap.size w w' := by
  have hB0 := boxG_below w g pv lv sv
  unfold boxG gvs at hB0
  unfold gv gvs
  obtain ⟨t, nm, s, ps, ls, ss⟩ := g
  simp only at *
  by_cases h1 : n ≥ 0
  · have d1 : decide (n ≥ 0) = true := decide_eq_true h1
    have e1 : (decide (0 ≤ n) && decide (n < nm)) = decide (n < nm) := by rw [decide_eq_true (show 0 ≤ n from h1), Bool.true_and]
    rw [e1]
    clear e1 h1
    go_enter Tryd.func44, Tryd.ntmps44
    go_wp2
    go_ret
    exact ⟨by simp, hB0⟩
  · have d1 : decide (n ≥ 0) = false := decide_eq_false h1
    have e1 : (decide (0 ≤ n) && decide (n < nm)) = false := by rw [decide_eq_false (show ¬ 0 ≤ n from h1)]; rfl
    rw [e1]
    clear e1 h1
    go_enter Tryd.func44, Tryd.ntmps44
    go_wp2
    go_ret
    exact ⟨by simp, hB0⟩

set_option maxHeartbeats 1000000 in
theorem isLevel_any (g : Gm) (pv lv : Value) (sa : Option Addr) (m sc : Nat) (n : Int) (w : World) :
    Calls Tryd.prog 47 #[gv g pv lv (.slice sa m sc), .int .i64 n] w fun e w' => e = .returned (.bool (lvlB m n)) ∧ Below w.heap.size w w' := by
  have hB0 := boxG_below w g pv lv (.slice sa m sc)
  unfold boxG gvs at hB0
  unfold gv gvs lvlB
  obtain ⟨t, nm, s, ps, ls, ss⟩ := g
  simp only at *
  by_cases h1 : n ≥ 0
  · have d1 : decide (n ≥ 0) = true := decide_eq_true h1
    have e1 : (decide (0 ≤ n) && decide (n ≤ (m : Int))) = decide (n ≤ (m : Int)) := by rw [decide_eq_true (show 0 ≤ n from h1), Bool.true_and]
    rw [e1]
    clear e1 h1
    go_enter Tryd.func47, Tryd.ntmps47
    go_wp2
    go_ret
    exact ⟨by simp, hB0⟩
  · have d1 : decide (n ≥ 0) = false := decide_eq_false h1
    have e1 : (decide (0 ≤ n) && decide (n ≤ (m : Int))) = false := by rw [decide_eq_false (show ¬ 0 ≤ n from h1)]; rfl
    rw [e1]
    clear e1 h1
    go_enter Tryd.func47, Tryd.ntmps47
    go_wp2
    go_ret
    exact ⟨by simp, hB0⟩

set_option maxHeartbeats 1000000 in
theorem isSymbol_any (g : Gm) (pv lv sv : Value) (x : Int) (hx : I64 x) (ht : 0 ≤ g.terms) (hn : 0 ≤ g.names) (w : World) :
    Calls Tryd.prog 61 #[gv g pv lv sv, .int .i64 x] w fun e w' => e = .returned (.bool (symB g.terms g.names x)) ∧ Below w.heap.size w w' := by
  have hB0 := boxG_below w g pv lv sv
  have hB2 := boxG_box w g pv lv sv
  have HNM : Hid (∀ w', Calls Tryd.prog 44 #[gv g pv lv sv, .int .i64 (-1 - x)] w' fun e w'' => e = .returned (.bool (decide (0 ≤ -1 - x) && decide (-1 - x < g.names))) ∧ Below w'.heap.size w' w'') := fun w' => isName_any g pv lv sv _ w'
  obtain ⟨q0, q1, q2, q3, q4, q5, q6⟩ := hB2
  unfold boxG gvs at *
  unfold gv gvs at *
  obtain ⟨t, nm, s, ps, ls, ss⟩ := g
  simp only at *
  have hN := nameOf_any x hx
  clear hx
  by_cases h1 : x < 0
  · have HE : Hid (symB t nm x = (decide (0 ≤ -1 - x) && decide (-1 - x < nm))) := by
      show _ = _; unfold symB
      rw [Bool.eq_iff_iff]; simp; omega
    rw [HE.out]
    clear HE
    generalize (decide (0 ≤ -1 - x) && decide (-1 - x < nm)) = bb at *
    have d1 : decide (x < 0) = true := decide_eq_true h1
    go_enter Tryd.func61, Tryd.ntmps61
    go_wp2_with fail
    refine (hN _).mono ?_
    rintro e w1 ⟨rfl, rfl⟩
    rw [d1]
    go_wp2_with fail
    refine (HNM.out _).mono ?_
    rintro e w2 ⟨rfl, hb⟩
    have hb2 := hB0.trans (hb.mono hB0.size)
    clear hb
    go_wp2
    go_ret
    exact ⟨rfl, hb2⟩
  · have HE : Hid (symB t nm x = decide (x < t)) := by
      show _ = _; unfold symB
      rw [Bool.eq_iff_iff]; simp; omega
    have d1 : decide (x < 0) = false := decide_eq_false h1
    go_enter Tryd.func61, Tryd.ntmps61
    go_wp2_with fail
    refine (hN _).mono ?_
    rintro e w1 ⟨rfl, rfl⟩
    rw [d1]
    go_wp2
    go_ret
    exact ⟨by rw [HE.out]; rfl, hB0⟩

/-- a function value that tells of a number, by what it has kept -/
def Tells (w : World) (F : Nat) (cap : Value) (f : Int → Bool) (l : List Int) : Prop :=
  ∀ (w' : World) (x : Int), x ∈ l → Below w.heap.size w w' → Calls Tryd.prog F #[.int .i64 x, cap] w' fun e w'' => e = .returned (.bool (f x)) ∧ Below w'.heap.size w' w''

set_option maxHeartbeats 2000000 in
theorem indexI_any (F : Nat) (hen : ∀ args w, (callFunc F args).run Tryd.prog w = .ok (.enter F args) w) (cap v : Value) (f : Int → Bool) (l : List Int) (w : World) (hl : l.length ≤ 1000) (hv : IntsR w v l) (hf : Tells w F cap f l) :
    Calls Tryd.prog 58 #[v, .func (.func F) #[] #[cap]] w fun e w' => ∃ z, e = .returned (.int .i64 z) ∧ decide (z ≥ 0) = l.any f ∧ Below w.heap.size w w' := by
  obtain ⟨a, c, rfl⟩ := hv.slice
  have HV : Hid (IntsR w (.slice a l.length c) l) := hv
  have HF : Hid (Tells w F cap f l) := hf
  clear hv hf
  go_enter Tryd.func58, Tryd.ntmps58
  go_wp2
  go_loopw [8] (fun i wr => ∃ k : Nat, k ≤ l.length ∧ i = .int .i64 k ∧ Hid (l.any f = (l.drop k).any f) ∧ Below w.heap.size w wr) (fun i _ => l.length - (intOf i).toNat)
  case atStart => exact ⟨0, Nat.zero_le _, rfl, (by show _ = _; rw [List.drop_zero]), Below.refl _ _⟩
  case round =>
    obtain ⟨k, hk, rfl, HM, hbw⟩ := hrel
    by_cases hlt : k < l.length
    · obtain ⟨b, off, rfl, hb, hc⟩ := (HV.out.below hbw).at hlt
      have HA : Hid ((l.drop k).any f = (f (l.getD k 0) || (l.drop (k + 1)).any f)) := by
        show _ = _
        rw [List.drop_eq_getElem_cons hlt, List.any_cons]
        simp [List.getD, hlt]
      have hC := HF.out wr (l.getD k 0) (by simp [List.getD, hlt]) hbw
      generalize l.getD k 0 = x at *
      go_wp2_with fail
      refine hC.mono ?_
      rintro e w2 ⟨rfl, hb2⟩
      have hbw2 := hbw.trans (hb2.mono hbw.size)
      clear hC hb2
      by_cases hfx : f x = true
      · rw [hfx]
        have HZ : Hid (decide ((k : Int) ≥ 0) = l.any f) := by show _ = _; rw [HM.out, HA.out, hfx]; simp
        go_wp2
        go_ret
        exact ⟨_, rfl, HZ.out, hbw2⟩
      · have hfx2 : f x = false := by simpa using hfx
        rw [hfx2]
        have HZ : Hid (l.any f = (l.drop (k + 1)).any f) := by show _ = _; rw [HM.out, HA.out, hfx2, Bool.false_or]
        clear hfx
        go_wp2
        go_roundw
        case rel => exact ⟨k + 1, by omega, by go_num, HZ, hbw2⟩
        case measure => simp [intOf]; omega
    · have HZ : Hid (decide ((-1 : Int) ≥ 0) = l.any f) := by
        show _ = _; rw [HM.out, List.drop_eq_nil_of_le (by omega)]; rfl
      go_wp2
      go_ret
      exact ⟨_, rfl, HZ.out, hbw⟩

set_option maxHeartbeats 2000000 in
theorem containsI_any (F : Nat) (hen : ∀ args w, (callFunc F args).run Tryd.prog w = .ok (.enter F args) w) (cap v : Value) (f : Int → Bool) (l : List Int) (w : World) (hl : l.length ≤ 1000) (hv : IntsR w v l) (hf : Tells w F cap f l) :
    Calls Tryd.prog 45 #[v, .func (.func F) #[] #[cap]] w fun e w' => e = .returned (.bool (l.any f)) ∧ Below w.heap.size w w' := by
  have hC := indexI_any F hen cap v f l w hl hv hf
  obtain ⟨a, c, rfl⟩ := hv.slice
  clear hv hf
  go_enter Tryd.func45, Tryd.ntmps45
  go_wp2_with fail
  refine hC.mono ?_
  rintro e w2 ⟨z, rfl, hz, hb2⟩
  have HZ : Hid (decide (z ≥ 0) = l.any f) := hz
  clear hz
  go_wp2
  go_ret
  exact ⟨by rw [← HZ.out]; rfl, hb2⟩

end Go.Proofs.YtdihdnhofgjhnaaDoor
