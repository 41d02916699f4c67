/- Texts of the proof, put together: GOkP, GOkQ. -/
import Derived.Test.YtkdoghaoijdedaaGreatDoorGt02
import Derived.Shelf.Abstract
namespace Go.Proofs.YtkdoghaoijdedaaGreatDoor
open Go.RowKit
set_option linter.unusedVariables false
set_option maxRecDepth 100000

theorem wrap_g64 (n : Int) (h0 : -9223372036854775808 ≤ n) (h1 : n ≤ 9223372036854775807) : IntKind.i64.wrap n = n := by
  simp [IntKind.wrap, IntKind.bits, IntKind.signed]
  split <;> omega
def I64 (z : Int) : Prop := -9223372036854775808 ≤ z ∧ z ≤ 9223372036854775807

set_option maxHeartbeats 1000000 in
theorem nameOf_any (s : Int) (hs : I64 s) (w : World) :
    Calls Tryz.prog 72 #[.int .i64 s] w fun e w' => e = .returned (.tuple #[.int .i64 (-1 - s), .bool (decide (s < 0))]) ∧ w' = w := by
  have hw : IntKind.i64.wrap (-1 - s) = -1 - s := wrap_g64 _ (by unfold I64 at hs; omega) (by unfold I64 at hs; omega)
  clear hs
  go_enter Tryz.func72, Tryz.ntmps72
  go_wp2
  go_ret2
  exact ⟨rfl, rfl⟩

set_option maxHeartbeats 1000000 in
theorem isName_any (g : Gm) (pv lv sv : Value) (n : Int) (w : World) :
    Calls Tryz.prog 36 #[gv g pv lv sv, .int .i64 n] w fun e w' => e = .returned (.bool (decide (0 ≤ n) && decide (n < g.names))) ∧ Below w.heap.size w w' := by
  have hB0 := boxG_below w g pv lv sv
  unfold boxG gvs at hB0
  unfold gv gvs
  obtain ⟨t, nm, s, ps, ls, ss⟩ := g
  simp only at *
  by_cases h1 : n ≥ 0
  · have d1 : decide (n ≥ 0) = true := decide_eq_true h1
    have e1 : (decide (0 ≤ n) && decide (n < nm)) = decide (n < nm) := by rw [decide_eq_true (show 0 ≤ n from h1), Bool.true_and]
    rw [e1]
    clear e1 h1
    go_enter Tryz.func36, Tryz.ntmps36
    go_wp2
    go_ret
    exact ⟨by simp, hB0⟩
  · have d1 : decide (n ≥ 0) = false := decide_eq_false h1
    have e1 : (decide (0 ≤ n) && decide (n < nm)) = false := by rw [decide_eq_false (show ¬ 0 ≤ n from h1)]; rfl
    rw [e1]
    clear e1 h1
    go_enter Tryz.func36, Tryz.ntmps36
    go_wp2
    go_ret
    exact ⟨by simp, hB0⟩

set_option maxHeartbeats 1000000 in
theorem isLevel_any (g : Gm) (pv lv : Value) (sa : Option Addr) (m sc : Nat) (n : Int) (w : World) :
    Calls Tryz.prog 39 #[gv g pv lv (.slice sa m sc), .int .i64 n] w fun e w' => e = .returned (.bool (lvlB m n)) ∧ Below w.heap.size w w' := by
  have hB0 := boxG_below w g pv lv (.slice sa m sc)
  unfold boxG gvs at hB0
  unfold gv gvs lvlB
  obtain ⟨t, nm, s, ps, ls, ss⟩ := g
  simp only at *
  by_cases h1 : n ≥ 0
  · have d1 : decide (n ≥ 0) = true := decide_eq_true h1
    have e1 : (decide (0 ≤ n) && decide (n ≤ (m : Int))) = decide (n ≤ (m : Int)) := by rw [decide_eq_true (show 0 ≤ n from h1), Bool.true_and]
    rw [e1]
    clear e1 h1
    go_enter Tryz.func39, Tryz.ntmps39
    go_wp2
    go_ret
    exact ⟨by simp, hB0⟩
  · have d1 : decide (n ≥ 0) = false := decide_eq_false h1
    have e1 : (decide (0 ≤ n) && decide (n ≤ (m : Int))) = false := by rw [decide_eq_false (show ¬ 0 ≤ n from h1)]; rfl
    rw [e1]
    clear e1 h1
    go_enter Tryz.func39, Tryz.ntmps39
    go_wp2
    go_ret
    exact ⟨by simp, hB0⟩

set_option maxHeartbeats 1000000 in
theorem isSymbol_any (g : Gm) (pv lv sv : Value) (x : Int) (hx : I64 x) (ht : 0 ≤ g.terms) (hn : 0 ≤ g.names) (w : World) :
    Calls Tryz.prog 65 #[gv g pv lv sv, .int .i64 x] w fun e w' => e = .returned (.bool (symB g.terms g.names x)) ∧ Below w.heap.size w w' := by
  have hB0 := boxG_below w g pv lv sv
  have hB2 := boxG_box w g pv lv sv
  have HNM : Hid (∀ w', Calls Tryz.prog 36 #[gv g pv lv sv, .int .i64 (-1 - x)] w' fun e w'' => e = .returned (.bool (decide (0 ≤ -1 - x) && decide (-1 - x < g.names))) ∧ Below w'.heap.size w' w'') := fun w' => isName_any g pv lv sv _ w'
  obtain ⟨q0, q1, q2, q3, q4, q5, q6⟩ := hB2
  unfold boxG gvs at *
  unfold gv gvs at *
  obtain ⟨t, nm, s, ps, ls, ss⟩ := g
  simp only at *
  have hN := nameOf_any x hx
  clear hx
  by_cases h1 : x < 0
  · have HE : Hid (symB t nm x = (decide (0 ≤ -1 - x) && decide (-1 - x < nm))) := by
      show _ = _; unfold symB
      rw [Bool.eq_iff_iff]; simp; omega
    rw [HE.out]
    clear HE
    generalize (decide (0 ≤ -1 - x) && decide (-1 - x < nm)) = bb at *
    have d1 : decide (x < 0) = true := decide_eq_true h1
    go_enter Tryz.func65, Tryz.ntmps65
    go_wp2_with fail
    refine (hN _).mono ?_
    rintro e w1 ⟨rfl, rfl⟩
    rw [d1]
    go_wp2_with fail
    refine (HNM.out _).mono ?_
    rintro e w2 ⟨rfl, hb⟩
    have hb2 := hB0.trans (hb.mono hB0.size)
    clear hb
    go_wp2
    go_ret
    exact ⟨rfl, hb2⟩
  · have HE : Hid (symB t nm x = decide (x < t)) := by
      show _ = _; unfold symB
      rw [Bool.eq_iff_iff]; simp; omega
    have d1 : decide (x < 0) = false := decide_eq_false h1
    go_enter Tryz.func65, Tryz.ntmps65
    go_wp2_with fail
    refine (hN _).mono ?_
    rintro e w1 ⟨rfl, rfl⟩
    rw [d1]
    go_wp2
    go_ret
    exact ⟨by rw [HE.out]; rfl, hB0⟩

/-- a function value that tells of a number, by what it has kept -/
def Tells (w : World) (F : Nat) (cap : Value) (f : Int → Bool) (l : List Int) : Prop :=
  ∀ (w' : World) (x : Int), x ∈ l → Below w.heap.size w w' → Calls Tryz.prog F #[.int .i64 x, cap] w' fun e w'' => e = .returned (.bool (f x)) ∧ Below w'.heap.size w' w''

set_option maxHeartbeats 2000000 in
theorem indexI_any (F : Nat) (hen : ∀ args w, (callFunc F args).run Tryz.prog w = .ok (.enter F args) w) (cap v : Value) (f : Int → Bool) (l : List Int) (w : World) (hl : l.length ≤ 1000) (hv : IntsR w v l) (hf : Tells w F cap f l) :
    Calls Tryz.prog 62 #[v, .func (.func F) #[] #[cap]] w fun e w' => ∃ z, e = .returned (.int .i64 z) ∧ decide (z ≥ 0) = l.any f ∧ Below w.heap.size w w' := by
  obtain ⟨a, c, rfl⟩ := hv.slice
  have HV : Hid (IntsR w (.slice a l.length c) l) := hv
  have HF : Hid (Tells w F cap f l) := hf
  clear hv hf
  go_enter Tryz.func62, Tryz.ntmps62
  go_wp2
  go_loopw [8] (fun i wr => ∃ k : Nat, k ≤ l.length ∧ i = .int .i64 k ∧ Hid (l.any f = (l.drop k).any f) ∧ Below w.heap.size w wr) (fun i _ => l.length - (intOf i).toNat)
  case atStart => exact ⟨0, Nat.zero_le _, rfl, (by show _ = _; rw [List.drop_zero]), Below.refl _ _⟩
  case round =>
    obtain ⟨k, hk, rfl, HM, hbw⟩ := hrel
    by_cases hlt : k < l.length
    · obtain ⟨b, off, rfl, hb, hc⟩ := (HV.out.below hbw).at hlt
      have HA : Hid ((l.drop k).any f = (f (l.getD k 0) || (l.drop (k + 1)).any f)) := by
        show _ = _
        rw [List.drop_eq_getElem_cons hlt, List.any_cons]
        simp [List.getD, hlt]
      have hC := HF.out wr (l.getD k 0) (by simp [List.getD, hlt]) hbw
      generalize l.getD k 0 = x at *
      go_wp2_with fail
      refine hC.mono ?_
      rintro e w2 ⟨rfl, hb2⟩
      have hbw2 := hbw.trans (hb2.mono hbw.size)
      clear hC hb2
      by_cases hfx : f x = true
      · rw [hfx]
        have HZ : Hid (decide ((k : Int) ≥ 0) = l.any f) := by show _ = _; rw [HM.out, HA.out, hfx]; simp
        go_wp2
        go_ret
        exact ⟨_, rfl, HZ.out, hbw2⟩
      · have hfx2 : f x = false := by simpa using hfx
        rw [hfx2]
        have HZ : Hid (l.any f = (l.drop (k + 1)).any f) := by show _ = _; rw [HM.out, HA.out, hfx2, Bool.false_or]
        clear hfx
        go_wp2
        go_roundw
        case rel => exact ⟨k + 1, by omega, by go_num, HZ, hbw2⟩
        case measure => simp [intOf]; omega
    · have HZ : Hid (decide ((-1 : Int) ≥ 0) = l.any f) := by
        show _ = _; rw [HM.out, List.drop_eq_nil_of_le (by omega)]; rfl
      go_wp2
      go_ret
      exact ⟨_, rfl, HZ.out, hbw⟩

set_option maxHeartbeats 2000000 in
theorem containsI_any (F : Nat) (hen : ∀ args w, (callFunc F args).run Tryz.prog w = .ok (.enter F args) w) (cap v : Value) (f : Int → Bool) (l : List Int) (w : World) (hl : l.length ≤ 1000) (hv : IntsR w v l) (hf : Tells w F cap f l) :
    Calls Tryz.prog 37 #[v, .func (.func F) #[] #[cap]] w fun e w' => e = .returned (.bool (l.any f)) ∧ Below w.heap.size w w' := by
  have hC := indexI_any F hen cap v f l w hl hv hf
  obtain ⟨a, c, rfl⟩ := hv.slice
  clear hv hf
  go_enter Tryz.func37, Tryz.ntmps37
  go_wp2_with fail
  refine hC.mono ?_
  rintro e w2 ⟨z, rfl, hz, hb2⟩
  have HZ : Hid (decide (z ≥ 0) = l.any f) := hz
  clear hz
  go_wp2
  go_ret
  exact ⟨by rw [← HZ.out]; rfl, hb2⟩

end Go.Proofs.YtkdoghaoijdedaaGreatDoor

namespace Go.Proofs.YtkdoghaoijdedaaGreatDoor
open Go.RowKit
set_option linter.unusedVariables false
set_option maxRecDepth 100000

set_option maxHeartbeats 1000000 in
theorem levelsC_any (g : Gm) (pv lv : Value) (sa : Option Addr) (m sc B : Nat) (x : Int) (w : World) (hbx : BoxG w B g pv lv (.slice sa m sc)) :
    Calls Tryz.prog 38 #[.int .i64 x, .pointer (some ⟨B, 0, none⟩)] w fun e w' => e = .returned (.bool (!lvlB m x)) ∧ Below w.heap.size w w' := by
  obtain ⟨q0, q1, q2, q3, q4, q5, q6⟩ := hbx
  have HL : Hid (Calls Tryz.prog 39 #[gv g pv lv (.slice sa m sc), .int .i64 x] w fun e w' => e = .returned (.bool (lvlB m x)) ∧ Below w.heap.size w w') := isLevel_any g pv lv sa m sc x w
  unfold gv gvs at HL
  obtain ⟨t, nm, s, ps, ls, ss⟩ := g
  simp only at *
  generalize lvlB m x = bb at *
  go_enter Tryz.func38, Tryz.ntmps38
  go_wp2_with fail
  refine HL.out.mono ?_
  rintro e w1 ⟨rfl, hb⟩
  go_wp2
  go_ret
  exact ⟨rfl, hb⟩

set_option maxHeartbeats 1000000 in
theorem prodC_any (g : Gm) (pv lv sv : Value) (B : Nat) (x : Int) (hx : I64 x) (ht : 0 ≤ g.terms) (hn : 0 ≤ g.names) (w : World) (hbx : BoxG w B g pv lv sv) :
    Calls Tryz.prog 64 #[.int .i64 x, .pointer (some ⟨B, 0, none⟩)] w fun e w' => e = .returned (.bool (!symB g.terms g.names x)) ∧ Below w.heap.size w w' := by
  obtain ⟨q0, q1, q2, q3, q4, q5, q6⟩ := hbx
  have HL : Hid (Calls Tryz.prog 65 #[gv g pv lv sv, .int .i64 x] w fun e w' => e = .returned (.bool (symB g.terms g.names x)) ∧ Below w.heap.size w w') := isSymbol_any g pv lv sv x hx ht hn w
  unfold gv gvs at HL
  obtain ⟨t, nm, s, ps, ls, ss⟩ := g
  simp only at *
  clear hx ht hn
  generalize symB t nm x = bb at *
  go_enter Tryz.func64, Tryz.ntmps64
  go_wp2_with fail
  refine HL.out.mono ?_
  rintro e w1 ⟨rfl, hb⟩
  go_wp2
  go_ret
  exact ⟨rfl, hb⟩

/-- a production's values -/
def pdv (p : PdR) (rv : Value) : Value := .agg #[.int .i64 p.left, rv, .int .i64 p.level]
theorem not_any_not (l : List Int) (f : Int → Bool) : (!l.any fun x => !f x) = l.all f := by
  induction l with
  | nil => rfl
  | cons x l ih => simp only [List.any_cons, List.all_cons, Bool.not_or, Bool.not_not, ih]

set_option maxHeartbeats 2000000 in
theorem prodHolds_any (g : Gm) (pv lv : Value) (sa : Option Addr) (m sc : Nat) (p : PdR) (rv : Value) (hx : ∀ x ∈ p.right, I64 x) (ht : 0 ≤ g.terms) (hn : 0 ≤ g.names) (w : World) (hr : IntsR w rv p.right) :
    Calls Tryz.prog 42 #[gv g pv lv (.slice sa m sc), pdv p rv] w fun e w' => e = .returned (.bool (pdB g.terms g.names m p)) ∧ Below w.heap.size w w' := by
  have hen : ∀ args w, (callFunc 64 args).run Tryz.prog w = .ok (.enter 64 args) w := enters_of Tryz.func64 (by kernel_rfl) rfl
  have hmf : ∀ (fn : Fn) (first cap : Array Value) (w : World), (Instr.makeFunc fn first cap).run Tryz.prog w = .ok (.func fn first cap) w := fun _ _ _ _ => rfl
  have hB0 := boxG_below w g pv lv (.slice sa m sc)
  have hB2 := boxG_box w g pv lv (.slice sa m sc)
  have hP0 := alloc_below (boxG w g pv lv (.slice sa m sc)) (.cells #[.int .i64 p.left, rv, .int .i64 p.level] 34)
  have hP1 := box3_cells (boxG w g pv lv (.slice sa m sc)) (.int .i64 p.left) rv (.int .i64 p.level) 34
  have hP2 := alloc_size (boxG w g pv lv (.slice sa m sc)) (.cells #[.int .i64 p.left, rv, .int .i64 p.level] 34)
  have hB1 := boxG_size w g pv lv (.slice sa m sc)
  have hBX := hB2.below hB2.lt hP0
  have hW := hB0.trans (hP0.mono (by omega))
  have HR : Hid (IntsR ((boxG w g pv lv (.slice sa m sc)).alloc (.cells #[.int .i64 p.left, rv, .int .i64 p.level] 34)) rv p.right) := hr.below hW
  obtain ⟨ra, rc, rfl⟩ := hr.slice
  clear hr hP0 hB2
  have HN : Hid (∀ w', Calls Tryz.prog 36 #[gv g pv lv (.slice sa m sc), .int .i64 p.left] w' fun e w'' => e = .returned (.bool (decide (0 ≤ p.left) && decide (p.left < g.names))) ∧ Below w'.heap.size w' w'') := fun w' => isName_any g pv lv _ _ w'
  have HL : Hid (∀ w', Calls Tryz.prog 39 #[gv g pv lv (.slice sa m sc), .int .i64 p.level] w' fun e w'' => e = .returned (.bool (lvlB m p.level)) ∧ Below w'.heap.size w' w'') := fun w' => isLevel_any g pv lv sa m sc _ w'
  have HC : Hid (∀ w', BoxG w' w.heap.size g pv lv (.slice sa m sc) → IntsR w' (.slice ra p.right.length rc) p.right → p.right.length ≤ 20 → Calls Tryz.prog 37 #[.slice ra p.right.length rc, .func (.func 64) #[] #[.pointer (some ⟨w.heap.size, 0, none⟩)]] w' fun e w'' => e = .returned (.bool (p.right.any fun x => !symB g.terms g.names x)) ∧ Below w'.heap.size w' w'') := fun w' hb hi hl =>
    containsI_any 64 hen _ _ (fun x => !symB g.terms g.names x) p.right w' (by omega) hi (fun w2 x hxm hb2 => prodC_any g pv lv _ _ x (hx x hxm) ht hn w2 (hb.below hb.lt hb2))
  have HE : Hid (pdB g.terms g.names m p = ((decide (0 ≤ p.left) && decide (p.left < g.names)) && (decide (p.right.length ≤ 20) && (lvlB m p.level && !(p.right.any fun x => !symB g.terms g.names x))))) := by
    show _ = _
    rw [not_any_not]
    unfold pdB lvlB
    cases decide (0 ≤ p.left) <;> cases decide (p.left < g.names) <;> cases decide (0 ≤ p.level) <;> cases decide (p.level ≤ (m : Int)) <;> cases decide (p.right.length ≤ 20) <;> rfl
  rw [HE.out]
  clear HE hx ht hn hen
  generalize (decide (0 ≤ p.left) && decide (p.left < g.names)) = b1 at *
  generalize lvlB m p.level = b2 at *
  generalize (p.right.any fun x => !symB g.terms g.names x) = b3 at *
  generalize hb4 : decide (p.right.length ≤ 20) = b4 at *
  have HB4 : Hid (decide (p.right.length ≤ 20) = b4) := hb4
  clear hb4
  obtain ⟨p0, p1, p2⟩ := hP1
  rw [hB1] at p0 p1 p2 hP2
  clear hB1
  have HBX : Hid (BoxG ((boxG w g pv lv (.slice sa m sc)).alloc (.cells #[.int .i64 p.left, .slice ra p.right.length rc, .int .i64 p.level] 34)) w.heap.size g pv lv (.slice sa m sc)) := hBX
  clear hBX
  obtain ⟨left, right, level⟩ := p
  obtain ⟨t, nm, s, ps, ls, ss⟩ := g
  unfold boxG at *
  unfold pdv
  unfold gv gvs at *
  simp only at *
  go_enter Tryz.func42, Tryz.ntmps42
  go_wp2_with fail
  generalize hw0 : (w.alloc (.cells #[.int .i64 t, .int .i64 nm, .int .i64 s, pv, lv, .slice sa m sc] 25)).alloc (.cells #[.int .i64 left, .slice ra right.length rc, .int .i64 level] 34) = w0 at *
  have HW0 : Hid ((w.alloc (.cells #[.int .i64 t, .int .i64 nm, .int .i64 s, pv, lv, .slice sa m sc] 25)).alloc (.cells #[.int .i64 left, .slice ra right.length rc, .int .i64 level] 34) = w0) := hw0
  clear hw0
  have hPl : w.heap.size + 1 < w0.heap.size := by omega
  have HP2 : Hid (w0.heap.size = w.heap.size + 1 + 1) := hP2
  clear hP2 hB0
  refine (HN.out _).mono ?_
  rintro e w1 ⟨rfl, hb1⟩
  have hW1 := hW.trans (hb1.mono hW.size)
  have hl1 : w.heap.size + 1 < w1.heap.size := Nat.lt_of_lt_of_le hPl hb1.size
  have a0 := (hb1.cell (p := ⟨w.heap.size + 1, 0, none⟩) hPl).trans p0
  have a1 := (hb1.cell (p := ⟨w.heap.size + 1, 1, none⟩) hPl).trans p1
  have a2 := (hb1.cell (p := ⟨w.heap.size + 1, 2, none⟩) hPl).trans p2
  have HB1 : Hid (BoxG w1 w.heap.size ⟨t, nm, s, ps, ls, ss⟩ pv lv (.slice sa m sc)) := HBX.out.below HBX.out.lt hb1
  obtain ⟨q0, q1, q2, q3, q4, q5, q6⟩ := HB1.out
  simp only at q0 q1 q2 q3 q4 q5 q6
  have HR1 : Hid (IntsR w1 (.slice ra right.length rc) right) := HR.out.below hb1
  cases b1 with
  | false =>
    go_wp2
    go_ret
    exact ⟨rfl, hW1⟩
  | true =>
    by_cases hlen : (right.length : Int) > 20
    · have HF4 : Hid (b4 = false) := by show _ = _; rw [← HB4.out]; exact decide_eq_false (by omega)
      go_wp2
      go_ret
      exact ⟨by rw [HF4.out]; rfl, hW1⟩
    · have HF4 : Hid (b4 = true) := by show _ = _; rw [← HB4.out]; exact decide_eq_true (by omega)
      have hl3 : right.length ≤ 20 := by omega
      have dl : decide ((right.length : Int) > 20) = false := decide_eq_false hlen
      clear hlen
      go_wp2_with fail
      refine (HL.out _).mono ?_
      rintro e w2 ⟨rfl, hb2⟩
      have hW2 := hW1.trans (hb2.mono hW1.size)
      have a0' := (hb2.cell (p := ⟨w.heap.size + 1, 0, none⟩) hl1).trans a0
      have a1' := (hb2.cell (p := ⟨w.heap.size + 1, 1, none⟩) hl1).trans a1
      have a2' := (hb2.cell (p := ⟨w.heap.size + 1, 2, none⟩) hl1).trans a2
      have hl2' : w.heap.size + 1 < w2.heap.size := Nat.lt_of_lt_of_le hl1 hb2.size
      have HB2 : Hid (BoxG w2 w.heap.size ⟨t, nm, s, ps, ls, ss⟩ pv lv (.slice sa m sc)) := HB1.out.below HB1.out.lt hb2
      have HR2 : Hid (IntsR w2 (.slice ra right.length rc) right) := HR1.out.below hb2
      clear q0 q1 q2 q3 q4 q5 q6 a0 a1 a2 p0 p1 p2
      obtain ⟨q0, q1, q2, q3, q4, q5, q6⟩ := HB2.out
      simp only at q0 q1 q2 q3 q4 q5 q6
      cases b2 with
      | false =>
        go_wp2
        go_ret
        exact ⟨by rw [HF4.out]; rfl, hW2⟩
      | true =>
        go_wp2_with fail
        refine (HC.out _ HB2.out HR2.out hl3).mono ?_
        rintro e w3 ⟨rfl, hb3⟩
        have hW3 := hW2.trans (hb3.mono hW2.size)
        go_wp2
        go_ret
        exact ⟨by rw [HF4.out]; rfl, hW3⟩

end Go.Proofs.YtkdoghaoijdedaaGreatDoor
