/- Costs in memory; the program's tests. -/
import Derived.Test.YtnakafgbalkciaaCPur
import Derived.Test.YtnakafgbalkciaaGRow
namespace Go.Proofs.Ytnakafgbalkciaa
open Go.RowKit
set_option linter.unusedVariables false
set_option maxRecDepth 100000

/-- costs, boxed -/
def boxC (w : World) (pv lv : Value) : World := w.alloc (.cells #[pv, lv] 24)
structure BoxC (w : World) (B : Nat) (pv lv : Value) : Prop where
  lt : B < w.heap.size
  c0 : w.cell? ⟨B, 0, none⟩ = some pv
  c1 : w.cell? ⟨B, 1, none⟩ = some lv
theorem boxC_size (w : World) (pv lv : Value) : (boxC w pv lv).heap.size = w.heap.size + 1 := Array.size_push ..
theorem boxC_below (w : World) (pv lv : Value) : Below w.heap.size w (boxC w pv lv) := alloc_below _ _
theorem boxC_box (w : World) (pv lv : Value) : BoxC (boxC w pv lv) w.heap.size pv lv := by
  have h : (boxC w pv lv).heap[w.heap.size]? = some (.cells #[pv, lv] 24) := by
    show (w.heap.push _)[w.heap.size]? = _
    exact Array.getElem?_push_size
  refine ⟨by rw [boxC_size]; omega, ?_, ?_⟩ <;> · simp only [World.cell?, h]; rfl
theorem BoxC.below {w w' : World} {B : Nat} {pv lv : Value} (h : BoxC w B pv lv) {K : Nat} (hB : B < K) (hb : Below K w w') : BoxC w' B pv lv :=
  ⟨Nat.lt_of_lt_of_le h.lt hb.size, (hb.cell (p := ⟨B, 0, none⟩) hB).trans h.c0, (hb.cell (p := ⟨B, 1, none⟩) hB).trans h.c1⟩

set_option maxHeartbeats 1000000 in
theorem few_any (pa la : Option Addr) (m n pc lc : Nat) (w : World) :
    Calls Try.prog 4 #[.agg #[.slice pa m pc, .slice la n lc]] w fun e w' => e = .returned (.bool (decide (m ≤ 10) && decide (n ≤ 10))) ∧ Below w.heap.size w w' := by
  have hB0 := boxC_below w (.slice pa m pc) (.slice la n lc)
  unfold boxC at hB0
  by_cases h1 : (m : Int) ≤ 10
  · have e1 : (decide (m ≤ 10) && decide (n ≤ 10)) = decide ((n : Int) ≤ 10) := by rw [decide_eq_true (show m ≤ 10 by omega), Bool.true_and, decide_eq_decide]; omega
    rw [e1]
    go_enter Try.func4, Try.ntmps4
    go_wp2
    go_ret
    exact ⟨by simp, hB0⟩
  · have e1 : (decide (m ≤ 10) && decide (n ≤ 10)) = false := by rw [decide_eq_false (show ¬ m ≤ 10 by omega)]; rfl
    have d1 : decide ((m : Int) ≤ 10) = false := decide_eq_false h1
    rw [e1]
    go_enter Try.func4, Try.ntmps4
    go_wp2
    go_ret
    exact ⟨by simp, hB0⟩

def wrongC (z : Int) : Bool := decide (z < 1) || decide (z > 1000)
set_option maxHeartbeats 1000000 in
theorem wrong_any (z : Int) (w : World) : Calls Try.prog 14 #[.int .i64 z] w fun e w' => e = .returned (.bool (wrongC z)) ∧ Below w.heap.size w w' := by
  unfold wrongC
  by_cases h1 : z < 1
  · have d1 : decide (z < 1) = true := decide_eq_true h1
    rw [d1, Bool.true_or]
    go_enter Try.func14, Try.ntmps14
    go_wp2
    go_ret
    exact ⟨rfl, Below.refl _ _⟩
  · have d1 : decide (z < 1) = false := decide_eq_false h1
    rw [d1, Bool.false_or]
    go_enter Try.func14, Try.ntmps14
    go_wp2
    go_ret
    exact ⟨rfl, Below.refl _ _⟩

def noTerm (n z : Int) : Bool := decide (z < 0) || decide (z ≥ n)
set_option maxHeartbeats 1000000 in
theorem termC_any (B : Nat) (n z : Int) (w : World) (hlt : B < w.heap.size) (hc : w.cell? ⟨B, 0, none⟩ = some (.int .i64 n)) : Calls Try.prog 18 #[.int .i64 z, .pointer (some ⟨B, 0, none⟩)] w fun e w' => e = .returned (.bool (noTerm n z)) ∧ Below w.heap.size w w' := by
  unfold noTerm
  by_cases h1 : z < 0
  · have d1 : decide (z < 0) = true := decide_eq_true h1
    rw [d1, Bool.true_or]
    go_enter Try.func18, Try.ntmps18
    go_wp2
    go_ret
    exact ⟨rfl, Below.refl _ _⟩
  · have d1 : decide (z < 0) = false := decide_eq_false h1
    rw [d1, Bool.false_or]
    go_enter Try.func18, Try.ntmps18
    go_wp2
    go_ret
    exact ⟨rfl, Below.refl _ _⟩

/-- a function value that tells of a number, by what it has kept -/
def TellsC (w : World) (F : Nat) (cap : Array Value) (f : Int → Bool) (l : List Int) : Prop :=
  ∀ (w' : World) (x : Int), x ∈ l → Below w.heap.size w w' → Calls Try.prog F (#[.int .i64 x] ++ cap) w' fun e w'' => e = .returned (.bool (f x)) ∧ Below w'.heap.size w' w''

set_option maxHeartbeats 2000000 in
theorem idx0_any (F : Nat) (hen : ∀ args w, (callFunc F args).run Try.prog w = .ok (.enter F args) w) (v : Value) (f : Int → Bool) (l : List Int) (w : World) (hl : l.length ≤ 1000) (hv : IntsR w v l) (hf : TellsC w F #[] f l) :
    Calls Try.prog 17 #[v, .func (.func F) #[] #[]] w fun e w' => ∃ z, e = .returned (.int .i64 z) ∧ decide (z ≥ 0) = l.any f ∧ Below w.heap.size w w' := by
  obtain ⟨a, c, rfl⟩ := hv.slice
  have HV : Hid (IntsR w (.slice a l.length c) l) := hv
  have HF : Hid (TellsC w F #[] f l) := hf
  clear hv hf
  go_enter Try.func17, Try.ntmps17
  go_wp2
  go_loopw [8] (fun i wr => ∃ k : Nat, k ≤ l.length ∧ i = .int .i64 k ∧ Hid (l.any f = (l.drop k).any f) ∧ Below w.heap.size w wr) (fun i _ => l.length - (intOf i).toNat)
  case atStart => exact ⟨0, Nat.zero_le _, rfl, (by show _ = _; rw [List.drop_zero]), Below.refl _ _⟩
  case round =>
    obtain ⟨k, hk, rfl, HM, hbw⟩ := hrel
    by_cases hlt : k < l.length
    · obtain ⟨b, off, rfl, hb, hc⟩ := (HV.out.below hbw).at hlt
      have HA : Hid ((l.drop k).any f = (f (l.getD k 0) || (l.drop (k + 1)).any f)) := by
        show _ = _
        rw [List.drop_eq_getElem_cons hlt, List.any_cons]
        simp [List.getD, hlt]
      have hC := HF.out wr (l.getD k 0) (by simp [List.getD, hlt]) hbw
      generalize l.getD k 0 = x at *
      simp only [Array.append_empty] at hC
      go_wp2_with fail
      refine hC.mono ?_
      rintro e w2 ⟨rfl, hb2⟩
      have hbw2 := hbw.trans (hb2.mono hbw.size)
      clear hC hb2
      by_cases hfx : f x = true
      · rw [hfx]
        have HZ : Hid (decide ((k : Int) ≥ 0) = l.any f) := by show _ = _; rw [HM.out, HA.out, hfx]; simp
        go_wp2
        go_ret
        exact ⟨_, rfl, HZ.out, hbw2⟩
      · have hfx2 : f x = false := by simpa using hfx
        rw [hfx2]
        have HZ : Hid (l.any f = (l.drop (k + 1)).any f) := by show _ = _; rw [HM.out, HA.out, hfx2, Bool.false_or]
        clear hfx
        go_wp2
        go_roundw
        case rel => exact ⟨k + 1, by omega, by go_num, HZ, hbw2⟩
        case measure => simp [intOf]; omega
    · have HZ : Hid (decide ((-1 : Int) ≥ 0) = l.any f) := by
        show _ = _; rw [HM.out, List.drop_eq_nil_of_le (by omega)]; rfl
      go_wp2
      go_ret
      exact ⟨_, rfl, HZ.out, hbw⟩

set_option maxHeartbeats 2000000 in
theorem idx1_any (F : Nat) (hen : ∀ args w, (callFunc F args).run Try.prog w = .ok (.enter F args) w) (cap v : Value) (f : Int → Bool) (l : List Int) (w : World) (hl : l.length ≤ 1000) (hv : IntsR w v l) (hf : TellsC w F #[cap] f l) :
    Calls Try.prog 17 #[v, .func (.func F) #[] #[cap]] w fun e w' => ∃ z, e = .returned (.int .i64 z) ∧ decide (z ≥ 0) = l.any f ∧ Below w.heap.size w w' := by
  obtain ⟨a, c, rfl⟩ := hv.slice
  have HV : Hid (IntsR w (.slice a l.length c) l) := hv
  have HF : Hid (TellsC w F #[cap] f l) := hf
  clear hv hf
  go_enter Try.func17, Try.ntmps17
  go_wp2
  go_loopw [8] (fun i wr => ∃ k : Nat, k ≤ l.length ∧ i = .int .i64 k ∧ Hid (l.any f = (l.drop k).any f) ∧ Below w.heap.size w wr) (fun i _ => l.length - (intOf i).toNat)
  case atStart => exact ⟨0, Nat.zero_le _, rfl, (by show _ = _; rw [List.drop_zero]), Below.refl _ _⟩
  case round =>
    obtain ⟨k, hk, rfl, HM, hbw⟩ := hrel
    by_cases hlt : k < l.length
    · obtain ⟨b, off, rfl, hb, hc⟩ := (HV.out.below hbw).at hlt
      have HA : Hid ((l.drop k).any f = (f (l.getD k 0) || (l.drop (k + 1)).any f)) := by
        show _ = _
        rw [List.drop_eq_getElem_cons hlt, List.any_cons]
        simp [List.getD, hlt]
      have hC := HF.out wr (l.getD k 0) (by simp [List.getD, hlt]) hbw
      generalize l.getD k 0 = x at *
      have e9 : (#[.int .i64 x] ++ #[cap] : Array Value) = #[.int .i64 x, cap] := rfl
      rw [e9] at hC
      clear e9
      go_wp2_with fail
      refine hC.mono ?_
      rintro e w2 ⟨rfl, hb2⟩
      have hbw2 := hbw.trans (hb2.mono hbw.size)
      clear hC hb2
      by_cases hfx : f x = true
      · rw [hfx]
        have HZ : Hid (decide ((k : Int) ≥ 0) = l.any f) := by show _ = _; rw [HM.out, HA.out, hfx]; simp
        go_wp2
        go_ret
        exact ⟨_, rfl, HZ.out, hbw2⟩
      · have hfx2 : f x = false := by simpa using hfx
        rw [hfx2]
        have HZ : Hid (l.any f = (l.drop (k + 1)).any f) := by show _ = _; rw [HM.out, HA.out, hfx2, Bool.false_or]
        clear hfx
        go_wp2
        go_roundw
        case rel => exact ⟨k + 1, by omega, by go_num, HZ, hbw2⟩
        case measure => simp [intOf]; omega
    · have HZ : Hid (decide ((-1 : Int) ≥ 0) = l.any f) := by
        show _ = _; rw [HM.out, List.drop_eq_nil_of_le (by omega)]; rfl
      go_wp2
      go_ret
      exact ⟨_, rfl, HZ.out, hbw⟩

set_option maxHeartbeats 2000000 in
theorem con0_any (F : Nat) (hen : ∀ args w, (callFunc F args).run Try.prog w = .ok (.enter F args) w) (v : Value) (f : Int → Bool) (l : List Int) (w : World) (hl : l.length ≤ 1000) (hv : IntsR w v l) (hf : TellsC w F #[] f l) :
    Calls Try.prog 13 #[v, .func (.func F) #[] #[]] w fun e w' => e = .returned (.bool (l.any f)) ∧ Below w.heap.size w w' := by
  have hC := idx0_any F hen v f l w hl hv hf
  obtain ⟨a, c, rfl⟩ := hv.slice
  clear hv hf
  go_enter Try.func13, Try.ntmps13
  go_wp2_with fail
  refine hC.mono ?_
  rintro e w2 ⟨z, rfl, hz, hb2⟩
  have HZ : Hid (decide (z ≥ 0) = l.any f) := hz
  clear hz
  go_wp2
  go_ret
  exact ⟨by rw [← HZ.out]; rfl, hb2⟩
set_option maxHeartbeats 2000000 in
theorem con1_any (F : Nat) (hen : ∀ args w, (callFunc F args).run Try.prog w = .ok (.enter F args) w) (cap v : Value) (f : Int → Bool) (l : List Int) (w : World) (hl : l.length ≤ 1000) (hv : IntsR w v l) (hf : TellsC w F #[cap] f l) :
    Calls Try.prog 13 #[v, .func (.func F) #[] #[cap]] w fun e w' => e = .returned (.bool (l.any f)) ∧ Below w.heap.size w w' := by
  have hC := idx1_any F hen cap v f l w hl hv hf
  obtain ⟨a, c, rfl⟩ := hv.slice
  clear hv hf
  go_enter Try.func13, Try.ntmps13
  go_wp2_with fail
  refine hC.mono ?_
  rintro e w2 ⟨z, rfl, hz, hb2⟩
  have HZ : Hid (decide (z ≥ 0) = l.any f) := hz
  clear hz
  go_wp2
  go_ret
  exact ⟨by rw [← HZ.out]; rfl, hb2⟩

end Go.Proofs.Ytnakafgbalkciaa
