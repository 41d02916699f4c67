/- Costs: the program's tests of costs and lists. -/
import Derived.Test.YtnakafgbalkciaaCMem
import Derived.Shelf.Abstract
namespace Go.Proofs.Ytnakafgbalkciaa
open Go.RowKit
set_option linter.unusedVariables false
set_option maxRecDepth 100000

theorem any_wrong (l : List Int) : l.any wrongC = !costsB l := by
  rw [Bool.eq_iff_iff]
  unfold costsB wrongC
  simp only [List.any_eq_true, Bool.not_eq_true', List.all_eq_false]
  constructor
  · rintro ⟨z, h1, h2⟩; exact ⟨z, h1, by simp at h2 ⊢; omega⟩
  · rintro ⟨z, h1, h2⟩; exact ⟨z, h1, by simp at h2 ⊢; omega⟩
theorem any_noTerm (n : Nat) (l : List Int) : l.any (noTerm n) = !insB n l := by
  rw [Bool.eq_iff_iff]
  unfold insB noTerm
  simp only [List.any_eq_true, Bool.not_eq_true', List.all_eq_false]
  constructor
  · rintro ⟨z, h1, h2⟩; exact ⟨z, h1, by simp at h2 ⊢; omega⟩
  · rintro ⟨z, h1, h2⟩; exact ⟨z, h1, by simp at h2 ⊢; omega⟩

set_option maxHeartbeats 2000000 in
theorem holds_any (put leave : List Int) (pv lv : Value) (w : World) (hp1 : put.length ≤ 10) (hl1 : leave.length ≤ 10) (hp : IntsR w pv put) (hl : IntsR w lv leave) :
    Calls Try.prog 7 #[.agg #[pv, lv]] w fun e w' => e = .returned (.bool (costsB put && costsB leave)) ∧ Below w.heap.size w w' := by
  have hB0 := boxC_below w pv lv
  have hB2 := boxC_box w pv lv
  have hen : ∀ args w, (callFunc 14 args).run Try.prog w = .ok (.enter 14 args) w := enters_of Try.func14 (by kernel_rfl) rfl
  have hT : ∀ (w : World) (l : List Int), TellsC w 14 #[] wrongC l := fun w l w' x _ _ => wrong_any x w'
  have hC1 := con0_any 14 hen pv wrongC put _ (by omega) (hp.below hB0) (hT (boxC w pv lv) put)
  have HC2 : Hid (∀ w1, Below (boxC w pv lv).heap.size (boxC w pv lv) w1 → Calls Try.prog 13 #[lv, .func (.func 14) #[] #[]] w1 fun e w' => e = .returned (.bool (leave.any wrongC)) ∧ Below w1.heap.size w1 w') := fun w1 h1 => con0_any 14 hen lv wrongC leave w1 (by omega) ((hl.below hB0).below h1) (hT w1 leave)
  have HBX : Hid (BoxC (boxC w pv lv) w.heap.size pv lv) := hB2
  have HBZ : Hid ((boxC w pv lv).heap.size = w.heap.size + 1) := boxC_size w pv lv
  obtain ⟨q0, q1, q2⟩ := hB2
  clear hT
  obtain ⟨pa, pc, rfl⟩ := hp.slice
  obtain ⟨la, lc, rfl⟩ := hl.slice
  clear hp hl
  rw [any_wrong] at hC1 HC2
  unfold boxC at *
  generalize costsB put = b1 at *
  generalize costsB leave = b2 at *
  cases b1
  · go_enter Try.func7, Try.ntmps7
    go_wp2_with fail
    refine hC1.mono ?_
    rintro e w2 ⟨rfl, hb2⟩
    have hbb := hB0.trans (hb2.mono (by rw [HBZ.out]; omega))
    clear hb2 hC1
    go_wp2
    go_ret
    exact ⟨rfl, hbb⟩
  · go_enter Try.func7, Try.ntmps7
    go_wp2_with fail
    refine hC1.mono ?_
    rintro e w2 ⟨rfl, hb2⟩
    have hC2 := HC2.out w2 hb2
    have hbb := hB0.trans (hb2.mono (by rw [HBZ.out]; omega))
    obtain ⟨r0, r1, r2⟩ := HBX.out.below (K := w.heap.size + 1) (by omega) (hb2.mono (by rw [HBZ.out]; exact Nat.le_refl _))
    clear hb2 hC1 q0 q1 q2 hB0
    go_wp2_with fail
    refine hC2.mono ?_
    rintro e w3 ⟨rfl, hb3⟩
    have hbb2 := hbb.trans (hb3.mono hbb.size)
    clear hC2 hb3 hbb
    go_wp2
    go_ret
    exact ⟨by simp, hbb2⟩

set_option maxHeartbeats 2000000 in
theorem areTerms_any (l : List Int) (v : Value) (n : Nat) (w : World) (hn : n ≤ 1000) (hll : l.length ≤ 1000) (hv : IntsR w v l) :
    Calls Try.prog 15 #[v, .int .i64 n] w fun e w' => e = .returned (.bool (insB n l)) ∧ Below w.heap.size w w' := by
  have hen : ∀ args w, (callFunc 18 args).run Try.prog w = .ok (.enter 18 args) w := enters_of Try.func18 (by kernel_rfl) rfl
  have hB0 := alloc_below w (.cells #[.int .i64 n] 3)
  have hsz := alloc_size w (.cells #[.int .i64 n] 3)
  have hcell : (w.alloc (.cells #[.int .i64 n] 3)).cell? ⟨w.heap.size, 0, none⟩ = some (.int .i64 n) := by
    have h : (w.alloc (.cells #[.int .i64 n] 3)).heap[w.heap.size]? = some (.cells #[.int .i64 n] 3) := by
      show (w.heap.push _)[w.heap.size]? = _
      exact Array.getElem?_push_size
    simp only [World.cell?, h]; rfl
  have hT : TellsC (w.alloc (.cells #[.int .i64 n] 3)) 18 #[.pointer (some ⟨w.heap.size, 0, none⟩)] (noTerm n) l := fun w' x _ hb => termC_any w.heap.size n x w' (Nat.lt_of_lt_of_le (by rw [hsz]; omega) hb.size) ((hb.cell (p := ⟨w.heap.size, 0, none⟩) (by rw [hsz]; show w.heap.size < w.heap.size + 1; omega)).trans hcell)
  have hC := con1_any 18 hen _ v (noTerm n) l _ hll (hv.below hB0) hT
  have HBZ : Hid ((w.alloc (.cells #[.int .i64 n] 3)).heap.size = w.heap.size + 1) := hsz
  obtain ⟨a, c, rfl⟩ := hv.slice
  clear hT hv hcell hsz
  rw [any_noTerm] at hC
  go_enter Try.func15, Try.ntmps15
  go_wp2_with fail
  refine hC.mono ?_
  rintro e w2 ⟨rfl, hb2⟩
  have hbb := hB0.trans (hb2.mono (by rw [HBZ.out]; omega))
  clear hb2 hC hB0
  go_wp2
  go_ret
  exact ⟨by simp, hbb⟩

set_option maxHeartbeats 2000000 in
theorem mendable_any (l : List Int) (v : Value) (n : Nat) (w : World) (hn : n ≤ 1000) (hll : l.length ≤ 1000) (hv : IntsR w v l) :
    Calls Try.prog 8 #[v, .int .i64 n] w fun e w' => e = .returned (.bool (insB n l)) ∧ Below w.heap.size w w' := by
  have hC := areTerms_any l v n w hn hll hv
  obtain ⟨a, c, rfl⟩ := hv.slice
  clear hv
  have d1 : decide ((l.length : Int) ≤ 1000) = true := decide_eq_true (by omega)
  generalize insB n l = bb at *
  go_enter Try.func8, Try.ntmps8
  go_wp2_with fail
  refine hC.mono ?_
  rintro e w2 ⟨rfl, hb2⟩
  clear hC
  go_wp2
  go_ret
  exact ⟨by simp, hb2⟩

end Go.Proofs.Ytnakafgbalkciaa
