/- The document: the leaves of a tree. -/
import Derived.Test.YtbgklfmhmpjboaaDoorTTre
import Derived.Test.YtbgklfmhmpjboaaDoorGOkR
namespace Go.Proofs.YtbgklfmhmpjboaaDoor
open Go.RowKit
set_option linter.unusedVariables false
set_option maxRecDepth 100000

/-- what is asked of productions -/
structure PsOk (ps : List PdR) : Prop where
  len : ps.length ≤ 400
  left : ∀ p ∈ ps, 0 ≤ p.left ∧ p.left ≤ 300
  rlen : ∀ p ∈ ps, p.right.length ≤ 20
  syms : ∀ p ∈ ps, ∀ x ∈ p.right, -300 ≤ x ∧ x ≤ 300
theorem gok_ps (g : Gm) (h : gOkB g = true) : PsOk g.prods ∧ 0 ≤ g.start ∧ g.start ≤ 300 := by
  unfold gOkB at h
  simp only [Bool.and_eq_true, decide_eq_true_eq, List.all_eq_true] at h
  obtain ⟨hh, _, _, hp⟩ := h
  unfold HeadG at hh
  obtain ⟨h0, h1, h2, h3, h4, h5, h6, _⟩ := hh
  have hq : ∀ p ∈ g.prods, 0 ≤ p.left ∧ p.left ≤ 300 ∧ p.right.length ≤ 20 ∧ ∀ x ∈ p.right, -300 ≤ x ∧ x ≤ 300 := fun p hpm => by
    have := hp p hpm
    unfold pdB at this
    simp only [Bool.and_eq_true, decide_eq_true_eq, List.all_eq_true] at this
    obtain ⟨⟨⟨⟨⟨a, b⟩, c⟩, d⟩, e⟩, f⟩ := this
    refine ⟨a, by omega, e, fun x hx => ?_⟩
    have := f x hx
    unfold symB at this
    simp only [Bool.and_eq_true, decide_eq_true_eq] at this
    omega
  exact ⟨⟨h6, fun p hpm => ⟨(hq p hpm).1, (hq p hpm).2.1⟩, fun p hpm => (hq p hpm).2.2.1, fun p hpm => (hq p hpm).2.2.2⟩, h4, by omega⟩
theorem getD_memP (ps : List PdR) (k : Nat) (h : k < ps.length) : ps.getD k noPd ∈ ps := by
  rw [List.getD_eq_getElem?_getD, List.getElem?_eq_getElem h]
  exact List.getElem_mem h
theorem getD_memI (l : List Int) (k : Nat) (h : k < l.length) : l.getD k 0 ∈ l := by
  rw [List.getD_eq_getElem?_getD, List.getElem?_eq_getElem h]
  exact List.getElem_mem h
def lvI : Option Nat → Int
  | none => -1
  | some a => a
theorem runK_top (m : Nat) : ∀ (fs : List (Int → Nat → Option Nat)), (∀ f ∈ fs, ∀ s a b, a ≤ m → f s a = some b → b ≤ m) → ∀ (ss : List Int) (a b : Nat), a ≤ m → runK fs ss a = some b → b ≤ m
  | [], _, ss, a, b, ha, h => by simp [runK] at h; omega
  | f :: r, _, [], a, b, ha, h => by simp [runK] at h; omega
  | f :: r, hf, s :: ss, a, b, ha, h => by
    rw [runK] at h
    cases hq : f s a with
    | none => rw [hq] at h; cases h
    | some c =>
      rw [hq] at h
      exact runK_top m r (fun g hg => hf g (by simp [hg])) ss c b (hf f (by simp) s a c ha hq) h
theorem lvT_top (ps : List PdR) (inp : List Int) : ∀ (t : Tr) (s : Int) (a b : Nat), a ≤ inp.length → lvT ps inp t s a = some b → b ≤ inp.length := by
  refine Tr.ind ?_
  intro t ih s a b ha h
  rw [lvT_eq] at h
  split at h
  · cases h
  · split at h
    · split at h
      · rename_i hl
        cases h
        unfold leafB at hl
        simp at hl
        omega
      · cases h
    · split at h
      · refine runK_top inp.length _ (fun f hf => ?_) _ a b ha h
        obtain ⟨k, hk, rfl⟩ := List.mem_map.1 hf
        exact ih k hk
      · cases h
/-- one kid more -/
theorem runK_drop (fs : List (Int → Nat → Option Nat)) (ss : List Int) (k a : Nat) (f : Int → Nat → Option Nat) (hf : fs[k]? = some f) (hs : k < ss.length) : runK (fs.drop k) (ss.drop k) a = match f (ss.getD k 0) a with | none => none | some b => runK (fs.drop (k + 1)) (ss.drop (k + 1)) b := by
  obtain ⟨h1, h2⟩ := List.getElem?_eq_some_iff.1 hf
  rw [List.drop_eq_getElem_cons h1, List.drop_eq_getElem_cons hs, runK, h2]
  have e : ss.getD k 0 = ss[k] := by simp [hs]
  rw [e]
  cases f ss[k] a <;> rfl

set_option maxHeartbeats 4000000 in
theorem leaves_nil (g : Gm) (pv lv sv iv : Value) (s a : Int) (w : World) : Calls Tryd.prog 12 #[gv g pv lv sv, .pointer none, .int .i64 s, iv, .int .i64 a] w fun e w' => e = .returned (.int .i64 (-1)) ∧ Below w.heap.size w w' := by
  have hB0 := boxG_below w g pv lv sv
  obtain ⟨t, nm, st, ps, ls, ss⟩ := g
  unfold boxG at *
  unfold gv gvs at *
  simp only at *
  go_enter Tryd.func12, Tryd.ntmps12
  go_wp2
  go_ret
  exact ⟨rfl, hB0⟩

set_option maxHeartbeats 4000000 in
theorem leaves_leaf (g : Gm) (pv lv sv : Value) (inp : List Int) (iv : Value) (hin : inp.length ≤ 12) (p k : Int) (b n : Nat) (ka : Option Addr) (kc : Nat) (w : World) (hb : w.heap[b]? = some (.cells #[.int .i64 p, .int .i64 k, .slice ka n kc] 40 (0, 0))) (hi : IntsR w iv inp) (s : Int) (hs : 0 ≤ s) (a : Nat) (ha : a ≤ inp.length) :
    Calls Tryd.prog 12 #[gv g pv lv sv, .pointer (some ⟨b, 0, none⟩), .int .i64 s, iv, .int .i64 a] w fun e w' => e = .returned (.int .i64 (lvI (if leafB inp p k n s a then some (a + 1) else none))) ∧ Below w.heap.size w w' := by
  have hB0 := boxG_below w g pv lv sv
  have hlt := (Array.getElem?_eq_some_iff.1 hb).1
  have hbb := (hB0.block b hlt).trans hb
  have hi2 := hi.below hB0
  obtain ⟨ia, ic, rfl⟩ := hi.slice
  clear hi
  have HI : Hid (IntsR (boxG w g pv lv sv) (.slice ia inp.length ic) inp) := hi2
  clear hi2
  generalize hR : lvI (if leafB inp p k n s a then some (a + 1) else none) = R at *
  have HR : Hid (lvI (if leafB inp p k n s a then some (a + 1) else none) = R) := hR
  clear hR
  unfold leafB at HR
  obtain ⟨t, nm, st, ps, ls, ss⟩ := g
  unfold boxG at *
  unfold gv gvs at *
  simp only at *
  have c0 : (w.alloc (.cells #[.int .i64 t, .int .i64 nm, .int .i64 st, pv, lv, sv] 25)).cell? ⟨b, 0, none⟩ = some (.int .i64 p) := by simp [World.cell?, hbb]
  have c1 : (w.alloc (.cells #[.int .i64 t, .int .i64 nm, .int .i64 st, pv, lv, sv] 25)).cell? ⟨b, 1, none⟩ = some (.int .i64 k) := by simp [World.cell?, hbb]
  have c2 : (w.alloc (.cells #[.int .i64 t, .int .i64 nm, .int .i64 st, pv, lv, sv] 25)).cell? ⟨b, 2, none⟩ = some (.slice ka n kc) := by simp [World.cell?, hbb]
  have hbl : b < w.heap.size + 1 := by omega
  clear hbb hb
  have hsg : decide (s ≥ 0) = true := decide_eq_true hs
  by_cases h1 : p = -1
  case neg =>
    have d1 : (p != -1) = true := by rw [bne_iff_ne]; exact h1
    have HZ : Hid (R = -1) := by show _ = _; rw [← HR.out]; simp [h1, lvI]
    clear HR h1
    go_enter Tryd.func12, Tryd.ntmps12
    go_wp2
    go_ret
    exact ⟨by rw [HZ.out]; rfl, hB0⟩
  subst h1
  by_cases h2 : (n : Int) > 0
  · have d2 : decide ((n : Int) > 0) = true := decide_eq_true h2
    have HZ : Hid (R = -1) := by show _ = _; rw [← HR.out]; simp [show ¬ n = 0 by omega, lvI]
    clear HR
    go_enter Tryd.func12, Tryd.ntmps12
    go_wp2
    go_ret
    exact ⟨by rw [HZ.out]; rfl, hB0⟩
  have d2 : decide ((n : Int) > 0) = false := decide_eq_false h2
  obtain rfl : n = 0 := by omega
  by_cases h3 : k = (a : Int)
  case neg =>
    have d3 : (k != (a : Int)) = true := by rw [bne_iff_ne]; exact h3
    have HZ : Hid (R = -1) := by show _ = _; rw [← HR.out]; simp [h3, lvI]
    clear HR h3
    go_enter Tryd.func12, Tryd.ntmps12
    go_wp2
    go_ret
    exact ⟨by rw [HZ.out]; rfl, hB0⟩
  subst h3
  by_cases h4 : (a : Int) ≥ (inp.length : Int)
  · have d4 : decide ((a : Int) ≥ (inp.length : Int)) = true := decide_eq_true h4
    have HZ : Hid (R = -1) := by show _ = _; rw [← HR.out]; simp [show ¬ a < inp.length by omega, lvI]
    clear HR
    go_enter Tryd.func12, Tryd.ntmps12
    go_wp2
    go_ret
    exact ⟨by rw [HZ.out]; rfl, hB0⟩
  have d4 : decide ((a : Int) ≥ (inp.length : Int)) = false := decide_eq_false h4
  have hal : a < inp.length := by omega
  obtain ⟨ib, ioff, rfl, hib, hic⟩ := HI.out.at hal
  have hib2 : ib < w.heap.size + 1 := by simpa using hib
  clear hib
  generalize hx : inp.getD a 0 = x at *
  by_cases h5 : x = s
  case neg =>
    have d5 : (x != s) = true := by rw [bne_iff_ne]; exact h5
    have HZ : Hid (R = -1) := by show _ = _; rw [← HR.out]; simp [h5, lvI]
    clear HR h5 hx
    go_enter Tryd.func12, Tryd.ntmps12
    go_wp2
    go_ret
    exact ⟨by rw [HZ.out]; rfl, hB0⟩
  subst h5
  have HZ : Hid (R = (a : Int) + 1) := by show _ = _; rw [← HR.out]; simp [hal, lvI]
  clear HR hx
  go_enter Tryd.func12, Tryd.ntmps12
  go_wp2
  go_ret
  exact ⟨by rw [HZ.out]; rfl, hB0⟩

end Go.Proofs.YtbgklfmhmpjboaaDoor
