/- The program: is a tree the next leaf. -/
import Derived.Test.YtbgklfmhmpjboaaDoorTWlk
namespace Go.Proofs.YtbgklfmhmpjboaaDoor
open Go.RowKit
set_option linter.unusedVariables false
set_option maxRecDepth 100000

set_option maxHeartbeats 4000000 in
theorem isLeaf_nil (W : Nat) (s : Int) (w : World) : Calls Tryd.prog 31 #[.pointer (some ⟨W, 0, none⟩), .pointer none, .int .i64 s] w fun e w' => e = .returned (.bool false) ∧ Below w.heap.size w w' := by
  have hb0 := Below.refl w.heap.size w
  go_enter Tryd.func31, Tryd.ntmps31
  go_wp2_with fail
  go_quiet (fail)
  go_wp2
  go_ret
  exact ⟨rfl, below_drewG hb0 _⟩

/-- the walk with another place -/
theorem WkM.setAt {w : World} {W M : Nat} {g : Gm} {pv lv sv iv : Value} {a : Nat} {K : List Nat} (h : WkM w W M g pv lv sv iv a K) (a' : Nat) : WkM (w.setCell ⟨W, 7, none⟩ (.int .i64 a')) W M g pv lv sv iv a' K ∧ w.grownBy (w.setCell ⟨W, 7, none⟩ (.int .i64 a')) (some W) := by
  have hbl : (w.setCell ⟨W, 7, none⟩ (.int .i64 a')).heap[W]? = some (.cells #[.int .i64 g.terms, .int .i64 g.names, .int .i64 g.start, pv, lv, sv, iv, .int .i64 a', .map (some M)] 47 (0, 0)) := by
    simp [World.setCell, Array.getElem?_modify, h.blk]
  have hot : ∀ b, b ≠ W → (w.setCell ⟨W, 7, none⟩ (.int .i64 a')).heap[b]? = w.heap[b]? := fun b hb => Below.heap_setCell _ _ _ _ (by simpa using hb)
  exact ⟨⟨hbl, h.map.block (hot M (Ne.symm h.ne))⟩, ⟨rfl, rfl, rfl, by simp, fun k _ hk => hot k (fun e => hk (by rw [e]))⟩⟩

set_option maxHeartbeats 8000000 in
theorem isLeaf_any (W M : Nat) (g : Gm) (pv lv sv : Value) (ia : Option Addr) (ic : Nat) (inp : List Int) (hin : inp.length ≤ 12) (a : Nat) (K : List Nat) (p k : Int) (b n : Nat) (hn : n ≤ 1000000000000000) (ka : Option Addr) (kc : Nat) (s : Int) (w : World) (hM : WkM w W M g pv lv sv (.slice ia inp.length ic) a K) (hb : w.heap[b]? = some (.cells #[.int .i64 p, .int .i64 k, .slice ka n kc] 40 (0, 0))) (hI : IntsR w (.slice ia inp.length ic) inp) (ha : a ≤ inp.length) :
    Calls Tryd.prog 31 #[.pointer (some ⟨W, 0, none⟩), .pointer (some ⟨b, 0, none⟩), .int .i64 s] w fun e w' => (leafB inp p k n s a = false ∧ e = .returned (.bool false) ∧ Below w.heap.size w w') ∨ (leafB inp p k n s a = true ∧ e = .returned (.bool true) ∧ WkM w' W M g pv lv sv (.slice ia inp.length ic) (a + 1) K ∧ w.grownBy w' (some W)) := by
  have hlt := (Array.getElem?_eq_some_iff.1 hb).1
  have hb0 := Below.refl w.heap.size w
  have c0 : w.cell? ⟨b, 0, none⟩ = some (.int .i64 p) := by simp [World.cell?, hb]
  have c1 : w.cell? ⟨b, 1, none⟩ = some (.int .i64 k) := by simp [World.cell?, hb]
  have c2 : w.cell? ⟨b, 2, none⟩ = some (.slice ka n kc) := by simp [World.cell?, hb]
  obtain ⟨_, m6, m7, _⟩ := hM.cells
  have hW := hM.lt
  have HI : Hid (IntsR w (.slice ia inp.length ic) inp) := hI
  have HM : Hid (WkM w W M g pv lv sv (.slice ia inp.length ic) a K) := hM
  clear hb hI hM
  generalize hR : leafB inp p k n s a = R at *
  have HR : Hid (leafB inp p k n s a = R) := hR
  clear hR
  unfold leafB at HR
  by_cases h1 : p = -1
  case neg =>
    have d1 : (p != -1) = true := by rw [bne_iff_ne]; exact h1
    have HZ : Hid (R = false) := by show _ = _; rw [← HR.out, decide_eq_false (p := p = -1) h1]; simp
    clear HR h1
    go_enter Tryd.func31, Tryd.ntmps31
    go_wp2_with fail
    go_quiet (fail)
    go_wp2
    go_ret
    exact .inl ⟨HZ.out, rfl, below_drewG hb0 _⟩
  subst h1
  by_cases h2 : (n : Int) > 0
  · have d2 : 0 < n := by omega
    have d2' : decide (0 < n) = true := decide_eq_true d2
    have HZ : Hid (R = false) := by show _ = _; rw [← HR.out, decide_eq_false (p := n = 0) (by omega)]; simp
    clear HR
    go_enter Tryd.func31, Tryd.ntmps31
    go_wp2_with fail
    go_quiet (fail)
    go_wp2
    go_ret
    exact .inl ⟨HZ.out, rfl, below_drewG hb0 _⟩
  obtain rfl : n = 0 := by omega
  clear h2
  by_cases h3 : k = (a : Int)
  case neg =>
    have d3 : (k != (a : Int)) = true := by rw [bne_iff_ne]; exact h3
    have HZ : Hid (R = false) := by show _ = _; rw [← HR.out, decide_eq_false (p := k = (a : Int)) h3]; simp
    clear HR h3
    go_enter Tryd.func31, Tryd.ntmps31
    go_wp2_with fail
    go_quiet (fail)
    go_wp2
    go_ret
    exact .inl ⟨HZ.out, rfl, below_drewG hb0 _⟩
  subst h3
  by_cases h4 : (a : Int) = (inp.length : Int)
  · have d4 : ((a : Int) == (inp.length : Int)) = true := by rw [beq_iff_eq]; exact h4
    have HZ : Hid (R = false) := by show _ = _; rw [← HR.out, decide_eq_false (p := a < inp.length) (by omega)]; simp
    clear HR h4
    go_enter Tryd.func31, Tryd.ntmps31
    go_wp2_with fail
    go_quiet (fail)
    have e7 : (w.drewN nq).cell? ⟨W, 7, none⟩ = some (.int .i64 a) := m7
    have e6 : (w.drewN nq).cell? ⟨W, 6, none⟩ = some (.slice ia inp.length ic) := m6
    have hWn : W < (w.drewN nq).heap.size := hW
    have hbn : Below w.heap.size w (w.drewN nq) := below_drewG hb0 _
    clear m6 m7 c0 c1 c2
    generalize w.drewN nq = w1 at *
    go_wp2_with fail
    go_quiet (fail)
    go_wp2
    go_ret
    exact .inl ⟨HZ.out, rfl, below_drewG hbn _⟩
  have d4 : ((a : Int) == (inp.length : Int)) = false := by rw [beq_eq_false_iff_ne]; exact h4
  have hal : a < inp.length := by omega
  clear h4
  obtain ⟨ib, ioff, rfl, hib, hic⟩ := HI.out.at hal
  generalize hx : inp.getD a 0 = x at *
  clear hx
  by_cases h5 : x = s
  case neg =>
    have d5 : (x != s) = true := by rw [bne_iff_ne]; exact h5
    have HZ : Hid (R = false) := by show _ = _; rw [← HR.out, decide_eq_false (p := x = s) h5]; simp
    clear HR h5
    go_enter Tryd.func31, Tryd.ntmps31
    go_wp2_with fail
    go_quiet (fail)
    have e7 : (w.drewN nq).cell? ⟨W, 7, none⟩ = some (.int .i64 a) := m7
    have e6 : (w.drewN nq).cell? ⟨W, 6, none⟩ = some (.slice (some ⟨ib, ioff, none⟩) inp.length ic) := m6
    have e5 : (w.drewN nq).cell? ⟨ib, ioff + a, none⟩ = some (.int .i64 x) := hic
    have hWn : W < (w.drewN nq).heap.size := hW
    have hin2 : ib < (w.drewN nq).heap.size := hib
    have hbn : Below w.heap.size w (w.drewN nq) := below_drewG hb0 _
    clear m6 m7 c0 c1 c2 hic
    generalize w.drewN nq = w1 at *
    go_wp2_with fail
    go_quiet (fail)
    go_wp2
    go_ret
    exact .inl ⟨HZ.out, rfl, below_drewG hbn _⟩
  subst h5
  have HZ : Hid (R = true) := by show _ = _; rw [← HR.out]; simp [hal]
  clear HR
  go_enter Tryd.func31, Tryd.ntmps31
  go_wp2_with fail
  go_quiet (fail)
  have e7 : (w.drewN nq).cell? ⟨W, 7, none⟩ = some (.int .i64 a) := m7
  have e6 : (w.drewN nq).cell? ⟨W, 6, none⟩ = some (.slice (some ⟨ib, ioff, none⟩) inp.length ic) := m6
  have e5 : (w.drewN nq).cell? ⟨ib, ioff + a, none⟩ = some (.int .i64 x) := hic
  have hWn : W < (w.drewN nq).heap.size := hW
  have hin2 : ib < (w.drewN nq).heap.size := hib
  have hbn : Below w.heap.size w (w.drewN nq) := below_drewG hb0 _
  have HG1 : Hid (w.grownBy (w.drewN nq) (some W)) := ⟨rfl, rfl, rfl, Nat.le_refl _, fun _ _ _ => rfl⟩
  clear m6 m7 c0 c1 c2 hic
  generalize w.drewN nq = w1 at *
  go_wp2_with fail
  go_quiet (fail)
  have HM1 : Hid (WkM (w1.drewN nq) W M g pv lv sv (.slice (some ⟨ib, ioff, none⟩) inp.length ic) a K) := (HM.out.below hbn).below (below_drewG (Below.refl _ _) _)
  have HG2 : Hid (∀ x, w.grownBy ((w1.drewN nq).setCell ⟨W, 7, none⟩ x) (some W)) := fun x => by
    have hs : ((w1.drewN nq).setCell ⟨W, 7, none⟩ x).heap.size = w1.heap.size := by simp
    refine ⟨HG1.out.os, by simpa using HG1.out.tape, HG1.out.output, by rw [hs]; exact HG1.out.size, fun k hk hne => ?_⟩
    rw [Below.heap_setCell _ _ _ _ (fun e => hne (congrArg some e)) ]
    exact HG1.out.block k hk hne
  have u7 : (w1.drewN nq).cell? ⟨W, 7, none⟩ = some (.int .i64 a) := e7
  have ub : (w1.drewN nq).heap[W]? = _ := HM1.out.blk
  have uf : (w1.drewN nq).frozen? ⟨W, 7, none⟩ = false := by
    unfold World.frozen?
    rw [show (w1.drewN nq).heap[(⟨W, 7, none⟩ : Addr).block]? = _ from ub]
    rfl
  clear ub
  have hWn2 : W < (w1.drewN nq).heap.size := hWn
  clear e5 e6 e7 hbn HM
  generalize w1.drewN nq = w2 at *
  have hfin := (HM1.out.setAt (a + 1)).1
  have hw1 : IntKind.i64.wrap ((a : Int) + 1) = ((a + 1 : Nat) : Int) := by rw [IntKind.wrap_i64]; omega
  have HF : Hid (WkM (w2.setCell ⟨W, 7, none⟩ (.int .i64 ((a + 1 : Nat) : Int))) W M g pv lv sv (.slice (some ⟨ib, ioff, none⟩) inp.length ic) (a + 1) K) := hfin
  clear hfin HM1
  have hg2 := HG2.out (.int .i64 ((a + 1 : Nat) : Int))
  have HG3 : Hid (w.grownBy (w2.setCell ⟨W, 7, none⟩ (.int .i64 ((a + 1 : Nat) : Int))) (some W)) := hg2
  clear hg2 HG2
  generalize ((a + 1 : Nat) : Int) = a1 at *
  go_wp2
  go_ret
  exact .inr ⟨HZ.out, rfl, HF.out, HG3.out⟩

end Go.Proofs.YtbgklfmhmpjboaaDoor
