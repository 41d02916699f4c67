/- The document: the leaves of a tree: nodes. -/
import Derived.Test.YtbgklfmhmpjboaaDoorTLvs
import Derived.Deep.RegionHeld3
namespace Go.Proofs.YtbgklfmhmpjboaaDoor
open Go.RowKit
set_option linter.unusedVariables false
set_option maxRecDepth 100000

set_option maxHeartbeats 8000000 in
theorem leaves_bad (g : Gm) (pv lv sv : Value) (iv : Value) (p k : Int) (b n : Nat) (hn : n ≤ 1000000000000000) (ka : Option Addr) (kc : Nat) (w : World) (hb : w.heap[b]? = some (.cells #[.int .i64 p, .int .i64 k, .slice ka n kc] 40 (0, 0))) (hG : GrM w g pv lv sv) (hP : PsOk g.prods) (s : Int) (hs : s < 0) (hs2 : -301 ≤ s) (a : Int) (hbad : nodeB g.prods p k n (-1 - s) = false) :
    Calls Tryd.prog 12 #[gv g pv lv sv, .pointer (some ⟨b, 0, none⟩), .int .i64 s, iv, .int .i64 a] w fun e w' => e = .returned (.int .i64 (-1)) ∧ Below w.heap.size w w' := by
  have hB0 := boxG_below w g pv lv sv
  have hB2 := boxG_box w g pv lv sv
  have hlt := (Array.getElem?_eq_some_iff.1 hb).1
  have hbb := (hB0.block b hlt).trans hb
  have hp2 := hG.prods.below hB0
  obtain ⟨pa, pc, rfl⟩ := hG.prods.slice
  clear hG hb
  have HP : Hid (PdsM (boxG w g (.slice pa g.prods.length pc) lv sv) (.slice pa g.prods.length pc) g.prods) := hp2
  have HO : Hid (PsOk g.prods) := hP
  clear hp2 hP
  have HB : Hid (nodeB g.prods p k n (-1 - s) = false) := hbad
  clear hbad
  have c0 : (boxG w g (.slice pa g.prods.length pc) lv sv).cell? ⟨b, 0, none⟩ = some (.int .i64 p) := by simp [World.cell?, hbb]
  have c1 : (boxG w g (.slice pa g.prods.length pc) lv sv).cell? ⟨b, 1, none⟩ = some (.int .i64 k) := by simp [World.cell?, hbb]
  have c2 : (boxG w g (.slice pa g.prods.length pc) lv sv).cell? ⟨b, 2, none⟩ = some (.slice ka n kc) := by simp [World.cell?, hbb]
  have hbl : b < w.heap.size + 1 := by omega
  clear hbb
  obtain ⟨q0, q1, q2, q3, q4, q5, q6⟩ := hB2
  obtain ⟨t, nm, st, ps, ls, ss⟩ := g
  unfold boxG at *
  unfold gv gvs at *
  simp only at *
  have hsg : decide (s ≥ 0) = false := decide_eq_false (by omega)
  clear q1 q2 q3 q5 q6
  generalize hW : w.alloc (.cells #[.int .i64 t, .int .i64 nm, .int .i64 st, .slice pa ps.length pc, lv, sv] 25) = W at *
  have HW : Hid (w.alloc (.cells #[.int .i64 t, .int .i64 nm, .int .i64 st, .slice pa ps.length pc, lv, sv] 25) = W) := hW
  by_cases h1 : p < 0
  · have d1 : decide (p < 0) = true := decide_eq_true h1
    clear hW
    go_enter Tryd.func12, Tryd.ntmps12
    go_wp2_with fail
    rw [HW.out]
    go_quiet (fail)
    go_wp2
    go_ret
    exact ⟨rfl, below_drewG hB0 _⟩
  have d1 : decide (p < 0) = false := decide_eq_false h1
  by_cases h2 : p ≥ (ps.length : Int)
  · have d2 : decide (p ≥ (ps.length : Int)) = true := decide_eq_true h2
    clear hW
    go_enter Tryd.func12, Tryd.ntmps12
    go_wp2_with fail
    rw [HW.out]
    go_quiet (fail)
    go_wp2
    go_ret
    exact ⟨rfl, below_drewG hB0 _⟩
  have d2 : decide (p ≥ (ps.length : Int)) = false := decide_eq_false h2
  have hp0 : 0 ≤ p := by omega
  have hp1 : p < (ps.length : Int) := by omega
  have HPN : Hid (p.toNat < ps.length) := by show _ < _; omega
  clear h1 h2
  by_cases h3 : k = 0
  case neg =>
    have d3 : (k != 0) = true := by rw [bne_iff_ne]; exact h3
    clear hW
    go_enter Tryd.func12, Tryd.ntmps12
    go_wp2_with fail
    rw [HW.out]
    go_quiet (fail)
    go_wp2
    go_ret
    exact ⟨rfl, below_drewG hB0 _⟩
  subst h3
  obtain ⟨pb, poff, rv, rfl, hpb, hpd⟩ := HP.out.at HPN.out
  have hmem := getD_memP ps p.toNat HPN.out
  have hl1 := HO.out.left _ hmem
  have hl2 := HO.out.rlen _ hmem
  unfold nodeB at HB
  generalize ps.getD p.toNat noPd = pr at *
  obtain ⟨e0, e1, e2, hr⟩ := hpd
  obtain ⟨ra, rc, rfl⟩ := hr.slice
  clear hr hmem e2
  obtain ⟨q, hq⟩ : ∃ q : Nat, -1 - s = (q : Int) := ⟨(-1 - s).toNat, by omega⟩
  have hsub : IntKind.i64.wrap (-1 - s) = (q : Int) := by rw [IntKind.wrap_i64]; omega
  rw [hq] at HB
  have hrl : pr.right.length < 1000 := by omega
  clear hq hl1 hl2 HP HO
  generalize pr.right.length = rn at *
  generalize pr.left = pl at *
  clear pr
  by_cases h4 : pl = (q : Int)
  case neg =>
    have d4 : (pl != (q : Int)) = true := by rw [bne_iff_ne]; exact h4
    clear hW h4 HB
    go_enter Tryd.func12, Tryd.ntmps12
    go_wp2_with fail
    rw [HW.out]
    go_quiet (fail)
    go_wp2
    go_ret
    exact ⟨rfl, below_drewG hB0 _⟩
  subst h4
  have d5 : ((rn : Int) != (n : Int)) = true := by
    rw [bne_iff_ne]
    intro e
    have hB := HB.out
    simp [hp0, hp1] at hB
    omega
  clear HB hW
  go_enter Tryd.func12, Tryd.ntmps12
  go_wp2_with fail
  rw [HW.out]
  go_quiet (fail)
  go_wp2
  go_ret
  exact ⟨rfl, below_drewG hB0 _⟩

end Go.Proofs.YtbgklfmhmpjboaaDoor
