/- The program: the walk through a tree, in memory; is a node one of a production. -/
import Derived.Test.YtbgklfmhmpjboaaDoorTLvs
import Derived.Test.YtbgklfmhmpjboaaDoorTMap
import Derived.Deep.RegionHeld3
namespace Go.Proofs.YtbgklfmhmpjboaaDoor
open Go.RowKit
set_option linter.unusedVariables false
set_option maxRecDepth 100000

/-- a walk in memory -/
structure WkM (w : World) (W M : Nat) (g : Gm) (pv lv sv iv : Value) (a : Nat) (K : List Nat) : Prop where
  blk : w.heap[W]? = some (.cells #[.int .i64 g.terms, .int .i64 g.names, .int .i64 g.start, pv, lv, sv, iv, .int .i64 a, .map (some M)] 47 (0, 0))
  map : PMap w M K
theorem WkM.ne {w : World} {W M : Nat} {g : Gm} {pv lv sv iv : Value} {a : Nat} {K : List Nat} (h : WkM w W M g pv lv sv iv a K) : W ≠ M := by
  rintro rfl
  obtain ⟨es, cl, h1, _⟩ := h.map
  rw [h.blk] at h1
  simp at h1
theorem WkM.lt {w : World} {W M : Nat} {g : Gm} {pv lv sv iv : Value} {a : Nat} {K : List Nat} (h : WkM w W M g pv lv sv iv a K) : W < w.heap.size := (Array.getElem?_eq_some_iff.1 h.blk).1
theorem WkM.below {w w' : World} {W M : Nat} {g : Gm} {pv lv sv iv : Value} {a : Nat} {K : List Nat} (h : WkM w W M g pv lv sv iv a K) (hb : Below w.heap.size w w') : WkM w' W M g pv lv sv iv a K :=
  ⟨(hb.block W h.lt).trans h.blk, h.map.block (hb.block M h.map.lt)⟩
theorem WkM.cells {w : World} {W M : Nat} {g : Gm} {pv lv sv iv : Value} {a : Nat} {K : List Nat} (h : WkM w W M g pv lv sv iv a K) :
    w.cell? ⟨W, 3, none⟩ = some pv ∧ w.cell? ⟨W, 6, none⟩ = some iv ∧ w.cell? ⟨W, 7, none⟩ = some (.int .i64 a) ∧ w.cell? ⟨W, 8, none⟩ = some (.map (some M)) := by
  refine ⟨?_, ?_, ?_, ?_⟩ <;> simp [World.cell?, h.blk]

set_option maxHeartbeats 4000000 in
theorem isOf_nil (W : Nat) (name : Int) (w : World) : Calls Tryd.prog 21 #[.pointer (some ⟨W, 0, none⟩), .pointer none, .int .i64 name] w fun e w' => e = .returned (.bool false) ∧ Below w.heap.size w w' := by
  have hb0 := Below.refl w.heap.size w
  go_enter Tryd.func21, Tryd.ntmps21
  go_wp2_with fail
  go_quiet (fail)
  go_wp2
  go_ret
  exact ⟨rfl, below_drewG hb0 _⟩

set_option maxHeartbeats 8000000 in
theorem isOf_any (W : Nat) (ps : List PdR) (pa : Option Addr) (pc : Nat) (p k : Int) (b n : Nat) (hn : n ≤ 1000000000000000) (ka : Option Addr) (kc : Nat) (name : Int) (w : World) (hW : W < w.heap.size) (hb : w.heap[b]? = some (.cells #[.int .i64 p, .int .i64 k, .slice ka n kc] 40 (0, 0))) (hP : PdsM w (.slice pa ps.length pc) ps) (hO : PsOk ps) (hpv : w.cell? ⟨W, 3, none⟩ = some (.slice pa ps.length pc)) :
    Calls Tryd.prog 21 #[.pointer (some ⟨W, 0, none⟩), .pointer (some ⟨b, 0, none⟩), .int .i64 name] w fun e w' => e = .returned (.bool (nodeB ps p k n name)) ∧ Below w.heap.size w w' := by
  have hlt := (Array.getElem?_eq_some_iff.1 hb).1
  have hb0 := Below.refl w.heap.size w
  have c0 : w.cell? ⟨b, 0, none⟩ = some (.int .i64 p) := by simp [World.cell?, hb]
  have c1 : w.cell? ⟨b, 1, none⟩ = some (.int .i64 k) := by simp [World.cell?, hb]
  have c2 : w.cell? ⟨b, 2, none⟩ = some (.slice ka n kc) := by simp [World.cell?, hb]
  have HP : Hid (PdsM w (.slice pa ps.length pc) ps) := hP
  have HO : Hid (PsOk ps) := hO
  clear hb hP hO
  generalize hR : nodeB ps p k n name = R at *
  have HR : Hid (nodeB ps p k n name = R) := hR
  clear hR
  unfold nodeB at HR
  by_cases h1 : p < 0
  · have d1 : decide (p < 0) = true := decide_eq_true h1
    have HZ : Hid (R = false) := by show _ = _; rw [← HR.out, decide_eq_false (p := 0 ≤ p) (by omega)]; simp
    clear HR
    go_enter Tryd.func21, Tryd.ntmps21
    go_wp2_with fail
    go_quiet (fail)
    go_wp2
    go_ret
    exact ⟨by rw [HZ.out]; rfl, below_drewG hb0 _⟩
  have d1 : decide (p < 0) = false := decide_eq_false h1
  by_cases h2 : p ≥ (ps.length : Int)
  · have d2 : decide (p ≥ (ps.length : Int)) = true := decide_eq_true h2
    have HZ : Hid (R = false) := by show _ = _; rw [← HR.out, decide_eq_false (p := p < ps.length) (by omega)]; simp
    clear HR
    go_enter Tryd.func21, Tryd.ntmps21
    go_wp2_with fail
    go_quiet (fail)
    go_wp2
    go_ret
    exact ⟨by rw [HZ.out]; rfl, below_drewG hb0 _⟩
  have d2 : decide (p ≥ (ps.length : Int)) = false := decide_eq_false h2
  have hp0 : 0 ≤ p := by omega
  have hp1 : p < (ps.length : Int) := by omega
  have HPN : Hid (p.toNat < ps.length) := by show _ < _; omega
  clear h1 h2
  by_cases h3 : k = 0
  case neg =>
    have d3 : (k != 0) = true := by rw [bne_iff_ne]; exact h3
    have HZ : Hid (R = false) := by show _ = _; rw [← HR.out, decide_eq_false (p := k = 0) h3]; simp
    clear HR
    go_enter Tryd.func21, Tryd.ntmps21
    go_wp2_with fail
    go_quiet (fail)
    go_wp2
    go_ret
    exact ⟨by rw [HZ.out]; rfl, below_drewG hb0 _⟩
  subst h3
  obtain ⟨pb, poff, rv, rfl, hpb, hpd⟩ := HP.out.at HPN.out
  have hmem := getD_memP ps p.toNat HPN.out
  have hl2 := HO.out.rlen _ hmem
  generalize ps.getD p.toNat noPd = pr at *
  obtain ⟨e0, e1, e2, hr⟩ := hpd
  obtain ⟨ra, rc, rfl⟩ := hr.slice
  clear hr hmem HP HO HPN
  have HR2 : Hid (R = (decide (pr.left = name) && decide (pr.right.length = n))) := by
    show _ = _
    rw [← HR.out, decide_eq_true hp0, decide_eq_true hp1]
    simp
  clear HR
  have hrl : pr.right.length < 1000 := by omega
  clear hl2
  generalize pr.right.length = rn at *
  generalize pr.left = pl at *
  generalize pr.level = pe at *
  clear pr
  go_enter Tryd.func21, Tryd.ntmps21
  go_wp2_with fail
  go_quiet (fail)
  have HB1 : Hid (Below w.heap.size w (w.drewN nq)) := below_drewG hb0 _
  have s1 : (w.drewN nq).heap.size = w.heap.size := rfl
  have x0 : (w.drewN nq).cell? ⟨b, 0, none⟩ = some (.int .i64 p) := c0
  have x2 : (w.drewN nq).cell? ⟨b, 2, none⟩ = some (.slice ka n kc) := c2
  have y0 : (w.drewN nq).cell? ⟨pb, poff + p.toNat * 3, none⟩ = some (.int .i64 pl) := e0
  have y1 : (w.drewN nq).cell? ⟨pb, poff + p.toNat * 3 + 1, none⟩ = some (.slice ra rn rc) := e1
  have y2 : (w.drewN nq).cell? ⟨pb, poff + p.toNat * 3 + 2, none⟩ = some (.int .i64 pe) := e2
  have z3 : (w.drewN nq).cell? ⟨W, 3, none⟩ = some (.slice (some ⟨pb, poff, none⟩) ps.length pc) := hpv
  clear c0 c1 c2 e0 e1 e2 hpv
  have hlt' : b < (w.drewN nq).heap.size := hlt
  have hW' : W < (w.drewN nq).heap.size := hW
  have hpb' : pb < (w.drewN nq).heap.size := hpb
  generalize w.drewN nq = w1 at *
  clear s1
  go_wp2_with fail
  go_region_held3 (fun w' => w'.cell? ⟨W, 3, none⟩ = some (.slice (some ⟨pb, poff, none⟩) ps.length pc) ∧ w'.cell? ⟨b, 0, none⟩ = some (.int .i64 p) ∧ w'.cell? ⟨pb, poff + p.toNat * 3, none⟩ = some (.int .i64 pl) ∧ w'.cell? ⟨pb, poff + p.toNat * 3 + 1, none⟩ = some (.slice ra rn rc) ∧ w'.cell? ⟨pb, poff + p.toNat * 3 + 2, none⟩ = some (.int .i64 pe)) (go_keep) ((fail))
  all_goals
    obtain ⟨o0, o1, o2⟩ := box3_cells w1 (.int .i64 pl) (.slice ra rn rc) (.int .i64 pe) 35
    have HB2 : Hid (Below w.heap.size w (w1.alloc (.cells #[.int .i64 pl, .slice ra rn rc, .int .i64 pe] 35)).drew) := (HB1.out.trans ((alloc_below w1 _).mono HB1.out.size)).trans ⟨rfl, rfl, rfl, Nat.le_refl _, fun _ _ => rfl⟩
    have hz2 : w1.heap.size < (w1.alloc (.cells #[.int .i64 pl, .slice ra rn rc, .int .i64 pe] 35)).drew.heap.size := by show _ < (w1.alloc _).heap.size; rw [alloc_size]; omega
    have v0 : (w1.alloc (.cells #[.int .i64 pl, .slice ra rn rc, .int .i64 pe] 35)).drew.cell? ⟨w1.heap.size, 0, none⟩ = some (.int .i64 pl) := o0
    have v1 : (w1.alloc (.cells #[.int .i64 pl, .slice ra rn rc, .int .i64 pe] 35)).drew.cell? ⟨w1.heap.size, 1, none⟩ = some (.slice ra rn rc) := o1
    have v2 : (w1.alloc (.cells #[.int .i64 pl, .slice ra rn rc, .int .i64 pe] 35)).drew.cell? ⟨b, 2, none⟩ = some (.slice ka n kc) := ((alloc_below w1 _).cell (p := ⟨b, 2, none⟩) hlt').trans x2
    have v3 : b < (w1.alloc (.cells #[.int .i64 pl, .slice ra rn rc, .int .i64 pe] 35)).drew.heap.size := Nat.lt_trans hlt' hz2
    clear o0 o1 o2 x0 x2 y0 y1 y2 z3
    generalize (w1.alloc (.cells #[.int .i64 pl, .slice ra rn rc, .int .i64 pe] 35)).drew = w2 at *
    generalize w1.heap.size = Q at *
    by_cases h4 : pl = name
    · subst h4
      by_cases h5 : rn = n
      · subst h5
        have HZ : Hid (R = true) := by show _ = _; rw [HR2.out]; simp
        go_wp2_with fail
        go_quiet (fail)
        have hbf := below_drewG HB2.out nq
        go_wp2
        go_ret
        exact ⟨by rw [HZ.out]; rfl, below_drewG HB2.out _⟩
      · have HZ : Hid (R = false) := by show _ = _; rw [HR2.out]; simp [h5]
        have d5 : ((rn : Int) == (n : Int)) = false := by rw [beq_eq_false_iff_ne]; omega
        clear h5
        go_wp2_with fail
        go_quiet (fail)
        go_wp2
        go_ret
        exact ⟨by rw [HZ.out]; rfl, below_drewG HB2.out _⟩
    · have HZ : Hid (R = false) := by show _ = _; rw [HR2.out]; simp [h4]
      have d4 : (pl == name) = false := by rw [beq_eq_false_iff_ne]; exact h4
      clear h4
      go_wp2_with fail
      go_quiet (fail)
      go_wp2
      go_ret
      exact ⟨by rw [HZ.out]; rfl, below_drewG HB2.out _⟩

end Go.Proofs.YtbgklfmhmpjboaaDoor
