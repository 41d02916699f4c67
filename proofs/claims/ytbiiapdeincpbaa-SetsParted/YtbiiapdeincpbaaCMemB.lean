import Derived.Test.YtbiiapdeincpbaaCMem
namespace Go.Proofs.Ytbiiapdeincpbaa
open Go.RowKit
open Go.Maps (Keyed)
set_option linter.unusedVariables false
set_option maxRecDepth 100000

theorem heap_setC (w : World) (b o : Nat) (cs : Array Value) (t : TypeId) (u : Value) (h : w.heap[b]? = some (.cells cs t (0, 0))) : (w.setCell ⟨b, o, none⟩ u).heap[b]? = some (.cells (cs.setIfInBounds o u) t (0, 0)) := by
  simp [World.setCell, Array.getElem?_modify, h]

section
variable {w : World} {M Dp Nd Mp n L : Nat} {ds nodes : List Int} {ps : List Pr}

theorem MemAt.cells (h : MemAt w M Dp Nd Mp n L ds nodes ps) : w.cell? ⟨M, 0, none⟩ = some (.slice (some ⟨Dp, 0, none⟩) n n) ∧ w.cell? ⟨M, 1, none⟩ = some (.slice (some ⟨Nd, 0, none⟩) (2 * L) (2 * L)) ∧ w.cell? ⟨M, 2, none⟩ = some (.map (some Mp)) := by
  refine ⟨?_, ?_, ?_⟩ <;> simp [World.cell?, h.hM]
theorem MemAt.node (h : MemAt w M Dp Nd Mp n L ds nodes ps) {j : Nat} (hj : j < 2 * L) : w.cell? ⟨Nd, j, none⟩ = some (.int .i64 (nodes.getD j 0)) ∧ w.frozen? ⟨Nd, j, none⟩ = false := by
  have := intsA_get nodes j (by rw [h.ln]; exact hj)
  constructor
  · simp [World.cell?, h.hN, this]
  · simp [World.frozen?, h.hN]
theorem MemAt.depth (h : MemAt w M Dp Nd Mp n L ds nodes ps) {j : Nat} (hj : j < n) : w.cell? ⟨Dp, j, none⟩ = some (.int .i64 (ds.getD j 0)) ∧ w.frozen? ⟨Dp, j, none⟩ = false := by
  have := intsA_get ds j (by rw [h.ld]; exact hj)
  constructor
  · simp [World.cell?, h.hD, this]
  · simp [World.frozen?, h.hD]
theorem MemAt.lt (h : MemAt w M Dp Nd Mp n L ds nodes ps) : M < w.heap.size ∧ Dp < w.heap.size ∧ Nd < w.heap.size ∧ Mp < w.heap.size := by
  obtain ⟨D, ⟨es, cl, hm, _⟩, _⟩ := h.map
  have lt : ∀ {k : Nat} {o : Obj}, w.heap[k]? = some o → k < w.heap.size := fun h => (Array.getElem?_eq_some_iff.1 h).1
  exact ⟨lt h.hM, lt h.hD, lt h.hN, lt hm⟩
theorem MemAt.setN (h : MemAt w M Dp Nd Mp n L ds nodes ps) (j : Nat) (x : Int) : MemAt (w.setCell ⟨Nd, j, none⟩ (.int .i64 x)) M Dp Nd Mp n L ds (nodes.set j x) ps := by
  obtain ⟨a, b, c, d, e⟩ := h.ne
  obtain ⟨D, hm, hi⟩ := h.map
  refine ⟨?_, ?_, ?_, h.dn, h.ld, by simp [h.ln], ⟨D, hm.setCell (a := ⟨Nd, j, none⟩) (Ne.symm e) _, hi⟩, h.nd⟩
  · rw [Below.heap_setCell _ _ _ _ b]; exact h.hM
  · rw [Below.heap_setCell _ _ _ _ h.dn]; exact h.hD
  · rw [heap_setC _ _ _ _ _ _ h.hN, intsA_set]
theorem MemAt.setD (h : MemAt w M Dp Nd Mp n L ds nodes ps) (j : Nat) (x : Int) : MemAt (w.setCell ⟨Dp, j, none⟩ (.int .i64 x)) M Dp Nd Mp n L (ds.set j x) nodes ps := by
  obtain ⟨a, b, c, d, e⟩ := h.ne
  obtain ⟨D, hm, hi⟩ := h.map
  refine ⟨?_, ?_, ?_, h.dn, by simp [h.ld], h.ln, ⟨D, hm.setCell (a := ⟨Dp, j, none⟩) (Ne.symm d) _, hi⟩, h.nd⟩
  · rw [Below.heap_setCell _ _ _ _ a]; exact h.hM
  · rw [heap_setC _ _ _ _ _ _ h.hD, intsA_set]
  · rw [Below.heap_setCell _ _ _ _ (Ne.symm h.dn)]; exact h.hN
theorem MemAt.alloc (h : MemAt w M Dp Nd Mp n L ds nodes ps) (o : Obj) : MemAt (w.alloc o) M Dp Nd Mp n L ds nodes ps := h.but (But.alloc [] w o) (by simp) (by simp) (by simp) (by simp)
theorem MemAt.drewN (h : MemAt w M Dp Nd Mp n L ds nodes ps) (m : Nat) : MemAt (w.drewN m) M Dp Nd Mp n L ds nodes ps := h.but (But.drewN [] w m) (by simp) (by simp) (by simp) (by simp)
end

theorem MemAt.put {w w' : World} {M Dp Nd Mp n L : Nat} {ds nodes : List Int} {ps : List Pr} (h : MemAt w M Dp Nd Mp n L ds nodes ps) (x : Pr) (hx : x ∉ ps) (hm : ∃ D : DataW Unit, w'.ownsMap Try.prog 88 (plainElem Try.prog 3) Mp (ps.length + 1) D ∧ IdxG 88 pairV D (ps ++ [x])) (hb : w.mapTurned w' Mp) :
    MemAt w' M Dp Nd Mp n L ds nodes (ps ++ [x]) := by
  obtain ⟨a, b, c, d, e⟩ := h.ne
  obtain ⟨l1, l2, l3, l4⟩ := h.lt
  have hg := hb.grown
  refine ⟨?_, ?_, ?_, h.dn, h.ld, h.ln, ?_, ?_⟩
  · rw [hg.block M l1 (by simp; exact c)]; exact h.hM
  · rw [hg.block Dp l2 (by simp; exact d)]; exact h.hD
  · rw [hg.block Nd l3 (by simp; exact e)]; exact h.hN
  · simpa using hm
  · rw [List.nodup_append]
    exact ⟨h.nd, by simp, by rintro y hy z hz rfl; simp at hz; subst hz; exact hx hy⟩

theorem renumber_any {w : World} {M Dp Nd Mp n L : Nat} {ds nodes : List Int} {ps : List Pr} (h : MemAt w M Dp Nd Mp n L ds nodes ps) (i : Nat) (hi : i < L) (hL : L ≤ 16) (hps : ps.length ≤ 100000) (hbd : ∀ j, j < 2 * L → -1000000 ≤ nodes.getD j 0 ∧ nodes.getD j 0 ≤ 1000000) :
    Calls Try.prog 56 #[.pointer (some ⟨M, 0, none⟩), .int .i64 i] w fun e w' => e = .returned (.tuple #[]) ∧ ∃ (k : Nat) (ps' : List Pr), ps <+: ps' ∧ ps'.length ≤ ps.length + 1 ∧ ps'[k]? = some (nodes.getD (2 * i) 0, nodes.getD (2 * i + 1) 0) ∧ MemAt w' M Dp Nd Mp n L ds (nodes.set i k) ps' ∧ But [Nd, Mp] w w' := by
  obtain ⟨c0, c1, c2⟩ := h.cells
  obtain ⟨l1, l2, l3, l4⟩ := h.lt
  obtain ⟨n1, n2, n3, n4, n5⟩ := h.ne
  obtain ⟨ca, _⟩ := h.node (j := 2 * i) (by omega)
  obtain ⟨cb, _⟩ := h.node (j := 2 * i + 1) (by omega)
  obtain ⟨ci, fi⟩ := h.node (j := i) (by omega)
  have ba := hbd (2 * i) (by omega)
  have bb := hbd (2 * i + 1) (by omega)
  obtain ⟨D, hown, hidx⟩ := h.map
  generalize ha : nodes.getD (2 * i) 0 = a at *
  generalize hb : nodes.getD (2 * i + 1) 0 = b at *
  obtain ⟨kl, hkl⟩ := pair_key (a, b) (by simp; omega) (by simp; omega) (by simp; omega) (by simp; omega)
  have hzd : plainElem (H := Unit) Try.prog 3 (.int .i64 0) = some (.lit (.int .i64 0), []) := plainElem_int Try.underlying3 (WalkArith.wf_i64 (by omega))
  have hO : ∀ m, ((w.alloc (.cells #[.int .i64 a, .int .i64 b] 88)).drewN m).ownsMap Try.prog 88 (plainElem Try.prog 3) Mp ps.length D := fun m => hown.alloc _
  by_cases hin : (a, b) ∈ ps
  · obtain ⟨q, hq, e⟩ := List.mem_iff_getElem.1 hin
    have hq2 : ps[q]? = some (a, b) := by rw [List.getElem?_eq_getElem hq, e]
    obtain ⟨hh, hat⟩ := (hidx.2 _ _ hkl).1 q hq2
    refine (renumber_old M Nd Mp i L a b q w l1 l3 hi (by omega) c1 c2 ca cb _ ci fi ?_).mono ?_
    · intro m
      obtain ⟨v, ps0, hrun, hv⟩ := (hO m).look_ok Try.lawPair Try.underlying76 (Try.zeroInt _) hzd hkl
      rw [hat] at hv
      obtain ⟨z, rfl, hz, _⟩ := plainElem_int_inv Try.underlying3 hv
      simp at hz
      rw [hh, ← hz.1] at hrun
      exact hrun
    · rintro e w' ⟨rfl, m, rfl⟩
      refine ⟨rfl, q, ps, List.prefix_refl _, by omega, hq2, ((h.setN i q).alloc _).drewN m, ?_⟩
      exact ((But.setCell w (by simp) i _).trans (But.alloc _ _ _)).trans (But.drewN _ _ _)
  · have hno := (hidx.2 _ _ hkl).2 hin
    obtain ⟨v, ps0, hrun, hv⟩ := (hO 2).look_ok Try.lawPair Try.underlying76 (Try.zeroInt _) hzd hkl
    have hat0 : D.atKey kl (.lit (.int .i64 0)) = .lit (.int .i64 0) := Maps.atKey_of_not_has hno _
    rw [hat0] at hv
    obtain ⟨z, rfl, hz, _⟩ := plainElem_int_inv Try.underlying3 hv
    simp at hz
    rw [hno, ← hz.1] at hrun
    have hlen := fun ty => (hO 2).len Try.underlying76 ty
    rw [hidx.1] at hlen
    obtain ⟨W3, hup, hown3, hturn⟩ := (hO 3).store Try.lawPair Try.underlying76 (by unfold maxLen; omega) (val := .int .i64 ps.length) hkl (plainElem_int Try.underlying3 (WalkArith.wf_i64 (by omega)))
    have hm3 : MemAt W3 M Dp Nd Mp n L ds nodes (ps ++ [(a, b)]) := ((h.alloc (.cells #[.int .i64 a, .int .i64 b] 88)).drewN 3).put (a, b) hin ⟨_, hown3, idx_put Try.lawPair pair_inj hidx (hown.tidy Try.lawPair) hkl hin⟩ hturn
    obtain ⟨d0, d1, d2⟩ := hm3.cells
    obtain ⟨di, fdi⟩ := hm3.node (j := i) (by omega)
    refine (renumber_new M Nd Mp i L ps.length a b w W3 l1 l3 hi (by omega) c1 c2 ca cb hrun hlen hup d1 _ di fdi).mono ?_
    rintro e w' ⟨rfl, rfl⟩
    refine ⟨rfl, ps.length, ps ++ [(a, b)], List.prefix_append _ _, by simp, by simp, hm3.setN i _, ?_⟩
    exact (((But.alloc _ w _).trans (But.drewN _ _ 3)).trans (But.grown hturn.grown (by simp))).trans (But.setCell _ (by simp) i _)

end Go.Proofs.Ytbiiapdeincpbaa
