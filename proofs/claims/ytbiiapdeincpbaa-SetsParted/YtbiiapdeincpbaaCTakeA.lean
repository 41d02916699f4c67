import Derived.Test.YtbiiapdeincpbaaCTakeN
import Derived.Test.YtbiiapdeincpbaaCCls
namespace Go.Proofs.Ytbiiapdeincpbaa
open Go.RowKit
open Go.Maps (Keyed)
set_option linter.unusedVariables false
set_option maxRecDepth 100000

theorem int_inj (x y : Int) (h : (Value.int .i64 x) = Value.int .i64 y) : x = y := by simpa using h
theorem int_key (r : Int) (h0 : -9223372036854775808 ≤ r) (h1 : r ≤ 9223372036854775807) : keyOf Try.prog 3 (.int .i64 r) = some (.int .i64 r) := Maps.keyOf_int_mk Try.underlying3 (WalkArith.wf_i64 (by omega))

section
variable {W : World} {B M Dp Nd Mp n L Q P C Q2 : Nat} {ds nodes : List Int} {ps : List Pr} {v : Value} {cs : List (List Rg)} {rs : List Int}

/-- blocks of the tree, of the cells and of the maps are no rows -/
theorem Cl.offRows (h : Cl W B M Dp Nd Mp n L Q P C Q2 ds nodes ps v cs rs) {k : Nat} (hk : k = M ∨ k = Dp ∨ k = Nd ∨ k = Mp ∨ k = C ∨ k = P ∨ k = Q ∨ k = Q2) : k < W.heap.size ∧ ∀ c fz, W.heap[k]? ≠ some (.cells c 28 fz) ∧ W.heap[k]? ≠ some (.cells c 56 fz) := by
  obtain ⟨⟨e1, c1, q1⟩, ⟨e2, c2, q2⟩⟩ := h.isMap
  have lt : ∀ {k : Nat} {o : Obj}, W.heap[k]? = some o → k < W.heap.size := fun h => (Array.getElem?_eq_some_iff.1 h).1
  rcases hk with rfl | rfl | rfl | rfl | rfl | rfl | rfl | rfl
  · exact ⟨lt h.mem.hM, fun c fz => by rw [h.mem.hM]; simp⟩
  · exact ⟨lt h.mem.hD, fun c fz => by rw [h.mem.hD]; simp⟩
  · exact ⟨lt h.mem.hN, fun c fz => by rw [h.mem.hN]; simp⟩
  · exact ⟨lt q2, fun c fz => by rw [q2]; simp⟩
  · exact ⟨lt h.hC, fun c fz => by rw [h.hC]; simp⟩
  · exact ⟨lt h.hP, fun c fz => by rw [h.hP]; simp⟩
  · exact ⟨lt h.hQ, fun c fz => by rw [h.hQ]; simp⟩
  · exact ⟨lt q1, fun c fz => by rw [q1]; simp⟩

theorem take_known (h : Cl W B M Dp Nd Mp n L Q P C Q2 ds nodes ps v cs rs) (hL : 1 ≤ L) (lo hi r : Int) (hr : nodes.getD 1 0 = r) (hr0 : -1000000 ≤ r) (hr1 : r ≤ 1000000) (c : Nat) (hc : c < cs.length) (hrs : rs[c]? = some r) (hcl : cs.length ≤ 2000000)
    (hne : ∀ i, i < cs.length → cs.getD i [] ≠ []) (hap : ∀ i j, i < cs.length → j < cs.length → i ≠ j → fstP (cs.getD i []) ≠ fstP (cs.getD j [])) (hlen : (cs.getD c []).length ≤ 1000000) (hbd : ∀ r ∈ cs.getD c [], 0 ≤ r.2 ∧ r.2 ≤ 1114111) :
    Calls Try.prog 46 #[.agg #[.int .i64 lo, .int .i64 hi], .pointer (some ⟨Q, 0, none⟩), .pointer (some ⟨P, 0, none⟩), .pointer (some ⟨C, 0, none⟩)] W fun e w' => e = .returned (.tuple #[]) ∧ Cl w' B M Dp Nd Mp n L Q P C Q2 ds nodes ps v (cs.set c (growL (cs.getD c []) lo hi)) rs ∧ Fr B W w' := by
  obtain ⟨vs, hrow, hrows⟩ := h.cls
  obtain ⟨D, hown, hidx⟩ := h.map
  have hl := hrow.1
  simp at hl
  have hvc := hrows c hc
  obtain ⟨g, cap, cur, rfl, hBg, hgb, hcur⟩ : ∃ g cap cur, v = .slice (some ⟨g, 0, none⟩) cs.length cap ∧ B ≤ g ∧ W.heap[g]? = some (.cells cur 28 (0, 0)) ∧ cur[c]? = some (vs.getD c (.slice none 0 0)) := by
    rcases hrow.2 with ⟨_, h0⟩ | ⟨g, cap, cur, rfl, h1, h2, _, _, _, h3⟩
    · omega
    · refine ⟨g, cap, cur, rfl, h1, h2, ?_⟩
      have e2 : (cur.toList.take (cs.length * 1))[c]? = some (vs.getD c (.slice none 0 0)) := by rw [h3]; simp [show c < vs.length from by omega]
      rw [List.getElem?_take_of_lt (by omega)] at e2
      simpa using e2
  have hzd : plainElem (H := Unit) Try.prog 3 (.int .i64 0) = some (.lit (.int .i64 0), []) := plainElem_int Try.underlying3 (WalkArith.wf_i64 (by omega))
  have hkl := int_key r (by omega) (by omega)
  obtain ⟨hh, hat⟩ := (hidx.2 r _ hkl).1 c hrs
  have hgs : g < W.heap.size := (Array.getElem?_eq_some_iff.1 hgb).1
  have kg : ∀ {k : Nat}, (k = M ∨ k = Dp ∨ k = Nd ∨ k = Mp ∨ k = C ∨ k = P ∨ k = Q ∨ k = Q2) → k ≠ g := fun {k} hk e => by
    have := ((h.offRows hk).2 cur (0, 0)).1
    rw [e] at this
    exact this hgb
  have kv : ∀ {k : Nat}, (k = M ∨ k = Dp ∨ k = Nd ∨ k = Mp ∨ k = C ∨ k = P ∨ k = Q ∨ k = Q2) → (vs.getD c (.slice none 0 0)).ownBlock ≠ some k := fun {k} hk => own_kind_ne hvc (fun c fz => ((h.offRows hk).2 c fz).2)
  have hvg : (vs.getD c (.slice none 0 0)).ownBlock ≠ some g := own_kind_ne hvc (fun c fz => by rw [hgb]; simp)
  refine (take_old h.mem hL B Q P C Q2 g cap cs.length c lo hi r hr _ (cs.getD c []) cur (h.offRows (k := Q) (by simp)).1 (h.offRows (k := P) (by simp)).1 (h.offRows (k := C) (by simp)).1 hgs h.hB hc hcl (by simp [World.cell?, h.hQ]) (by simp [World.cell?, h.hP]) h.hC ?_ hgb hcur hvc hlen hbd (kv (by simp)) hvg).mono ?_
  · intro j
    have hO : ((W.alloc (.cells #[.int .i64 lo, .int .i64 hi] 56)).drewN j).ownsMap Try.prog 3 (plainElem Try.prog 3) Q2 rs.length D := hown.alloc _
    obtain ⟨v, ps0, hrun, hv⟩ := hO.look_ok Try.lawInt Try.underlying63 (Try.zeroInt _) hzd hkl
    rw [hat] at hv
    obtain ⟨z, rfl, hz, _⟩ := plainElem_int_inv Try.underlying3 hv
    simp at hz
    rw [hh, ← hz.1] at hrun
    exact hrun
  · rintro e w' ⟨rfl, v', w1, hO1, hg1, rfl⟩
    have hb : But ((vs.getD c (.slice none 0 0)).ownBlock.toList ++ [g]) W (w1.setCell ⟨g, c, none⟩ v') := ((But.grown hg1 (fun k hk => List.mem_append_left _ (by rw [hk]; simp))).trans (But.setCell w1 (by simp) c v'))
    have hS : ∀ {k : Nat}, (k = M ∨ k = Dp ∨ k = Nd ∨ k = Mp ∨ k = C ∨ k = P ∨ k = Q ∨ k = Q2) → k ∉ ((vs.getD c (.slice none 0 0)).ownBlock.toList ++ [g]) := fun {k} hk hm => by
      rcases List.mem_append.1 hm with hm | hm
      · exact kv hk (by simpa using hm)
      · exact kg hk (by simpa using hm)
    have hw1g : w1.heap[g]? = some (.cells cur 28 (0, 0)) := (hg1.block g hgs (fun e => hvg e.symm)).trans hgb
    refine ⟨rfl, ⟨h.mem.but hb (hS (by simp)) (hS (by simp)) (hS (by simp)) (hS (by simp)), ?_, ?_, ?_, ⟨D, ownsMap_but hown hb (hS (by simp)), hidx⟩, ?_, h.ne, by simpa using h.lrs, Nat.le_trans h.hB hb.size⟩, ?_⟩
    · exact (hb.block C (h.offRows (k := C) (by simp)).1 (hS (by simp))).trans h.hC
    · exact (hb.block P (h.offRows (k := P) (by simp)).1 (hS (by simp))).trans h.hP
    · exact (hb.block Q (h.offRows (k := Q) (by simp)).1 (hS (by simp))).trans h.hQ
    · have hrow1 : w1.ownsRow B 28 1 (.slice (some ⟨g, 0, none⟩) cs.length cap) cs.length vs := hrow.kept hg1 (Or.inr (fun e => hvg e.symm))
      refine ⟨vs.set c v', by rw [List.length_set]; exact (hrow1.stored c v').1, fun i hi' => ?_⟩
      rw [List.length_set] at hi'
      rw [getD_set_cs _ _ _ _ hc]
      by_cases e : i = c
      · subst e
        rw [if_pos rfl]
        have e3 : (vs.set i v').getD i (.slice none 0 0) = v' := by simp [show i < vs.length from by omega]
        rw [e3]
        exact ownsRow_but hO1 (But.setCell (S := [g]) w1 (by simp) i v') (fun k hk => own_kind_ne hO1 (fun c fz => by simp at hk; subst hk; rw [hw1g]; simp))
      · rw [if_neg e]
        have e3 : (vs.set c v').getD i (.slice none 0 0) = vs.getD i (.slice none 0 0) := by
          simp only [List.getD_eq_getElem?_getD, List.getElem?_set_ne (Ne.symm e)]
        rw [e3]
        have hi2 := hrows i hi'
        refine ownsRow_but hi2 hb (fun k hk => ?_)
        rcases List.mem_append.1 hk with hk | hk
        · exact own_apart hvc hi2 (hne c hc) (hne i hi') (hap c i hc hi' (Ne.symm e)) k (by simpa using hk)
        · exact own_kind_ne hi2 (fun c fz => by simp at hk; subst hk; rw [hgb]; simp)
    · refine ⟨_, hb, fun k hk => ?_⟩
      rcases List.mem_append.1 hk with hk | hk
      · have hk2 : (vs.getD c (.slice none 0 0)).ownBlock = some k := by simpa using hk
        obtain ⟨cc, fz, hkk⟩ := Lib.ownsRow_kind hvc k hk2
        exact ⟨(World.ownsRow.lt hvc k hk2).1, fun c fz => by rw [hkk]; simp⟩
      · simp at hk
        subst hk
        exact ⟨hBg, fun c fz => by rw [hgb]; simp⟩

theorem take_fresh (h : Cl W B M Dp Nd Mp n L Q P C Q2 ds nodes ps v cs rs) (hL : 1 ≤ L) (lo hi r : Int) (hr : nodes.getD 1 0 = r) (hr0 : -1000000 ≤ r) (hr1 : r ≤ 1000000) (hrs : r ∉ rs) (hcl : cs.length ≤ 2000000) (hBC : B ≤ C) (hBQ : B ≤ Q2) :
    Calls Try.prog 46 #[.agg #[.int .i64 lo, .int .i64 hi], .pointer (some ⟨Q, 0, none⟩), .pointer (some ⟨P, 0, none⟩), .pointer (some ⟨C, 0, none⟩)] W fun e w' => e = .returned (.tuple #[]) ∧ (∃ v', Cl w' B M Dp Nd Mp n L Q P C Q2 ds nodes ps v' (cs ++ [[(lo, hi)]]) (rs ++ [r])) ∧ Fr B W w' := by
  obtain ⟨vs, hrow, hrows⟩ := h.cls
  obtain ⟨D, hown, hidx⟩ := h.map
  have hl := hrow.1
  simp at hl
  obtain ⟨a, cap, rfl⟩ : ∃ a cap, v = .slice a cs.length cap := by
    rcases hrow.2 with ⟨rfl, h0⟩ | ⟨g, cap, cur, rfl, _⟩
    · exact ⟨none, 0, by rw [h0]⟩
    · exact ⟨_, _, rfl⟩
  have hzd : plainElem (H := Unit) Try.prog 3 (.int .i64 0) = some (.lit (.int .i64 0), []) := plainElem_int Try.underlying3 (WalkArith.wf_i64 (by omega))
  have hkl := int_key r (by omega) (by omega)
  have hno := (hidx.2 r _ hkl).2 hrs
  have hat0 : D.atKey (.int .i64 r) (.lit (.int .i64 0)) = .lit (.int .i64 0) := Maps.atKey_of_not_has hno _
  have kv : ∀ {k : Nat}, (k = M ∨ k = Dp ∨ k = Nd ∨ k = Mp ∨ k = C ∨ k = P ∨ k = Q ∨ k = Q2) → (Value.slice a cs.length cap).ownBlock ≠ some k := fun {k} hk => own_kind_ne hrow (fun c fz => ((h.offRows hk).2 c fz).1)
  have hQ2s := (h.offRows (k := Q2) (by simp)).1
  obtain ⟨⟨eq, cq, q1⟩, _⟩ := h.isMap
  have hCQ : C ≠ Q2 := fun e => by have := h.hC; rw [e, q1] at this; simp at this
  have hO : ∀ j, ((W.alloc (.cells #[.int .i64 lo, .int .i64 hi] 56)).drewN j).ownsMap Try.prog 3 (plainElem Try.prog 3) Q2 rs.length D := fun j => hown.alloc _
  have hst := fun j => (hO j).store Try.lawInt Try.underlying63 (by unfold maxLen; rw [h.lrs]; omega) (val := .int .i64 cs.length) hkl (plainElem_int Try.underlying3 (WalkArith.wf_i64 (by omega)))
  refine (take_new h.mem hL B Q P C Q2 cs.length cap a lo hi r hr vs (h.offRows (k := Q) (by simp)).1 (h.offRows (k := P) (by simp)).1 (h.offRows (k := C) (by simp)).1 h.hB hcl (by simp [World.cell?, h.hQ]) (by simp [World.cell?, h.hP]) h.hC hCQ ?_ ?_ hrow (kv (by simp)) (kv (by simp)) (by omega)).mono ?_
  · intro j
    obtain ⟨v, ps0, hrun, hv⟩ := (hO j).look_ok Try.lawInt Try.underlying63 (Try.zeroInt _) hzd hkl
    rw [hat0] at hv
    obtain ⟨z, rfl, hz, _⟩ := plainElem_int_inv Try.underlying3 hv
    simp at hz
    rw [hno, ← hz.1] at hrun
    exact hrun
  · intro j
    obtain ⟨W3, h1, _, h3⟩ := hst j
    exact ⟨W3, h1, h3⟩
  · rintro e w' ⟨rfl, j, W3, W4, g5, cap5, w6, v6, hup, hown4, hg4, hg6, hO6, rfl⟩
    obtain ⟨W3', h1, hmap3, hturn⟩ := hst j
    obtain rfl : W3' = W3 := by rw [hup] at h1; simpa using h1.symm
    have b1 : But [Q2] W W3' := ((But.alloc _ W _).trans (But.drewN _ _ j)).trans (But.grown hturn.grown (by simp))
    have b2 : But ((Value.slice a cs.length cap).ownBlock.toList) W3' W4 := But.grown hg4 (fun k hk => by simp [hk])
    have b3 : But [C] W4 (W4.setCell ⟨C, 0, none⟩ (.slice (some ⟨g5, 0, none⟩) (cs.length + 1) cap5)) := But.setCell W4 (by simp) 0 _
    have b4 : But [] (W4.setCell ⟨C, 0, none⟩ (.slice (some ⟨g5, 0, none⟩) (cs.length + 1) cap5)) w6 := But.grown hg6 (by simp)
    have b5 : But [g5] w6 (w6.setCell ⟨g5, cs.length, none⟩ v6) := But.setCell w6 (by simp) _ _
    have b12 : But ([Q2] ++ (Value.slice a cs.length cap).ownBlock.toList) W W4 := (b1.mono (fun k hk => List.mem_append_left _ hk)).trans (b2.mono (fun k hk => List.mem_append_right _ hk))
    have lt : ∀ {w : World} {k : Nat} {o : Obj}, w.heap[k]? = some o → k < w.heap.size := fun h => (Array.getElem?_eq_some_iff.1 h).1
    have k4 : ∃ cur, W4.heap[g5]? = some (.cells cur 28 (0, 0)) := by
      rcases hown4.2 with ⟨h0, _⟩ | ⟨g, cp, cur, e1, _, hh, _⟩
      · simp at h0
      · simp at e1
        obtain ⟨rfl, rfl⟩ := e1
        exact ⟨cur, hh⟩
    obtain ⟨cur4, k4⟩ := k4
    have C4 : W4.heap[C]? = some (.cells #[.slice a cs.length cap] 37 (0, 0)) := (b12.block C (h.offRows (k := C) (by simp)).1 (by
      intro hm
      rcases List.mem_append.1 hm with hm | hm
      · exact hCQ (by simpa using hm)
      · exact kv (k := C) (by simp) (by simpa using hm))).trans h.hC
    have hgC : g5 ≠ C := fun e => by rw [e, C4] at k4; simp at k4
    -- a block of W that is of no classes' row and not the map is not the new row
    have g5off : ∀ {k : Nat} {o : Obj}, W.heap[k]? = some o → (∀ c fz, o ≠ .cells c 28 fz) → k ≠ Q2 → k ≠ g5 := fun {k o} hk h1 h2 e => by
      have hv : (Value.slice a cs.length cap).ownBlock ≠ some k := own_kind_ne hrow (fun c fz => by rw [hk]; simpa using h1 c fz)
      have := b12.block k (lt hk) (by
        intro hm
        rcases List.mem_append.1 hm with hm | hm
        · exact h2 (by simpa using hm)
        · exact hv (by simpa using hm))
      rw [e, k4, ← e, hk] at this
      simp at this
      exact h1 _ _ this.symm
    have hb : But ([Q2, C, g5] ++ (Value.slice a cs.length cap).ownBlock.toList) W (w6.setCell ⟨g5, cs.length, none⟩ v6) := ((((b12.mono (fun k hk => by simp at hk ⊢; rcases hk with hk | hk <;> simp [hk])).trans (b3.mono (by simp))).trans (b4.mono (by simp))).trans (b5.mono (by simp)))
    have hS : ∀ {k : Nat} {o : Obj}, W.heap[k]? = some o → (∀ c fz, o ≠ .cells c 28 fz) → k ≠ Q2 → k ≠ C → k ∉ ([Q2, C, g5] ++ (Value.slice a cs.length cap).ownBlock.toList) := fun {k o} hk h1 h2 h3 hm => by
      rcases List.mem_append.1 hm with hm | hm
      · simp at hm
        rcases hm with hm | hm | hm
        · exact h2 hm
        · exact h3 hm
        · exact g5off hk h1 h2 hm
      · exact own_kind_ne hrow (fun c fz => by rw [hk]; simpa using h1 c fz) (by simpa using hm)
    have hC := h.hC
    have hP := h.hP
    have hQ := h.hQ
    have hM := h.mem.hM
    have hD := h.mem.hD
    have hN := h.mem.hN
    obtain ⟨_, ⟨em, cm, qm⟩⟩ := h.isMap
    have nq : ∀ {k : Nat} {cc : Array Value} {t : TypeId} {fz : Nat × Nat}, W.heap[k]? = some (.cells cc t fz) → k ≠ Q2 := fun hk e => by rw [e, q1] at hk; simp at hk
    have nc : ∀ {k : Nat} {o : Obj}, W.heap[k]? = some o → (∀ c fz, o ≠ .cells c 37 fz) → k ≠ C := fun hk h1 e => by rw [e, hC] at hk; simp at hk; exact h1 _ _ hk.symm
    have hg5Q : g5 ≠ Q2 := fun e => by
      obtain ⟨es, cl, hh, _⟩ := hmap3
      have hm4 := b2.block Q2 (lt hh) (by intro hm; exact kv (k := Q2) (by simp) (by simpa using hm))
      rw [hh, ← e, k4] at hm4
      simp at hm4
    have w6g : w6.heap[g5]? = some (.cells cur4 28 (0, 0)) := by
      rw [b4.block g5 (by have := lt k4; simp; omega) (by simp), Below.heap_setCell _ _ _ _ hgC]
      exact k4
    refine ⟨rfl, ⟨.slice (some ⟨g5, 0, none⟩) (cs.length + 1) cap5, ⟨h.mem.but hb (hS hM (by simp) (nq hM) (nc hM (by simp))) (hS hD (by simp) (nq hD) (nc hD (by simp))) (hS hN (by simp) (nq hN) (nc hN (by simp))) (hS qm (by simp) (Ne.symm h.ne) (nc qm (by simp))), ?_, ?_, ?_, ?_, ?_, h.ne, by simp [h.lrs], Nat.le_trans h.hB hb.size⟩⟩, ?_⟩
    · rw [Below.heap_setCell _ _ _ _ (Ne.symm hgC), b4.block C (by have := lt C4; simp; omega) (by simp), heap_setC _ _ _ _ _ _ C4]
      rfl
    · exact (hb.block P (lt hP) (hS hP (by simp) (nq hP) (nc hP (by simp)))).trans hP
    · exact (hb.block Q (lt hQ) (hS hQ (by simp) (nq hQ) (nc hQ (by simp)))).trans hQ
    · have hix := idx_put Try.lawInt int_inj hidx (hown.tidy Try.lawInt) hkl hrs
      rw [h.lrs] at hix
      refine ⟨_, ?_, hix⟩
      have m4 := ownsMap_but hmap3 b2 (by intro hm; exact kv (k := Q2) (by simp) (by simpa using hm))
      have m5 := ownsMap_but m4 b3 (by simpa using Ne.symm hCQ)
      have m6 := ownsMap_but m5 b4 (by simp)
      have m7 := ownsMap_but m6 b5 (by simpa using Ne.symm hg5Q)
      simpa using m7
    · have r5 := ownsRow_but hown4 b3 (by simp [Value.ownBlock]; exact hgC)
      have r6 := ownsRow_but r5 b4 (by simp)
      have r7 := (r6.stored cs.length v6).1
      have e7 : (vs ++ [Value.slice none 0 0]).set cs.length v6 = vs ++ [v6] := by rw [← hl]; simp
      rw [e7] at r7
      refine ⟨vs ++ [v6], by simpa using r7, fun i hi' => ?_⟩
      simp at hi'
      rw [getD_snoc_cs _ _ _ (by omega)]
      by_cases e : i = cs.length
      · rw [if_pos e]
        have e3 : (vs ++ [v6]).getD i (.slice none 0 0) = v6 := by rw [e, ← hl]; simp
        rw [e3]
        exact ownsRow_but hO6 b5 (fun k hk => own_kind_ne hO6 (fun c fz => by simp at hk; subst hk; rw [w6g]; simp))
      · rw [if_neg e]
        have e3 : (vs ++ [v6]).getD i (.slice none 0 0) = vs.getD i (.slice none 0 0) := by
          simp only [List.getD_eq_getElem?_getD]
          rw [List.getElem?_append_left (by omega)]
        rw [e3]
        have hi2 := hrows i (by omega)
        refine ownsRow_but hi2 hb (fun k hk he => ?_)
        obtain ⟨cc, fz, hkk⟩ := Lib.ownsRow_kind hi2 k he
        exact hS hkk (by simp) (nq hkk) (nc hkk (by simp)) hk
    · refine ⟨_, hb, fun k hk => ?_⟩
      have hB5 : B ≤ g5 := by
        rcases hown4.2 with ⟨h0, _⟩ | ⟨g, cp, cur, e1, hBg, _⟩
        · simp at h0
        · simp at e1
          omega
      refine ⟨?_, fun c fz hkk => ?_⟩
      · rcases List.mem_append.1 hk with hk | hk
        · simp at hk
          rcases hk with rfl | rfl | rfl
          · exact hBQ
          · exact hBC
          · exact hB5
        · exact (World.ownsRow.lt hrow k (by simpa using hk)).1
      · exact hS hkk (by simp) (nq hkk) (nc hkk (by simp)) hk
end

end Go.Proofs.Ytbiiapdeincpbaa
