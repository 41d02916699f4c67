/- Whether a tree is one of Start: the program and the document. -/
import Derived.Test.YtbgklfmhmpjboaaDoorTNodB
import Derived.Test.YtbgklfmhmpjboaaDoorTLvM
import Derived.Test.YtbgklfmhmpjboaaDoorGOkT
namespace Go.Proofs.YtbgklfmhmpjboaaDoor
open Go.RowKit
set_option linter.unusedVariables false
set_option maxRecDepth 100000

theorem lvT_node_some {ps : List PdR} {inp : List Int} {t : Tr} {name : Int} {a b : Nat} (hn : 0 ≤ name) (h : lvT ps inp t (-1 - name) a = some b) : nodeB ps t.prod t.tok t.kids.length name = true := by
  rw [lvT_eq] at h
  split at h
  · cases h
  · rw [if_neg (by omega), show -1 - (-1 - name) = name by omega] at h
    split at h
    · assumption
    · cases h
theorem nodeB_left {ps : List PdR} {p k : Int} {n : Nat} {a b : Int} (h : nodeB ps p k n a = true) (h' : nodeB ps p k n b = true) : a = b := by
  unfold nodeB at h h'
  simp only [Bool.and_eq_true, decide_eq_true_eq] at h h'
  rw [← h.1.2, ← h'.1.2]

theorem isNode_all (W0 : World) (W M : Nat) (g : Gm) (pv lv sv iv : Value) (inp : List Int) (hin : inp.length ≤ 12) (hI : IntsR W0 iv inp) (hP : PdsM W0 pv g.prods) (hO : PsOk g.prods) : ∀ (n : Nat) (u : Value) (t : Tr), IsTr (fun _ => True) n W0 u t → (∀ m, okN m t) → NdC W0 W M g pv lv sv iv inp u t
  | 0, u, t, h, _ => h.elim
  | n + 1, u, t, h, hk => by
    intro w a K name hw h1 h2 ha
    have h0 := h
    rcases h with ⟨rfl, rfl⟩ | ⟨his, b, kv, rfl, _, hblk, hkids⟩
    · refine (isNode_nil W name w).mono ?_
      rintro e w' ⟨rfl, hb⟩
      exact ⟨(hw.below hb).bel, .inl ⟨by rw [lvT_eq]; rfl, rfl⟩⟩
    · obtain ⟨ka, kc, rfl⟩ := hkids.slice
      have hkl := (hk 1).1
      have hbl := (Array.getElem?_eq_some_iff.1 hblk).1
      have hblk' := (hw.bel.block b hbl).trans hblk
      obtain ⟨pa, pc, rfl⟩ := hP.slice
      have hOf := isOf_any W g.prods pa pc t.prod t.tok b t.kids.length hkl ka kc name w hw.wk.lt hblk' (hP.below hw.bel) hO hw.wk.cells.1
      have hlv : ∀ x, lvT g.prods inp t (-1 - name) x = if nodeB g.prods t.prod t.tok t.kids.length name then runK (t.kids.map (lvT g.prods inp)) (g.prods.getD t.prod.toNat noPd).right x else none := fun x => by
        rw [lvT_eq, his, show -1 - (-1 - name) = name by omega]
        simp only [Bool.true_eq_false, if_false]
        rw [if_neg (by omega)]
      cases hnb : nodeB g.prods t.prod t.tok t.kids.length name with
      | false =>
        rw [hnb] at hOf
        refine (isNode_bad W b name w hOf).mono ?_
        rintro e w' ⟨rfl, hb⟩
        exact ⟨(hw.below hb).bel, .inl ⟨by rw [hlv, hnb]; rfl, rfl⟩⟩
      | true =>
        rw [hnb] at hOf
        by_cases hbK : b ∈ K
        · refine (isNode_met W0 W M g _ lv sv iv inp a b K name w hw ⟨_, _, hblk'⟩ (Nat.lt_of_lt_of_le hbl hw.bel.size) hbK hOf).mono ?_
          rintro e w' ⟨rfl, hw'⟩
          refine ⟨hw'.bel, .inr ⟨a, ?_, rfl, K, hw'⟩⟩
          obtain ⟨n', t', name', a0, i1, i2, i3⟩ := hw.inv b hbK
          have ht : t = t' := IsTr.inj (n + 1) n' h0 i1
          subst ht
          have hnb' := lvT_node_some i2 i3
          have hnn := nodeB_left hnb hnb'
          subst hnn
          exact lvT_bare _ _ _ _ _ i3 a
        · have htk : t.tok = 0 := by unfold nodeB at hnb; simp at hnb; exact hnb.1.1.2
          rw [htk] at hblk hnb
          have hlv2 : ∀ x, lvT g.prods inp t (-1 - name) x = runK (t.kids.map (lvT g.prods inp)) (g.prods.getD t.prod.toNat noPd).right x := fun x => by rw [hlv x, htk, hnb]; rfl
          rw [hlv2]
          refine isNode_go W0 W M g _ lv sv iv inp hin a b K name w hw t.prod t.kids hkl ka kc ha hblk hP hO hnb hbK hOf ⟨n + 1, t, h0, hlv2⟩ h1 fun j hj => ?_
          obtain ⟨kb, off, u, rfl, hkb, hc, hu⟩ := hkids.at hj
          have hmem : t.kids.getD j nilT ∈ t.kids := by rw [List.getD_eq_getElem?_getD, List.getElem?_eq_getElem hj]; exact List.getElem_mem hj
          have hkk : ∀ m, okN m (t.kids.getD j nilT) := fun m => (hk (m + 1)).2 _ hmem
          exact ⟨kb, off, u, rfl, hkb, hc, isTree_all W0 W M g _ lv sv iv inp hin hI n u _ hu (hkk 1).1 (isNode_all W0 W M g _ lv sv iv inp hin hI hP hO n u _ hu hkk)⟩

set_option maxHeartbeats 4000000 in
theorem walkOf_any (g : Gm) (pv lv sv iv : Value) (w : World) (h1 : ∃ a n c, pv = .slice a n c) (h2 : ∃ a n c, lv = .slice a n c) (h3 : ∃ a n c, sv = .slice a n c) (h4 : ∃ a n c, iv = .slice a n c) : Calls Tryd.prog 14 #[gv g pv lv sv, iv] w fun e w' => e = .returned (.pointer (some ⟨w.heap.size + 2, 0, none⟩)) ∧ WkM w' (w.heap.size + 2) (w.heap.size + 1) g pv lv sv iv 0 [] ∧ Below w.heap.size w w' := by
  have hB0 := boxG_below w g pv lv sv
  have hB1 := boxG_size w g pv lv sv
  have hB2 := boxG_box w g pv lv sv
  have hmm := @run_makeMap Tryd.prog
  obtain ⟨q0, q1, q2, q3, q4, q5, q6⟩ := hB2
  have HF : Hid (∀ W : World, W.heap.size = w.heap.size + 1 → Below w.heap.size w W → WkM ((W.alloc (.map #[] 0)).alloc (.cells #[.int .i64 g.terms, .int .i64 g.names, .int .i64 g.start, pv, lv, sv, iv, .int .i64 0, .map (some (w.heap.size + 1))] 47)) (w.heap.size + 2) (w.heap.size + 1) g pv lv sv iv 0 [] ∧ Below w.heap.size w ((W.alloc (.map #[] 0)).alloc (.cells #[.int .i64 g.terms, .int .i64 g.names, .int .i64 g.start, pv, lv, sv, iv, .int .i64 0, .map (some (w.heap.size + 1))] 47))) := fun W hs hb => by
    have s1 : (W.alloc (.map #[] 0)).heap.size = w.heap.size + 2 := by rw [alloc_size, hs]
    have h2 : ∀ o, ((W.alloc (.map #[] 0)).alloc o).heap[w.heap.size + 2]? = some o := fun o => by
      rw [← s1]
      show ((W.alloc (.map #[] 0)).heap.push _)[(W.alloc (.map #[] 0)).heap.size]? = _
      exact Array.getElem?_push_size
    have h1 : (W.alloc (.map #[] 0)).heap[w.heap.size + 1]? = some (.map #[] 0) := by
      rw [← hs]
      show (W.heap.push _)[W.heap.size]? = _
      exact Array.getElem?_push_size
    refine ⟨⟨h2 _, ⟨#[], 0, ?_, rfl, fun e he => by simp at he⟩⟩, ?_⟩
    · rw [Below.heap_alloc _ _ _ (by rw [s1]; omega)]
      exact h1
    · exact (hb.trans ((alloc_below W _).mono (by omega))).trans ((alloc_below _ _).mono (by rw [s1]; omega))
  have HW : Hid (Below w.heap.size w (boxG w g pv lv sv)) := hB0
  have HS : Hid ((boxG w g pv lv sv).heap.size = w.heap.size + 1) := hB1
  clear hB1
  unfold gv gvs
  unfold boxG gvs at *
  obtain ⟨pa, pn, pc, rfl⟩ := h1
  obtain ⟨la, ln, lc, rfl⟩ := h2
  obtain ⟨sa, sn, sc, rfl⟩ := h3
  obtain ⟨ia, ix, ic, rfl⟩ := h4
  go_enter Tryd.func14, Tryd.ntmps14
  go_wp2
  go_ret
  have hf := HF.out _ HS.out HW.out
  exact ⟨rfl, hf.1, hf.2⟩

set_option maxHeartbeats 4000000 in
theorem rsound_any (g : Gm) (pv lv sv iv : Value) (inp : List Int) (hin : inp.length ≤ 12) (w : World) (u : Value) (t : Tr) (hs : 0 ≤ g.start) (hs2 : g.start ≤ 300) (hI : IntsR w iv inp) (hC : LvC g pv lv sv iv inp w u t) :
    Calls Tryd.prog 8 #[gv g pv lv sv, u, iv] w fun e w' => e = .returned (.bool (decide (lvT g.prods inp t (-1 - g.start) 0 = some inp.length))) ∧ Below w.heap.size w w' := by
  have hB0 := boxG_below w g pv lv sv
  have hB2 := boxG_box w g pv lv sv
  obtain ⟨ia, ic, rfl⟩ := hI.slice
  have HC : Hid (∀ w', Below w.heap.size w w' → Calls Tryd.prog 12 #[gv g pv lv sv, u, .int .i64 (-1 - g.start), .slice ia inp.length ic, .int .i64 0] w' fun e w'' => e = .returned (.int .i64 (lvI (lvT g.prods inp t (-1 - g.start) 0))) ∧ Below w'.heap.size w' w'') := fun w' h => hC w' h (-1 - g.start) 0 (by omega) (by omega) (Nat.zero_le _)
  clear hC hI
  have HR : Hid (decide (lvT g.prods inp t (-1 - g.start) 0 = some inp.length) = (lvI (lvT g.prods inp t (-1 - g.start) 0) == (inp.length : Int))) := by
    show _ = _
    cases h : lvT g.prods inp t (-1 - g.start) 0 with
    | none =>
      rw [decide_eq_false (by simp)]
      symm
      rw [beq_eq_false_iff_ne]
      show (-1 : Int) ≠ _
      omega
    | some x =>
      show _ = ((x : Int) == (inp.length : Int))
      rw [Bool.eq_iff_iff, decide_eq_true_iff, beq_iff_eq]
      simp
      omega
  have hw1 : IntKind.i64.wrap (-1 - g.start) = -1 - g.start := by rw [IntKind.wrap_i64]; omega
  obtain ⟨q0, q1, q2, q3, q4, q5, q6⟩ := hB2
  generalize decide (lvT g.prods inp t (-1 - g.start) 0 = some inp.length) = R at *
  generalize lvI (lvT g.prods inp t (-1 - g.start) 0) = z at *
  unfold gv gvs at *
  unfold boxG gvs at *
  have HB0 : Hid (Below w.heap.size w (w.alloc (.cells #[.int .i64 g.terms, .int .i64 g.names, .int .i64 g.start, pv, lv, sv] 25))) := hB0
  clear hB0
  go_enter Tryd.func8, Tryd.ntmps8
  go_wp2_with fail
  go_at_call 12
  refine (HC.out _ HB0.out).mono ?_
  rintro e w1 ⟨rfl, hb1⟩
  have hb2 := HB0.out.trans (hb1.mono HB0.out.size)
  clear hb1 q0 q1 q2 q3 q4 q5 q6 HC
  go_wp2
  go_ret
  exact ⟨by rw [HR.out]; rfl, hb2⟩

set_option maxHeartbeats 4000000 in
theorem psound_no (g : Gm) (pv lv sv iv u : Value) (w : World) (h : GrM w g pv lv sv) (hwf : WfG g) (hno : gOkB g = false) :
    Calls Tryd.prog 9 #[gv g pv lv sv, u, iv] w fun e w' => e = .returned (.bool false) ∧ Below w.heap.size w w' := by
  have hB0 := boxG_below w g pv lv sv
  have hB2 := boxG_box w g pv lv sv
  have HC : Hid (∀ w', Below w.heap.size w w' → Calls Tryd.prog 13 #[gv g pv lv sv] w' fun e w'' => e = .returned (.bool false) ∧ Below w'.heap.size w' w'') := fun w' hb => by
    have := pok_any g pv lv sv w' (h.below hb) hwf
    rw [hno] at this
    exact this
  obtain ⟨q0, q1, q2, q3, q4, q5, q6⟩ := hB2
  clear h hwf hno
  unfold gv gvs at *
  unfold boxG gvs at *
  have HB0 : Hid (Below w.heap.size w (w.alloc (.cells #[.int .i64 g.terms, .int .i64 g.names, .int .i64 g.start, pv, lv, sv] 25))) := hB0
  clear hB0
  go_enter Tryd.func9, Tryd.ntmps9
  go_wp2_with fail
  go_at_call 13
  refine (HC.out _ HB0.out).mono ?_
  rintro e w1 ⟨rfl, hb1⟩
  have hb2 := HB0.out.trans (hb1.mono HB0.out.size)
  clear hb1 q0 q1 q2 q3 q4 q5 q6 HC
  go_wp2
  go_ret
  exact ⟨rfl, hb2⟩

set_option maxHeartbeats 8000000 in
theorem psound_yes (g : Gm) (pv lv sv iv u : Value) (inp : List Int) (hin : inp.length ≤ 12) (w : World) (h : GrM w g pv lv sv) (hwf : WfG g) (hyes : gOkB g = true) (hI : IntsR w iv inp) (n : Nat) (t : Tr) (ht : IsTr (fun _ => True) n w u t) (hk : ∀ m, okN m t) :
    Calls Tryd.prog 9 #[gv g pv lv sv, u, iv] w fun e w' => e = .returned (.bool (decide (lvT g.prods inp t (-1 - g.start) 0 = some inp.length))) ∧ Below w.heap.size w w' := by
  have hB0 := boxG_below w g pv lv sv
  have hB2 := boxG_box w g pv lv sv
  obtain ⟨hO, hs1, hs2⟩ := gok_ps g hyes
  have HN : Hid (∀ W M, NdC w W M g pv lv sv iv inp u t) := fun W M => isNode_all w W M g pv lv sv iv inp hin hI h.prods hO n u t ht hk
  have HC : Hid (∀ w', Below w.heap.size w w' → Calls Tryd.prog 13 #[gv g pv lv sv] w' fun e w'' => e = .returned (.bool true) ∧ Below w'.heap.size w' w'') := fun w' hb => by
    have := pok_any g pv lv sv w' (h.below hb) hwf
    rw [hyes] at this
    exact this
  have HF : Hid (∀ w', Calls Tryd.prog 14 #[gv g pv lv sv, iv] w' fun e w'' => e = .returned (.pointer (some ⟨w'.heap.size + 2, 0, none⟩)) ∧ WkM w'' (w'.heap.size + 2) (w'.heap.size + 1) g pv lv sv iv 0 [] ∧ Below w'.heap.size w' w'') := fun w' => by
    obtain ⟨a1, c1, e1⟩ := h.prods.slice
    obtain ⟨a2, c2, e2⟩ := h.levels.slice
    obtain ⟨a3, c3, e3⟩ := h.sides.slice
    obtain ⟨a4, c4, e4⟩ := hI.slice
    exact walkOf_any g pv lv sv iv w' ⟨_, _, _, e1⟩ ⟨_, _, _, e2⟩ ⟨_, _, _, e3⟩ ⟨_, _, _, e4⟩
  obtain ⟨ia, ic, rfl⟩ := hI.slice
  clear h hwf hyes hI ht hk hO
  have HBX : Hid (BoxG (boxG w g pv lv sv) w.heap.size g pv lv sv) := hB2
  clear hB2
  generalize hR : decide (lvT g.prods inp t (-1 - g.start) 0 = some inp.length) = R at *
  have HR : Hid (decide (lvT g.prods inp t (-1 - g.start) 0 = some inp.length) = R) := hR
  clear hR
  have HB0 : Hid (Below w.heap.size w (boxG w g pv lv sv)) := hB0
  clear hB0
  obtain ⟨q0, q1, q2, q3, q4, q5, q6⟩ := HBX.out
  unfold gv gvs at *
  have HWB : Hid (w.alloc (.cells #[.int .i64 g.terms, .int .i64 g.names, .int .i64 g.start, pv, lv, sv] 25) = boxG w g pv lv sv) := rfl
  generalize boxG w g pv lv sv = W1 at *
  go_enter Tryd.func9, Tryd.ntmps9
  go_wp2_with fail
  rw [HWB.out]
  go_wp2_with fail
  go_at_call 13
  refine (HC.out _ HB0.out).mono ?_
  rintro e w2 ⟨rfl, hb2⟩
  have HB2 : Hid (Below w.heap.size w w2) := HB0.out.trans (hb2.mono HB0.out.size)
  have HX2 : Hid (BoxG w2 w.heap.size g pv lv sv) := HBX.out.below HBX.out.lt hb2
  clear q0 q1 q2 q3 q4 q5 q6 hb2 HBX HC HB0 HWB
  obtain ⟨q0, q1, q2, q3, q4, q5, q6⟩ := HX2.out
  go_wp2_with fail
  go_at_call 14
  refine (HF.out _).mono ?_
  rintro e w3 ⟨rfl, hw3, hb3⟩
  have HX3 : Hid (BoxG w3 w.heap.size g pv lv sv) := HX2.out.below HX2.out.lt hb3
  have HK3 : Hid (Wk w w3 (w2.heap.size + 2) (w2.heap.size + 1) g pv lv sv (.slice ia inp.length ic) inp 0 []) := ⟨HB2.out.trans (hb3.mono HB2.out.size), hw3, by have := HB2.out.size; omega, by have := HB2.out.size; omega, fun b hb => by simp at hb⟩
  have HCall := (HN.out (w2.heap.size + 2) (w2.heap.size + 1)) w3 0 [] g.start HK3.out hs1 hs2 (Nat.zero_le _)
  generalize w2.heap.size + 2 = W at *
  generalize w2.heap.size + 1 = M at *
  have HCL : Hid (Calls Tryd.prog 15 #[.pointer (some ⟨W, 0, none⟩), u, .int .i64 g.start] w3 fun e w' => PostW w W M g pv lv sv (.slice ia inp.length ic) inp (lvT g.prods inp t (-1 - g.start) 0) e w') := HCall
  clear HCall q0 q1 q2 q3 q4 q5 q6 hw3 hb3 HX2 HF HN HK3
  obtain ⟨q0, q1, q2, q3, q4, q5, q6⟩ := HX3.out
  go_wp2_with fail
  go_at_call 15
  refine HCL.out.mono ?_
  intro e w4 hq
  obtain ⟨hb4, hq⟩ := hq
  rcases hq with ⟨ho, rfl⟩ | ⟨y, ho, rfl, K4, hW4⟩
  · have HZ : Hid (R = false) := by show _ = _; rw [← HR.out, ho]; rfl
    have HB4 : Hid (Below w.heap.size w w4) := hb4
    clear q0 q1 q2 q3 q4 q5 q6 hb4 ho HR HCL
    go_wp2
    go_ret
    exact ⟨by rw [HZ.out]; rfl, HB4.out⟩
  · obtain ⟨_, _, m7, _⟩ := hW4.wk.cells
    have hWl := hW4.wk.lt
    have HB4 : Hid (Below w.heap.size w w4) := hb4
    have HZ : Hid (R = ((y : Int) == (inp.length : Int))) := by
      show _ = _
      rw [← HR.out, ho, Bool.eq_iff_iff, decide_eq_true_iff, beq_iff_eq]
      simp
      omega
    clear q0 q1 q2 q3 q4 q5 q6 hb4 ho HR HCL hW4
    go_wp2
    go_ret
    exact ⟨by rw [HZ.out]; rfl, HB4.out⟩

end Go.Proofs.YtbgklfmhmpjboaaDoor
