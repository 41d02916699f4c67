/- The program: is a tree one of a name: the kids. -/
import Derived.Test.YtbgklfmhmpjboaaDoorTNod
namespace Go.Proofs.YtbgklfmhmpjboaaDoor
open Go.RowKit
set_option linter.unusedVariables false
set_option maxRecDepth 100000

set_option maxHeartbeats 8000000 in
theorem isNode_go (W0 : World) (W M : Nat) (g : Gm) (pv lv sv iv : Value) (inp : List Int) (hin : inp.length ≤ 12) (a b : Nat) (K : List Nat) (name : Int) (w : World) (hw : Wk W0 w W M g pv lv sv iv inp a K) (p : Int) (ks : List Tr) (hn : ks.length ≤ 1000000000000000) (ka : Option Addr) (kc : Nat) (ha : a ≤ inp.length)
    (hb : W0.heap[b]? = some (.cells #[.int .i64 p, .int .i64 0, .slice ka ks.length kc] 40 (0, 0))) (hP : PdsM W0 pv g.prods) (hO : PsOk g.prods) (hok : nodeB g.prods p 0 ks.length name = true) (hK : b ∉ K)
    (hc : Calls Tryd.prog 21 #[.pointer (some ⟨W, 0, none⟩), .pointer (some ⟨b, 0, none⟩), .int .i64 name] w fun e w' => e = .returned (.bool true) ∧ Below w.heap.size w w')
    (hT : ∃ n t, IsTr (fun _ => True) n W0 (.pointer (some ⟨b, 0, none⟩)) t ∧ ∀ x, lvT g.prods inp t (-1 - name) x = runK (ks.map (lvT g.prods inp)) (g.prods.getD p.toNat noPd).right x) (hname : 0 ≤ name)
    (hkids : ∀ j, j < ks.length → ∃ kb off u, ka = some ⟨kb, off, none⟩ ∧ kb < W0.heap.size ∧ W0.cell? ⟨kb, off + j, none⟩ = some u ∧ TrC W0 W M g pv lv sv iv inp u (ks.getD j nilT)) :
    Calls Tryd.prog 15 #[.pointer (some ⟨W, 0, none⟩), .pointer (some ⟨b, 0, none⟩), .int .i64 name] w fun e w' => PostW W0 W M g pv lv sv iv inp (runK (ks.map (lvT g.prods inp)) (g.prods.getD p.toNat noPd).right a) e w' := by
  have HC : Hid (Calls Tryd.prog 21 #[.pointer (some ⟨W, 0, none⟩), .pointer (some ⟨b, 0, none⟩), .int .i64 name] w fun e w' => e = .returned (.bool true) ∧ Below w.heap.size w w') := hc
  have HW : Hid (Wk W0 w W M g pv lv sv iv inp a K) := hw
  clear hc hw
  have hbl := (Array.getElem?_eq_some_iff.1 hb).1
  unfold nodeB at hok
  simp only [Bool.and_eq_true, decide_eq_true_eq] at hok
  obtain ⟨⟨⟨⟨hp0, hp1⟩, _⟩, hpl⟩, hpr⟩ := hok
  have HPN : Hid (p.toNat < g.prods.length) := by show _ < _; omega
  obtain ⟨pa, pc, rfl⟩ := hP.slice
  obtain ⟨pb, poff, rv, rfl, hpb, hpd⟩ := hP.at HPN.out
  have hmem := getD_memP g.prods p.toNat HPN.out
  have HSY : Hid (∀ x ∈ (g.prods.getD p.toNat noPd).right, -300 ≤ x ∧ x ≤ 300) := hO.syms _ hmem
  have hrl := hO.rlen _ hmem
  clear hP hO hmem
  obtain ⟨e0, e1, e2, hr⟩ := hpd
  clear hpl
  generalize hpr' : g.prods.getD p.toNat noPd = pr at *
  clear hpr'
  obtain ⟨ra, rc, rfl⟩ := hr.slice
  have HRT : Hid (IntsR W0 (.slice ra pr.right.length rc) pr.right) := hr
  clear hr e0 e2
  have HX : Hid (∀ w', Below W0.heap.size W0 w' → w'.cell? ⟨b, 0, none⟩ = some (.int .i64 p) ∧ w'.cell? ⟨b, 2, none⟩ = some (.slice ka ks.length kc) ∧ w'.cell? ⟨pb, poff + p.toNat * 3 + 1, none⟩ = some (.slice ra pr.right.length rc) ∧ Cel w' b) := fun w' h => by
    have hbb := (h.block b hbl).trans hb
    exact ⟨by simp [World.cell?, hbb], by simp [World.cell?, hbb], (h.cell (p := ⟨pb, poff + p.toNat * 3 + 1, none⟩) hpb).trans e1, ⟨_, _, hbb⟩⟩
  clear hb e1
  have HRL : Hid (pr.right.length = ks.length) := hpr
  have HKS : Hid (∀ j, j < ks.length → ∃ kb off u, ka = some ⟨kb, off, none⟩ ∧ kb < W0.heap.size ∧ W0.cell? ⟨kb, off + j, none⟩ = some u ∧ TrC W0 W M g (.slice (some ⟨pb, poff, none⟩) g.prods.length pc) lv sv iv inp u (ks.getD j nilT)) := hkids
  have HT : Hid (∃ n t, IsTr (fun _ => True) n W0 (.pointer (some ⟨b, 0, none⟩)) t ∧ ∀ x, lvT g.prods inp t (-1 - name) x = runK (ks.map (lvT g.prods inp)) pr.right x) := hT
  clear hkids hT
  have HFS : Hid (∀ j, j < ks.length → (ks.map (lvT g.prods inp))[j]? = some (lvT g.prods inp (ks.getD j nilT))) := fun j hj => by simp [hj]
  have HFL : Hid ((ks.map (lvT g.prods inp)).length = ks.length) := by show _ = _; simp
  generalize ks.map (lvT g.prods inp) = fs at *
  generalize hN : ks.length = n at *
  clear hN
  rw [hpr] at HX HRT
  clear hpr
  have hbl2 : ∀ w', Below W0.heap.size W0 w' → b < w'.heap.size := fun w' h => Nat.lt_of_lt_of_le hbl h.size
  have hpb2 : ∀ w', Below W0.heap.size W0 w' → pb < w'.heap.size := fun w' h => Nat.lt_of_lt_of_le hpb h.size
  have HBL : Hid (∀ w', Below W0.heap.size W0 w' → b < w'.heap.size ∧ pb < w'.heap.size) := fun w' h => ⟨hbl2 w' h, hpb2 w' h⟩
  clear hbl2 hpb2
  have hp2 : p < (g.prods.length : Int) := hp1
  go_enter Tryd.func15, Tryd.ntmps15
  go_wp2_with fail
  go_at_call 21
  refine HC.out.mono ?_
  rintro e w1 ⟨rfl, hb1⟩
  have HW1 : Hid (Wk W0 w1 W M g (.slice (some ⟨pb, poff, none⟩) g.prods.length pc) lv sv iv inp a K) := HW.out.below hb1
  clear HW hb1 HC
  obtain ⟨x0, x2, x3, hcel⟩ := HX.out w1 HW1.out.bel
  have hlook := HW1.out.wk.map.look hcel HW1.out.cel
  rw [decide_eq_false hK] at hlook
  obtain ⟨m3, _, m7, m8⟩ := HW1.out.wk.cells
  have hWl := HW1.out.wk.lt
  have HW2 : Hid (Wk W0 (w1.alloc (.cells #[] 51)) W M g (.slice (some ⟨pb, poff, none⟩) g.prods.length pc) lv sv iv inp a K) := HW1.out.below (alloc_below _ _)
  have y3 := HW2.out.wk.cells.1
  have y7 := HW2.out.wk.cells.2.2.1
  obtain ⟨z0, z2, z3, _⟩ := HX.out _ HW2.out.bel
  obtain ⟨hl1, hl2⟩ := HBL.out _ HW2.out.bel
  have hWl2 := HW2.out.wk.lt
  clear hcel HW1 x0 x2 x3
  go_wp2_with fail
  clear hlook m3 m7 m8 hWl hK
  generalize w1.alloc (.cells #[] 51) = w2 at *
  go_quiet (fail)
  have HW3 : Hid (Wk W0 (w2.drewN nq) W M g (.slice (some ⟨pb, poff, none⟩) g.prods.length pc) lv sv iv inp a K) := HW2.out.below (below_drewG (Below.refl _ _) _)
  clear HW2 y3 y7 z0 z2 z3 hl1 hl2 hWl2
  generalize w2.drewN nq = w3 at *
  go_wp2
  go_loopw [44] (fun jv wr => ∃ (j x : Nat) (K' : List Nat), j ≤ n ∧ x ≤ inp.length ∧ jv = .int .i64 j ∧ Hid (runK (fs.drop j) (pr.right.drop j) x = runK fs pr.right a) ∧ Hid (Wk W0 wr W M g (.slice (some ⟨pb, poff, none⟩) g.prods.length pc) lv sv iv inp x K')) (fun jv _ => n - (intOf jv).toNat)
  case atStart => exact ⟨0, a, K, Nat.zero_le _, ha, rfl, (by show _ = _; rw [List.drop_zero, List.drop_zero]), HW3⟩
  case round =>
    obtain ⟨j, x, K', hj, hx, rfl, HM, HWr⟩ := hrel
    obtain ⟨x0, x2, x3, hcel⟩ := HX.out wr HWr.out.bel
    obtain ⟨hl1, hl2⟩ := HBL.out wr HWr.out.bel
    obtain ⟨m3, _, m7, m8⟩ := HWr.out.wk.cells
    have hWl := HWr.out.wk.lt
    by_cases hjn : j < n
    · obtain ⟨kb, off, u, rfl, hkb, hu, hTr⟩ := HKS.out j hjn
      have hrj : j < pr.right.length := by rw [HRL.out]; exact hjn
      obtain ⟨rb, roff, rfl, hrb, hrc⟩ := HRT.out.at hrj
      have hsy := HSY.out _ (getD_memI _ _ hrj)
      have hbw := HWr.out.bel
      have y1 := (hbw.cell (p := ⟨kb, off + j, none⟩) hkb).trans hu
      have y2 := (hbw.cell (p := ⟨rb, roff + j, none⟩) hrb).trans hrc
      have hkb2 : kb < wr.heap.size := Nat.lt_of_lt_of_le hkb hbw.size
      have hrb2 : rb < wr.heap.size := Nat.lt_of_lt_of_le hrb hbw.size
      have HST : Hid (runK (fs.drop j) (pr.right.drop j) x = match lvT g.prods inp (ks.getD j nilT) (pr.right.getD j 0) x with | none => none | some y => runK (fs.drop (j + 1)) (pr.right.drop (j + 1)) y) := runK_drop _ _ j x _ (HFS.out j hjn) hrj
      have HTP : Hid (∀ y, lvT g.prods inp (ks.getD j nilT) (pr.right.getD j 0) x = some y → y ≤ inp.length) := fun y h => lvT_top _ _ _ _ _ _ hx h
      have HCall : Hid (Calls Tryd.prog 22 #[.pointer (some ⟨W, 0, none⟩), u, .int .i64 (pr.right.getD j 0)] wr fun e w' => PostW W0 W M g (.slice (some ⟨pb, poff, none⟩) g.prods.length pc) lv sv iv inp (lvT g.prods inp (ks.getD j nilT) (pr.right.getD j 0) x) e w') := hTr wr x K' _ HWr.out (by omega) hsy.2 hx
      clear hTr hu hrc hsy hbw hcel m3 m7 m8 x0 x3 hl2
      generalize pr.right.getD j 0 = sy at *
      generalize lvT g.prods inp (ks.getD j nilT) sy x = o at *
      go_wp2_with fail
      go_at_call 22
      refine HCall.out.mono ?_
      intro e w4 hq
      obtain ⟨hb4, hq⟩ := hq
      rcases hq with ⟨ho, rfl⟩ | ⟨y, ho, rfl, K4, hW4⟩
      · have HZ : Hid (runK fs pr.right a = none) := by show _ = _; rw [← HM.out, HST.out, ho]
        have HB4 : Hid (Below W0.heap.size W0 w4) := hb4
        clear hb4 HST HM HTP ho HCall y1 y2 x2
        go_wp2
        go_ret
        exact ⟨HB4.out, .inl ⟨HZ.out, rfl⟩⟩
      · have hy := HTP.out y ho
        have HM2 : Hid (runK (fs.drop (j + 1)) (pr.right.drop (j + 1)) y = runK fs pr.right a) := by show _ = _; rw [← HM.out, HST.out, ho]
        have HW4 : Hid (Wk W0 w4 W M g (.slice (some ⟨pb, poff, none⟩) g.prods.length pc) lv sv iv inp y K4) := hW4
        clear hb4 HST HM HTP ho HCall hW4 y1 y2 x2
        go_wp2
        go_roundw
        case rel => exact ⟨j + 1, y, K4, by omega, hy, by go_num, HM2, HW4⟩
        case measure => simp [intOf]; omega
    · obtain rfl : j = n := by omega
      have HZ : Hid (runK fs pr.right a = some x) := by
        show _ = _
        rw [← HM.out, List.drop_eq_nil_of_le (by rw [HFL.out]; omega)]
        rfl
      clear HM
      by_cases hxa : x = a
      · subst hxa
        obtain ⟨w5, K5, hput, hM5, hK5, hg5, hs5⟩ := HWr.out.wk.map.put hcel HWr.out.cel
        have HW5 : Hid (Wk W0 w5 W M g (.slice (some ⟨pb, poff, none⟩) g.prods.length pc) lv sv iv inp x K5) := by
          have hbelow := below_but HWr.out.bel hg5 HWr.out.hM
          refine ⟨hbelow, ⟨(hg5.block W hWl (by intro e; exact HWr.out.wk.ne (Option.some.inj e))).trans HWr.out.wk.blk, hM5⟩, HWr.out.hW, HWr.out.hM, fun b' hb' => ?_⟩
          rcases (hK5 b').1 hb' with h | rfl
          · exact HWr.out.inv b' h
          · obtain ⟨nn, t, ht, hl⟩ := HT.out
            exact ⟨nn, t, name, x, ht, hname, by rw [hl]; exact HZ.out⟩
        clear hM5 hK5 hg5 hs5 hcel
        have hlt3 : ¬ (j : Int) < (j : Int) := by omega
        go_wp2
        go_ret
        exact ⟨HW5.out.bel, .inr ⟨x, HZ.out, rfl, K5, HW5.out⟩⟩
      · have d : ((x : Int) == (a : Int)) = false := by rw [beq_eq_false_iff_ne]; omega
        clear hxa hcel
        go_wp2
        go_ret
        exact ⟨HWr.out.bel, .inr ⟨x, HZ.out, rfl, K', HWr.out⟩⟩

end Go.Proofs.YtbgklfmhmpjboaaDoor
