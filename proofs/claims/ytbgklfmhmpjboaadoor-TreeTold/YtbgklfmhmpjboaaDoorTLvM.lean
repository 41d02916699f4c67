/- The document: the leaves of a tree: nodes, and all. -/
import Derived.Test.YtbgklfmhmpjboaaDoorTLvN
namespace Go.Proofs.YtbgklfmhmpjboaaDoor
open Go.RowKit
set_option linter.unusedVariables false
set_option maxRecDepth 100000

/-- what leaves answers, of a tree at a place of memory -/
def LvC (g : Gm) (pv lv sv iv : Value) (inp : List Int) (w : World) (u : Value) (t : Tr) : Prop := ∀ w', Below w.heap.size w w' → ∀ (s : Int) (a : Nat), -301 ≤ s → s ≤ 300 → a ≤ inp.length →
  Calls Tryd.prog 12 #[gv g pv lv sv, u, .int .i64 s, iv, .int .i64 a] w' fun e w'' => e = .returned (.int .i64 (lvI (lvT g.prods inp t s a))) ∧ Below w'.heap.size w' w''

set_option maxHeartbeats 8000000 in
theorem leaves_node (g : Gm) (pv lv sv : Value) (inp : List Int) (iv : Value) (p : Int) (b : Nat) (ks : List Tr) (hn : ks.length ≤ 1000000000000000) (ka : Option Addr) (kc : Nat) (w : World) (hb : w.heap[b]? = some (.cells #[.int .i64 p, .int .i64 0, .slice ka ks.length kc] 40 (0, 0))) (hG : GrM w g pv lv sv) (hP : PsOk g.prods) (hi : inp.length ≤ 12)
    (s : Int) (hs : s < 0) (hs2 : -301 ≤ s) (a : Nat) (ha : a ≤ inp.length) (hok : nodeB g.prods p 0 ks.length (-1 - s) = true)
    (hK : ∀ j, j < ks.length → ∃ kb off u, ka = some ⟨kb, off, none⟩ ∧ kb < w.heap.size ∧ w.cell? ⟨kb, off + j, none⟩ = some u ∧ LvC g pv lv sv iv inp w u (ks.getD j nilT)) :
    Calls Tryd.prog 12 #[gv g pv lv sv, .pointer (some ⟨b, 0, none⟩), .int .i64 s, iv, .int .i64 a] w fun e w' => e = .returned (.int .i64 (lvI (runK (ks.map (lvT g.prods inp)) (g.prods.getD p.toNat noPd).right a))) ∧ Below w.heap.size w w' := by
  have hB0 := boxG_below w g pv lv sv
  have hB2 := boxG_box w g pv lv sv
  have hlt := (Array.getElem?_eq_some_iff.1 hb).1
  obtain ⟨pa, pc, rfl⟩ := hG.prods.slice
  have HP : Hid (PdsM w (.slice pa g.prods.length pc) g.prods) := hG.prods
  unfold nodeB at hok
  simp only [Bool.and_eq_true, decide_eq_true_eq] at hok
  obtain ⟨⟨⟨⟨hp0, hp1⟩, _⟩, hpl⟩, hpr⟩ := hok
  have HPN : Hid (p.toNat < g.prods.length) := by show _ < _; omega
  obtain ⟨pb, poff, rv, rfl, hpb, hpd⟩ := HP.out.at HPN.out
  have hmem := getD_memP g.prods p.toNat HPN.out
  have HSY : Hid (∀ x ∈ (g.prods.getD p.toNat noPd).right, -300 ≤ x ∧ x ≤ 300) := hP.syms _ hmem
  clear hG hP hmem HP
  obtain ⟨e0, e1, e2, hr⟩ := hpd
  generalize hpr' : g.prods.getD p.toNat noPd = pr at *
  have HPR : Hid (g.prods.getD p.toNat noPd = pr) := hpr'
  clear hpr'
  obtain ⟨ra, rc, rfl⟩ := hr.slice
  have HRT : Hid (IntsR w (.slice ra pr.right.length rc) pr.right) := hr
  clear hr e2
  have HC : Hid (∀ w', Below w.heap.size w w' → w'.cell? ⟨b, 0, none⟩ = some (.int .i64 p) ∧ w'.cell? ⟨b, 1, none⟩ = some (.int .i64 0) ∧ w'.cell? ⟨b, 2, none⟩ = some (.slice ka ks.length kc) ∧ w'.cell? ⟨pb, poff + p.toNat * 3, none⟩ = some (.int .i64 pr.left) ∧ w'.cell? ⟨pb, poff + p.toNat * 3 + 1, none⟩ = some (.slice ra pr.right.length rc)) := fun w' h => by
    have hbb := (h.block b hlt).trans hb
    exact ⟨by simp [World.cell?, hbb], by simp [World.cell?, hbb], by simp [World.cell?, hbb], (h.cell (p := ⟨pb, poff + p.toNat * 3, none⟩) hpb).trans e0, (h.cell (p := ⟨pb, poff + p.toNat * 3 + 1, none⟩) hpb).trans e1⟩
  clear hb e0 e1
  obtain ⟨c0, c1, c2, c3, c4⟩ := HC.out _ hB0
  have HBX : Hid (BoxG (boxG w g (.slice (some ⟨pb, poff, none⟩) g.prods.length pc) lv sv) w.heap.size g (.slice (some ⟨pb, poff, none⟩) g.prods.length pc) lv sv) := hB2
  clear hB2
  have HK : Hid (∀ j, j < ks.length → ∃ kb off u, ka = some ⟨kb, off, none⟩ ∧ kb < w.heap.size ∧ w.cell? ⟨kb, off + j, none⟩ = some u ∧ LvC g (.slice (some ⟨pb, poff, none⟩) g.prods.length pc) lv sv iv inp w u (ks.getD j nilT)) := hK
  clear hK
  have HRR : Hid (runK (ks.map (lvT g.prods inp)) pr.right a = runK (ks.map (lvT g.prods inp)) pr.right a) := rfl
  generalize hR : lvI (runK (ks.map (lvT g.prods inp)) pr.right a) = R at *
  have HR : Hid (lvI (runK (ks.map (lvT g.prods inp)) pr.right a) = R) := hR
  clear hR HRR
  have HRL : Hid (pr.right.length = ks.length) := hpr
  rw [hpr] at c4
  obtain ⟨q, hq⟩ : ∃ q : Nat, -1 - s = (q : Int) := ⟨(-1 - s).toNat, by omega⟩
  have hsub : IntKind.i64.wrap (-1 - s) = (q : Int) := by rw [IntKind.wrap_i64]; omega
  rw [hpl, hq] at c3
  have HPL : Hid (pr.left = (q : Int)) := by show _ = _; rw [hpl, hq]
  clear hpl hpr hq
  obtain ⟨q0, q1, q2, q3, q4, q5, q6⟩ := HBX.out
  have HGV : Hid (gv g (.slice (some ⟨pb, poff, none⟩) g.prods.length pc) lv sv = gv g (.slice (some ⟨pb, poff, none⟩) g.prods.length pc) lv sv) := rfl
  have hsg : decide (s ≥ 0) = false := decide_eq_false (by omega)
  have d1 : decide (p < 0) = false := decide_eq_false (by omega)
  have d2 : decide (p ≥ (g.prods.length : Int)) = false := decide_eq_false (by omega)
  have hbl : b < w.heap.size + 1 := by omega
  have hpb2 : pb < w.heap.size + 1 := by omega
  generalize hN : ks.length = n at *
  have HN : Hid (ks.length = n) := hN
  clear hN
  clear q1 q2 q3 q5 q6
  unfold gv gvs
  have HBW : Hid (∀ wr, Below (w.heap.size + 1) (boxG w g (.slice (some ⟨pb, poff, none⟩) g.prods.length pc) lv sv) wr → Below w.heap.size w wr) := fun wr h => hB0.trans (h.mono (Nat.le_succ _))
  generalize hW : boxG w g (.slice (some ⟨pb, poff, none⟩) g.prods.length pc) lv sv = W at *
  have HW : Hid (w.alloc (.cells #[.int .i64 g.terms, .int .i64 g.names, .int .i64 g.start, .slice (some ⟨pb, poff, none⟩) g.prods.length pc, lv, sv] 25) = W) := hW
  clear hW
  go_enter Tryd.func12, Tryd.ntmps12
  go_wp2_with fail
  rw [HW.out]
  go_quiet (fail)
  have HBD : Hid (Below (w.heap.size + 1) W (W.drewN nq)) := below_drewG (Below.refl _ _) _
  generalize W.drewN nq = W2 at *
  clear c0 c1 c2 c3 c4 d1 d2 q0 q4 HW
  go_wp2
  go_loopw [4, 11] (fun av iv wr => ∃ (j x : Nat), j ≤ n ∧ x ≤ inp.length ∧ av = .int .i64 x ∧ iv = .int .i64 j ∧ Hid (runK ((ks.map (lvT g.prods inp)).drop j) (pr.right.drop j) x = runK (ks.map (lvT g.prods inp)) pr.right a) ∧ Hid (Below (w.heap.size + 1) W wr)) (fun _ iv _ => n - (intOf iv).toNat)
  case atStart => exact ⟨0, a, Nat.zero_le _, ha, rfl, rfl, (by show _ = _; rw [List.drop_zero, List.drop_zero]), HBD⟩
  case round =>
    obtain ⟨j, x, hj, hx, rfl, rfl, HM, HBR⟩ := hrel
    have hbw := HBW.out wr HBR.out
    obtain ⟨c0, c1, c2, c3, c4⟩ := HC.out wr hbw
    rw [HRL.out] at c4
    by_cases hjn : j < n
    · obtain ⟨kb, off, u, rfl, hkb, hu, hLv⟩ := HK.out j hjn
      have hrj : j < pr.right.length := by rw [HRL.out]; exact hjn
      obtain ⟨rb, roff, rfl, hrb, hrc⟩ := HRT.out.at hrj
      have hsy := HSY.out _ (getD_memI _ _ hrj)
      have HST : Hid (runK ((ks.map (lvT g.prods inp)).drop j) (pr.right.drop j) x = match lvT g.prods inp (ks.getD j nilT) (pr.right.getD j 0) x with | none => none | some y => runK ((ks.map (lvT g.prods inp)).drop (j + 1)) (pr.right.drop (j + 1)) y) := by
        have hjk : j < ks.length := by rw [HN.out]; exact hjn
        exact runK_drop _ _ j x (lvT g.prods inp (ks.getD j nilT)) (by simp [hjk]) hrj
      have HTP : Hid (∀ y, lvT g.prods inp (ks.getD j nilT) (pr.right.getD j 0) x = some y → y ≤ inp.length) := fun y h => lvT_top _ _ _ _ _ _ hx h
      generalize ks.getD j nilT = kt at *
      generalize pr.right.getD j 0 = sy at *
      have x1 := (hbw.cell (p := ⟨kb, off + j, none⟩) hkb).trans hu
      have x2 := (hbw.cell (p := ⟨rb, roff + j, none⟩) hrb).trans hrc
      have HLv : Hid (LvC g (.slice (some ⟨pb, poff, none⟩) g.prods.length pc) lv sv iv inp w u kt) := hLv
      clear hLv hu hrc
      have HX : Hid (∀ w', Below (w.heap.size + 1) W w' → w'.cell? ⟨w.heap.size, 0, none⟩ = some (.int .i64 g.terms) ∧ w'.cell? ⟨w.heap.size, 1, none⟩ = some (.int .i64 g.names) ∧ w'.cell? ⟨w.heap.size, 2, none⟩ = some (.int .i64 g.start) ∧ w'.cell? ⟨w.heap.size, 3, none⟩ = some (.slice (some ⟨pb, poff, none⟩) g.prods.length pc) ∧ w'.cell? ⟨w.heap.size, 4, none⟩ = some lv ∧ w'.cell? ⟨w.heap.size, 5, none⟩ = some sv ∧ w'.cell? ⟨b, 2, none⟩ = some (.slice (some ⟨kb, off, none⟩) n kc) ∧ w'.cell? ⟨kb, off + j, none⟩ = some u ∧ w'.cell? ⟨b, 0, none⟩ = some (.int .i64 p) ∧ w'.cell? ⟨pb, poff + p.toNat * 3 + 1, none⟩ = some (.slice (some ⟨rb, roff, none⟩) n rc) ∧ w'.cell? ⟨rb, roff + j, none⟩ = some (.int .i64 sy)) := fun w' h => by
        have hh := HBW.out w' h
        obtain ⟨z0, z1, z2, z3, z4⟩ := HC.out w' hh
        rw [HRL.out] at z4
        obtain ⟨_, r1, r2, r3, r4, r5, r6⟩ := HBX.out.below (Nat.lt_succ_self _) h
        exact ⟨r1, r2, r3, r4, r5, r6, z2, (hh.cell (p := ⟨kb, off + j, none⟩) hkb).trans ((hbw.cell (p := ⟨kb, off + j, none⟩) hkb).symm.trans x1), z0, z4, (hh.cell (p := ⟨rb, roff + j, none⟩) hrb).trans ((hbw.cell (p := ⟨rb, roff + j, none⟩) hrb).symm.trans x2)⟩
      have HB3 := HBX.out.below (Nat.lt_succ_self _) HBR.out
      obtain ⟨q0, q1, q2, q3, q4, q5, q6⟩ := HB3
      have hbl2 : b < wr.heap.size := by have := hbw.size; omega
      have hkb2 : kb < wr.heap.size := by have := hbw.size; omega
      have hpb3 : pb < wr.heap.size := by have := hbw.size; omega
      have hrb2 : rb < wr.heap.size := by have := hbw.size; omega
      have HCall : Hid (∀ w', Below w.heap.size w w' → Calls Tryd.prog 12 #[.agg #[.int .i64 g.terms, .int .i64 g.names, .int .i64 g.start, .slice (some ⟨pb, poff, none⟩) g.prods.length pc, lv, sv], u, .int .i64 sy, iv, .int .i64 x] w' fun e w'' => e = .returned (.int .i64 (lvI (lvT g.prods inp kt sy x))) ∧ Below w'.heap.size w' w'') := fun w' h => HLv.out w' h sy x (by omega) hsy.2 hx
      rw [HRL.out] at HRT
      have HDR : Hid (Below w.heap.size w wr.drew) := hbw.trans ⟨rfl, rfl, rfl, Nat.le_refl _, fun _ _ => rfl⟩
      have HBR2 : Hid (∀ w4, Below wr.drew.heap.size wr.drew w4 → Below (w.heap.size + 1) W w4) := fun w4 h => by
        have hd : Below (w.heap.size + 1) wr wr.drew := ⟨rfl, rfl, rfl, Nat.le_refl _, fun _ _ => rfl⟩
        have hz : w.heap.size + 1 ≤ wr.drew.heap.size := by have := HBX.out.lt; have := HBR.out.size; show w.heap.size + 1 ≤ wr.heap.size; omega
        exact HBR.out.trans (hd.trans (h.mono hz))
      clear HLv HK HSY c1 c3 hsy
      go_wp2_with fail
      go_region_held3 (fun w' => w'.cell? ⟨w.heap.size, 0, none⟩ = some (.int .i64 g.terms) ∧ w'.cell? ⟨w.heap.size, 1, none⟩ = some (.int .i64 g.names) ∧ w'.cell? ⟨w.heap.size, 2, none⟩ = some (.int .i64 g.start) ∧ w'.cell? ⟨w.heap.size, 3, none⟩ = some (.slice (some ⟨pb, poff, none⟩) g.prods.length pc) ∧ w'.cell? ⟨w.heap.size, 4, none⟩ = some lv ∧ w'.cell? ⟨w.heap.size, 5, none⟩ = some sv ∧ w'.cell? ⟨b, 2, none⟩ = some (.slice (some ⟨kb, off, none⟩) n kc) ∧ w'.cell? ⟨kb, off + j, none⟩ = some u ∧ w'.cell? ⟨b, 0, none⟩ = some (.int .i64 p) ∧ w'.cell? ⟨pb, poff + p.toNat * 3 + 1, none⟩ = some (.slice (some ⟨rb, roff, none⟩) n rc) ∧ w'.cell? ⟨rb, roff + j, none⟩ = some (.int .i64 sy)) (go_keep) ((go_at_call 12; refine (HCall.out _ ?_).mono ?_; exact HDR.out; rintro e w4 ⟨rfl, hb4⟩; have f1 := HX.out w4 (HBR2.out w4 hb4); obtain ⟨f0, f1, f2, f3, f4, f5, f6, f7, f8, f9, f10⟩ := f1))
      all_goals
        have hw4 := HBR2.out w4 hb4
        clear c0 c2 c4 q0 q1 q2 q3 q4 q5 q6 x1 x2 f0 f1 f2 f3 f4 f5 f6 f7 f8 f9 f10 HX HCall HDR HBR2 hb4
        cases hl : lvT g.prods inp kt sy x with
        | none =>
          have HZ : Hid (R = -1) := by show _ = _; rw [← HR.out, ← HM.out, HST.out, hl]; rfl
          have hb9 := HBW.out w4 hw4
          clear HST HM HTP hl HR
          simp only [lvI]
          go_wp2
          go_ret
          exact ⟨by rw [HZ.out]; rfl, hb9⟩
        | some y =>
          have hy := HTP.out y hl
          have HM2 : Hid (runK ((ks.map (lvT g.prods inp)).drop (j + 1)) (pr.right.drop (j + 1)) y = runK (ks.map (lvT g.prods inp)) pr.right a) := by show _ = _; rw [← HM.out, HST.out, hl]
          clear HST HM HTP hl
          have HW4 : Hid (Below (w.heap.size + 1) W w4) := hw4
          clear hw4
          simp only [lvI]
          go_wp2
          go_roundw
          case rel => exact ⟨j + 1, y, by omega, hy, rfl, by go_num, HM2, HW4⟩
          case measure => simp [intOf]; omega
    · obtain rfl : j = n := by omega
      have HZ : Hid (R = (x : Int)) := by
        show _ = _
        rw [← HR.out, ← HM.out, List.drop_eq_nil_of_le (by rw [List.length_map, HN.out]; omega)]
        rfl
      clear HM HR
      go_wp2
      go_ret
      exact ⟨by rw [HZ.out]; rfl, hbw⟩

/-- all trees -/
theorem leaves_all (g : Gm) (pv lv sv : Value) (inp : List Int) (iv : Value) (hP : PsOk g.prods) (hi : inp.length ≤ 12) {ok : Nat → Prop} : ∀ (n : Nat) (w : World) (v : Value) (t : Tr), GrM w g pv lv sv → IntsR w iv inp → IsTr ok n w v t → (∀ m, okN m t) → LvC g pv lv sv iv inp w v t
  | 0, w, v, t, _, _, h, _ => h.elim
  | n + 1, w, v, t, hG, hI, h, hk => by
    intro w' hb s a h1 h2 ha
    have hG' := hG.below hb
    have hI' := hI.below hb
    rcases h with ⟨rfl, rfl⟩ | ⟨his, b, kv, rfl, hok, hblk, hkids⟩
    · refine (leaves_nil g pv lv sv iv s a w').mono ?_
      rintro e w'' ⟨rfl, hb2⟩
      exact ⟨by rw [lvT_eq]; rfl, hb2⟩
    · have hblk' := (hb.block b (Array.getElem?_eq_some_iff.1 hblk).1).trans hblk
      have hkl : t.kids.length ≤ 1000000000000000 := (hk 1).1
      obtain ⟨ka, kc, rfl⟩ := hkids.slice
      rw [lvT_eq, his]
      simp only [Bool.true_eq_false, if_false]
      by_cases hs : 0 ≤ s
      · rw [if_pos hs]
        exact leaves_leaf g pv lv sv inp iv hi t.prod t.tok b t.kids.length ka kc w' hblk' hI' s hs a ha
      · rw [if_neg hs]
        cases hnb : nodeB g.prods t.prod t.tok t.kids.length (-1 - s) with
        | false => exact leaves_bad g pv lv sv iv t.prod t.tok b t.kids.length hkl ka kc w' hblk' hG' hP s (by omega) h1 a hnb
        | true =>
          have htk : t.tok = 0 := by unfold nodeB at hnb; simp at hnb; exact hnb.1.1.2
          rw [htk] at hblk' hnb
          refine leaves_node g pv lv sv inp iv t.prod b t.kids hkl ka kc w' hblk' hG' hP hi s (by omega) h1 a ha hnb fun j hj => ?_
          obtain ⟨kb, off, u, rfl, hkb, hc, hu⟩ := hkids.at hj
          refine ⟨kb, off, u, rfl, Nat.lt_of_lt_of_le hkb hb.size, (hb.cell (p := ⟨kb, off + j, none⟩) hkb).trans hc, ?_⟩
          refine leaves_all g pv lv sv inp iv hP hi n w' u _ hG' hI' (hu.below hb) fun m => ?_
          have hm := (hk (m + 1)).2 (t.kids.getD j nilT) (by rw [List.getD_eq_getElem?_getD, List.getElem?_eq_getElem hj]; exact List.getElem_mem hj)
          exact hm

end Go.Proofs.YtbgklfmhmpjboaaDoor
