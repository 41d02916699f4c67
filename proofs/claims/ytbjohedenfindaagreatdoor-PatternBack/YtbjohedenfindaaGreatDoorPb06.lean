/- Texts of the proof, put together: PStretch, PSweep, RMore, Point. -/
import Derived.Test.YtbjohedenfindaaGreatDoorPb04
import Derived.Test.YtbjohedenfindaaGreatDoorPb05
import Derived.Test.YtbjohedenfindaaGreatDoorProg
import Derived.Test.YtbjohedenfindaaGreatDoorPb01
import Derived.WalkKit
import Derived.WalkSpells
import Derived.WalkLawsBesides
namespace Go.Proofs.YtbjohedenfindaaGreatDoor
open Go.RowKit
set_option linter.unusedVariables false
set_option maxRecDepth 100000

theorem edgesOf_any (vs : Value) (ls : List (List Rg)) (w : World) (hl : ls.length ≤ 1000) (hne : ls ≠ []) (K : Nat) (hK1 : K ≤ 400000) (hK : ls.length * (2 * K) ≤ 40000000) (hll : ∀ l ∈ ls, l.length ≤ K) (hs : SetsAt w vs ls) :
    Calls Tryz.prog 151 #[vs] w fun e w' => ∃ v' E, e = .returned v' ∧ E.Perm (gen 0 ls) ∧ Asc E ∧ EdgesAt w' w.heap.size v' E ∧ Below w.heap.size w w' := by
  rcases hs with ⟨rfl, _⟩ | ⟨b, off, c, rfl, hb, hc⟩
  · exact absurd rfl hne
  · exact edgesOf_row b off c ls w hl K hK1 hK hll hb hc

theorem edges_slice {w : World} {B : Nat} {v : Value} {E : List Eg} (h : EdgesAt w B v E) : ∃ a c, v = .slice a E.length c := by
  rcases h with ⟨rfl, a, c, rfl⟩ | ⟨g, c, rfl, _⟩
  · exact ⟨a, c, rfl⟩
  · exact ⟨_, _, rfl⟩

theorem edges_cells {w : World} {B : Nat} {a : Option Addr} {c : Nat} {E : List Eg} (h : EdgesAt w B (.slice a E.length c) E) (j : Nat) (hj : j < E.length) : ∃ g, a = some ⟨g, 0, none⟩ ∧ w.cell? ⟨g, j * 3, none⟩ = some (.int .i64 (E.getD j (0, 0, 0)).1) ∧ w.cell? ⟨g, j * 3 + 1, none⟩ = some (.int .i64 (E.getD j (0, 0, 0)).2.1) ∧ w.cell? ⟨g, j * 3 + 2, none⟩ = some (.int .i64 (E.getD j (0, 0, 0)).2.2) := by
  rcases h with ⟨rfl, _⟩ | ⟨g, c', e, _, _, hc⟩
  · simp at hj
  · simp only [Value.slice.injEq, true_and] at e
    exact ⟨g, e.1, by simpa [encE] using hc j hj 0 (by omega), by simpa [encE] using hc j hj 1 (by omega), by simpa [encE] using hc j hj 2 (by omega)⟩

theorem take_snoc_eg (E : List Eg) (k : Nat) (h : k < E.length) : E.take (k + 1) = E.take k ++ [E.getD k (0, 0, 0)] ∧ E.drop k = E.getD k (0, 0, 0) :: E.drop (k + 1) ∧ E = E.take k ++ E.getD k (0, 0, 0) :: E.drop (k + 1) := by
  have e : E.getD k (0, 0, 0) = E[k] := by simp [h]
  rw [e]
  refine ⟨List.take_succ_eq_append_getElem h, List.drop_eq_getElem_cons h, ?_⟩
  conv => lhs; rw [← List.take_append_drop k E]
  rw [List.drop_eq_getElem_cons h]

theorem take_st {g : Nat} {want : Bool → Bool → Bool} (hw : Wants g want) {W0 : World} {B0 F D O td : Nat} {v1 : Value} {E : List Eg} {W : World} {d0 d1 : Int} {v : Value} {out : List Rg} (h : StS W0 B0 F D O td g v1 E W d0 d1 v out) (lo hi : Int)
    (hF : F < W0.heap.size) (hD : D < W0.heap.size) (hO : O < W0.heap.size) (hB : B0 ≤ W0.heap.size) (hBO : B0 ≤ O) (hFO : F ≠ O) (hDO : D ≠ O) (hlen : out.length ≤ 1000000) (hbd : ∀ r ∈ out, 0 ≤ r.2 ∧ r.2 ≤ 1114111) :
    Calls Tryz.prog 134 #[.agg #[.int .i64 lo, .int .i64 hi], .pointer (some ⟨F, 0, none⟩), .pointer (some ⟨D, 0, none⟩), .pointer (some ⟨O, 0, none⟩)] W fun e w' => e = .returned (.tuple #[]) ∧ ∃ v', StS W0 B0 F D O td g v1 E w' d0 d1 v' (if want (decide (0 < d0)) (decide (0 < d1)) then growL out lo hi else out) ∧ ∀ (k : Nat) (cur : Array Value), W0.heap.size ≤ k → W.heap[k]? = some (.cells cur 207 (0, 0)) → w'.heap[k]? = some (.cells cur 207 (0, 0)) := by
  have hs := h.size
  have c0 : W.cell? ⟨D, 0, none⟩ = some (.int .i64 d0) := by simp [World.cell?, h.hD]
  have c1 : W.cell? ⟨D, 1, none⟩ = some (.int .i64 d1) := by simp [World.cell?, h.hD]
  cases hq : want (decide (0 < d0)) (decide (0 < d1))
  · refine (takeS_no g want hw F D O d0 d1 lo hi W h.cF c0 c1 (by omega) (by omega) hq).mono ?_
    rintro e w' ⟨rfl, hg⟩
    exact ⟨rfl, v, h.still hg hF hD hO hB, fun k cur _ hc => (hg.block k (Array.getElem?_eq_some_iff.1 hc).1 (by simp)).trans hc⟩
  · refine (takeS_yes g want hw W0.heap.size F D O d0 d1 lo hi v out W h.cF c0 c1 (by omega) (by omega) h.hO (by omega) h.own hs hlen hbd hq).mono ?_
    rintro e w' ⟨rfl, v', w1, ho, hg, rfl⟩
    refine ⟨rfl, v', h.put hg hF hD hO hB hBO hFO hDO ho, fun k cur hk hc => ?_⟩
    rw [Below.heap_setCell _ _ _ _ (fun e => by simp at e; omega)]
    refine (hg.block k (Array.getElem?_eq_some_iff.1 hc).1 (fun e => ?_)).trans hc
    obtain ⟨cc, fz, hcc⟩ := Lib.ownsRow_kind h.own k e.symm
    rw [hc] at hcc
    simp at hcc

theorem turn_st {g : Nat} {W0 : World} {B0 F D O td : Nat} {v1 : Value} {E : List Eg} {W : World} {d0 d1 : Int} {v : Value} {out : List Rg} (h : StS W0 B0 F D O td g v1 E W d0 d1 v out) (st by' : Int)
    (hF : F < W0.heap.size) (hD : D < W0.heap.size) (hO : O < W0.heap.size) (hBD : B0 ≤ D) (hFD : F ≠ D) (hDO : D ≠ O) (hst : st = 0 ∨ st = 1) (b0 : -1 ≤ by') (b1 : by' ≤ 1) (l0 : -1000000 ≤ d0) (u0 : d0 ≤ 1000000) (l1 : -1000000 ≤ d1) (u1 : d1 ≤ 1000000) :
    Calls Tryz.prog 132 #[.int .i64 st, .int .i64 by', .pointer (some ⟨D, 0, none⟩)] W fun e w' => e = .returned (.tuple #[]) ∧ StS W0 B0 F D O td g v1 E w' (d0 + if st = 0 then by' else 0) (d1 + if st = 1 then by' else 0) v out := by
  have c0 : W.cell? ⟨D, 0, none⟩ = some (.int .i64 d0) := by simp [World.cell?, h.hD]
  have c1 : W.cell? ⟨D, 1, none⟩ = some (.int .i64 d1) := by simp [World.cell?, h.hD]
  have f0 : W.frozen? ⟨D, 0, none⟩ = false := by simp [World.frozen?, h.hD]
  have f1 : W.frozen? ⟨D, 1, none⟩ = false := by simp [World.frozen?, h.hD]
  rcases hst with rfl | rfl
  · refine (turn_0 D d0 by' W c0 f0 l0 u0 b0 b1).mono ?_
    rintro e w' ⟨rfl, rfl⟩
    exact ⟨rfl, h.turn hF hD hO hBD hFD hDO 0 (d0 + by') _ _ (by simp)⟩
  · refine (turn_1 D d1 by' W c1 f1 l1 u1 b0 b1).mono ?_
    rintro e w' ⟨rfl, rfl⟩
    exact ⟨rfl, h.turn hF hD hO hBD hFD hDO 1 (d1 + by') _ _ (by simp)⟩

set_option maxHeartbeats 2000000 in
theorem stretch_any (g : Nat) (want : Bool → Bool → Bool) (hw : Wants g want) (B0 F D O td : Nat) (vs : Value) (a b : List Rg) (W0 : World) (hla : a.length ≤ 120000) (hlb : b.length ≤ 120000)
    (hF : F < W0.heap.size) (hD : D < W0.heap.size) (hO : O < W0.heap.size) (hB : B0 ≤ W0.heap.size) (hBO : B0 ≤ O) (hBD : B0 ≤ D) (hFO : F ≠ O) (hFD : F ≠ D) (hDO : D ≠ O)
    (cF : W0.cell? ⟨F, 0, none⟩ = some (.func (.func g) #[] #[])) (cD : W0.heap[D]? = some (.cells #[.int .i64 0, .int .i64 0] td (0, 0))) (cO : W0.heap[O]? = some (.cells #[.slice none 0 0] 33 (0, 0))) (hs : SetsAt W0 vs [a, b]) :
    Calls Tryz.prog 133 #[vs, .func (.func 132) #[] #[.pointer (some ⟨D, 0, none⟩)], .func (.func 134) #[] #[.pointer (some ⟨F, 0, none⟩), .pointer (some ⟨D, 0, none⟩), .pointer (some ⟨O, 0, none⟩)]] W0 fun e w' =>
      e = .returned (.tuple #[]) ∧ ∃ v out, w'.heap[O]? = some (.cells #[v] 33 (0, 0)) ∧ OwnR w' W0.heap.size v out ∧ Upto out 1114112 (fun p => want (hasL a p) (hasL b p)) ∧ Below B0 W0 w' ∧ out.length ≤ 1000000 := by
  have eg1 : ∀ args w, (callFunc 132 args).run Tryz.prog w = .ok (.enter 132 args) w := enters_of Tryz.func132 (by kernel_rfl) rfl
  have eg2 : ∀ args w, (callFunc 134 args).run Tryz.prog w = .ok (.enter 134 args) w := enters_of Tryz.func134 (by kernel_rfl) rfl
  go_enter Tryz.func133, Tryz.ntmps133
  go_wp2_with fail
  refine (edgesOf_any vs [a, b] W0 (by simp) (by simp) 120000 (by omega) (by simp) (by simp; omega) hs).mono ?_
  rintro e w1 ⟨v1, E, rfl, hperm, hasc, hat, hb1⟩
  have hS1 : StS W0 B0 F D O td g v1 E w1 0 0 (.slice none 0 0) [] := ⟨(hb1.cell (p := ⟨F, 0, none⟩) hF).trans cF, (hb1.block D hD).trans cD, (hb1.block O hO).trans cO, World.ownsRow_nil _ _ _ _, hat, hb1.mono hB⟩
  have hEl : E.length ≤ 500000 := by
    rw [hperm.length_eq]
    have := gen_len [a, b] 0 120000 (by simp; omega)
    simp at this; omega
  have hEb : Hid (∀ e ∈ E, 0 ≤ e.1 ∧ e.1 ≤ 1114112 ∧ 0 ≤ e.2.1 ∧ e.2.1 < 2 ∧ (e.2.2 = 1 ∨ e.2.2 = -1)) := fun e he => by
    have := gen_bd [a, b] 0 e (hperm.mem_iff.1 he)
    simpa using this
  have HP : Hid (E.Perm (gen 0 [a, b])) := hperm
  have HA : Hid (Asc E) := hasc
  clear hperm hasc cF cD cO hs hb1
  have hat2 := edges_slice hat
  obtain ⟨ea, ec, rfl⟩ := hat2
  clear hat
  have hsw0 : Swept [] E 0 [] (askD want E) := ⟨Upto.nil _, by simp, fun e he => (hEb.out e he).1, by omega, by omega⟩
  go_wp2
  go_loopw [6, 12] (fun fv i wr => ∃ (k : Nat) (fr : Int) (v : Value) (out : List Rg), k ≤ E.length ∧ i = .int .i64 k ∧ fv = .int .i64 fr ∧ StS W0 B0 F D O td g (.slice ea E.length ec) E wr (sumS (E.take k) 0) (sumS (E.take k) 1) v out ∧ Swept (E.take k) (E.drop k) fr out (askD want E) ∧ out.length ≤ k) (fun _ i _ => E.length - (intOf i).toNat)
  case atStart => exact ⟨0, 0, _, [], Nat.zero_le _, rfl, rfl, hS1, hsw0, by simp⟩
  case round =>
    obtain ⟨k, fr, v, out, hk, rfl, rfl, hS, hsw00, hol⟩ := hrel
    have HSW : Hid (Swept (E.take k) (E.drop k) fr out (askD want E)) := hsw00
    clear hsw00 hS1 hsw0
    by_cases hlt : k < E.length
    · obtain ⟨tk, dr, whole⟩ := take_snoc_eg E k hlt
      have hmem : E.getD k (0, 0, 0) ∈ E := by simp [hlt]
      have hbe := hEb.out _ hmem
      have hAll : ∀ e ∈ E.take k, e.2.2 = 1 ∨ e.2.2 = -1 := fun e he => (hEb.out e (List.mem_of_mem_take he)).2.2.2.2
      have hs0 := sumS_bd 0 (E.take k) hAll
      have hs1 := sumS_bd 1 (E.take k) hAll
      have htl : (E.take k).length ≤ k := List.length_take_le _ _
      have n0 : sumS (E.take (k + 1)) 0 = sumS (E.take k) 0 + if (E.getD k (0, 0, 0)).2.1 = 0 then (E.getD k (0, 0, 0)).2.2 else 0 := by rw [tk, sumS_snoc]
      have n1 : sumS (E.take (k + 1)) 1 = sumS (E.take k) 1 + if (E.getD k (0, 0, 0)).2.1 = 1 then (E.getD k (0, 0, 0)).2.2 else 0 := by rw [tk, sumS_snoc]
      obtain ⟨eg, rfl, e0, e1, e2⟩ := edges_cells hS.edg k hlt
      have hobd := upto_bd HSW.out.upto HSW.out.high
      have hswA := HSW.out
      rw [dr] at hswA
      have hasc := HA.out
      have HT1 : Hid (E.take (k + 1) = E.take k ++ [E.getD k (0, 0, 0)]) := tk
      clear tk dr HSW hAll
      generalize hek : E.getD k (0, 0, 0) = ek at *
      obtain ⟨at', st, by'⟩ := ek
      simp only at e0 e1 e2 hbe n0 n1
      obtain ⟨q1, q2, q3, q4, q5⟩ := hbe
      have hst : st = 0 ∨ st = 1 := by omega
      have hby0 : -1 ≤ by' := by omega
      have hby1 : by' ≤ 1 := by omega
      have hl0 : -1000000 ≤ sumS (E.take k) 0 := by omega
      have hu0 : sumS (E.take k) 0 ≤ 1000000 := by omega
      have hl1 : -1000000 ≤ sumS (E.take k) 1 := by omega
      have hu1 : sumS (E.take k) 1 ≤ 1000000 := by omega
      have HN0 : Hid (sumS (E.take (k + 1)) 0 = sumS (E.take k) 0 + if st = 0 then by' else 0) := n0
      have HN1 : Hid (sumS (E.take (k + 1)) 1 = sumS (E.take k) 1 + if st = 1 then by' else 0) := n1
      have HST : Hid (st = 0 ∨ st = 1) := hst
      have hlow := hswA.low
      have hhigh := hswA.high
      clear n0 n1 hst q5 hmem hek hs0 hs1
      have HWH : Hid (E = E.take k ++ (at', st, by') :: E.drop (k + 1)) := whole
      clear whole
      have hSa := hS.alloc hF hD hO hB (.cells #[.int .i64 at', .int .i64 st, .int .i64 by'] 207)
      have HSA : Hid (Swept (E.take k) ((at', st, by') :: E.drop (k + 1)) fr out (askD want E)) := hswA
      have hSize := hS.size
      clear hswA hS
      generalize hdd0 : sumS (E.take k) 0 = dd0 at *
      generalize hdd1 : sumS (E.take k) 1 = dd1 at *
      have HD0 : Hid (sumS (E.take k) 0 = dd0) := hdd0
      have HD1 : Hid (sumS (E.take k) 1 = dd1) := hdd1
      clear hdd0 hdd1
      by_cases hgt : fr < at'
      · have hgl := growL_len out fr (at' - 1)
        have HSB : Hid (Swept (E.take k ++ [(at', st, by')]) (E.drop (k + 1)) at' (if want (decide (0 < dd0)) (decide (0 < dd1)) then growL out fr (at' - 1) else out) (askD want E)) := by
          have hA := HSA.out
          have hasc2 := HA.out
          have hw2 := HWH.out
          rw [hw2] at hasc2
          have hA2 : Swept (E.take k) ((at', st, by') :: E.drop (k + 1)) fr out (askD want (E.take k ++ (at', st, by') :: E.drop (k + 1))) := by rw [← hw2]; exact hA
          have := swept_turn (swept_take hA2 hasc2 hgt q2) (Int.le_refl _)
          rw [← hw2, HD0.out, HD1.out] at this
          exact this
        go_wp2_with fail
        refine (take_st hw hSa fr (at' - 1) hF hD hO hB hBO hFO hDO (by omega) hobd).mono ?_
        rintro e w2 ⟨rfl, v2, hS2, hkeep⟩
        have hwrs : W0.heap.size ≤ wr.heap.size := hSize
        have hblk := hkeep wr.heap.size #[.int .i64 at', .int .i64 st, .int .i64 by'] hwrs (heap_alloc_new wr _)
        have r0 : w2.cell? ⟨wr.heap.size, 0, none⟩ = some (.int .i64 at') := by simp [World.cell?, hblk]
        have r1 : w2.cell? ⟨wr.heap.size, 1, none⟩ = some (.int .i64 st) := by simp [World.cell?, hblk]
        have r2 : w2.cell? ⟨wr.heap.size, 2, none⟩ = some (.int .i64 by') := by simp [World.cell?, hblk]
        clear hSa e0 e1 e2 hkeep hblk
        go_wp2_with fail
        refine (turn_st hS2 st by' hF hD hO hBD hFD hDO HST.out hby0 hby1 hl0 hu0 hl1 hu1).mono ?_
        rintro e w3 ⟨rfl, hS3⟩
        go_wp2
        go_roundw
        case rel =>
          refine ⟨k + 1, at', v2, (if want (decide (0 < dd0)) (decide (0 < dd1)) then growL out fr (at' - 1) else out), by omega, by go_num, rfl, ?_, ?_, ?_⟩
          · rw [HN0.out, HN1.out]; exact hS3
          · rw [HT1.out]; exact HSB.out
          · split <;> omega
        case measure => simp [intOf]; omega
      · have HSB : Hid (Swept (E.take k ++ [(at', st, by')]) (E.drop (k + 1)) fr out (askD want E)) := swept_turn HSA.out (by simp only; omega)
        go_wp2_with fail
        refine (turn_st hSa st by' hF hD hO hBD hFD hDO HST.out hby0 hby1 hl0 hu0 hl1 hu1).mono ?_
        rintro e w3 ⟨rfl, hS3⟩
        go_wp2
        go_roundw
        case rel =>
          refine ⟨k + 1, fr, v, out, by omega, by go_num, rfl, ?_, ?_, ?_⟩
          · rw [HN0.out, HN1.out]; exact hS3
          · rw [HT1.out]; exact HSB.out
          · omega
        case measure => simp [intOf]; omega
    · have HTk : Hid (E.take k = E) := List.take_of_length_le (by omega)
      have hsw := HSW.out
      rw [HTk.out, List.drop_eq_nil_of_le (by omega)] at hsw
      have hobd := upto_bd hsw.upto hsw.high
      have hgl := growL_len out fr 1114111
      have HF : Hid (∀ o : List Rg, Upto o 1114112 (askD want E) → Upto o 1114112 (fun p => want (hasL a p) (hasL b p))) := fun o ho => ⟨ho.apart, ho.low, fun p h0 h1 => by rw [← ho.has p h0 h1, ask_sets HP.out p h0 (by omega)]⟩
      have hlow := hsw.low
      have hhigh := hsw.high
      rw [HTk.out] at hS
      by_cases hle : fr ≤ 1114111
      · have HU := HF.out _ (swept_end hsw hle)
        have HU2 : Hid (Upto (if want (decide (0 < sumS E 0)) (decide (0 < sumS E 1)) then growL out fr 1114111 else out) 1114112 (fun p => want (hasL a p) (hasL b p))) := HU
        clear hsw HU HSW
        go_wp2_with fail
        refine (take_st hw hS fr 1114111 hF hD hO hB hBO hFO hDO (by omega) hobd).mono ?_
        rintro e w2 ⟨rfl, v2, hS2, _⟩
        go_wp2
        go_end0
        exact ⟨rfl, v2, (if want (decide (0 < sumS E 0)) (decide (0 < sumS E 1)) then growL out fr 1114111 else out), hS2.hO, hS2.own, HU2.out, hS2.bel, by split <;> omega⟩
      · have HU2 : Hid (Upto out 1114112 (fun p => want (hasL a p) (hasL b p))) := HF.out _ (swept_done hsw hle)
        clear hsw HSW
        go_wp2
        go_end0
        exact ⟨rfl, v, hS.hO, out, hS.own, HU2.out, hS.bel, by omega⟩

end Go.Proofs.YtbjohedenfindaaGreatDoor

namespace Go.Proofs.YtbjohedenfindaaGreatDoor
open Go.RowKit
set_option linter.unusedVariables false
set_option maxRecDepth 100000

theorem Rngs.alloc {w : World} {v : Value} {l : List Rg} (h : Rngs w v l) (o : Obj) : Rngs (w.alloc o) v l := by
  exact h.below ((Below.refl _ w).alloc (Nat.le_refl _) o)

theorem rngs_slice {w : World} {v : Value} {l : List Rg} (h : Rngs w v l) : ∃ a c, v = .slice a l.length c := by
  rcases h with ⟨rfl, a, c, rfl⟩ | ⟨b, off, c, rfl, _⟩
  · exact ⟨a, c, rfl⟩
  · exact ⟨_, _, rfl⟩

set_option maxHeartbeats 1000000 in
theorem sweep_any (g : Nat) (want : Bool → Bool → Bool) (hw : Wants g want) (va vb : Value) (a b : List Rg) (w : World) (hla : a.length ≤ 120000) (hlb : b.length ≤ 120000) (ha : Rngs w va a) (hb : Rngs w vb b) :
    Calls Tryz.prog 117 #[va, vb, .func (.func g) #[] #[]] w fun e w' => ∃ v out, e = .returned v ∧ OwnR w' w.heap.size v out ∧ Upto out 1114112 (fun p => want (hasL a p) (hasL b p)) ∧ Below w.heap.size w w' ∧ out.length ≤ 1000000 := by
  obtain ⟨aa, ac, rfl⟩ := rngs_slice ha
  obtain ⟨ba, bc, rfl⟩ := rngs_slice hb
  have hmf : ∀ (fn : Fn) (first cap : Array Value) (w : World), (Instr.makeFunc fn first cap).run Tryz.prog w = .ok (.func fn first cap) w := fun _ _ _ _ => rfl
  go_enter Tryz.func117, Tryz.ntmps117
  go_wp2_with fail
  refine (stretch_any g want hw w.heap.size w.heap.size (w.heap.size + 1 + 1) (w.heap.size + 1) 186 _ a b _ hla hlb (by simp; omega) (by simp) (by simp) (by simp; omega) (by omega) (by omega) (by omega) (by omega) (by omega) ?_ ?_ ?_ ?_).mono ?_
  · rw [World.cell?_alloc_lt _ _ _ (by simp; omega), World.cell?_alloc_lt _ _ _ (by simp; omega), World.cell?_alloc_lt _ _ _ (by simp), World.cell?_alloc_at _ _ _ _ rfl]; rfl
  · rw [Lib.alloc_old _ _ _ (by simp)]
    have := heap_alloc_new ((w.alloc (Obj.cells #[Value.func (Fn.func g) #[] #[]] 179)).alloc (Obj.cells #[Value.slice none 0 0] 33)) (Obj.cells #[Value.int IntKind.i64 0, Value.int IntKind.i64 0] 186)
    simpa using this
  · rw [Lib.alloc_old _ _ _ (by simp), Lib.alloc_old _ _ _ (by simp)]
    have := heap_alloc_new (w.alloc (Obj.cells #[Value.func (Fn.func g) #[] #[]] 179)) (Obj.cells #[Value.slice none 0 0] 33)
    simpa using this
  · refine Or.inr ⟨w.heap.size + 1 + 1 + 1, 0, 2, rfl, by simp, fun j hj => ?_⟩
    match j, hj with
    | 0, _ => exact ⟨_, by rw [World.cell?_alloc_at _ _ _ _ (by simp)]; rfl, (((ha.alloc _).alloc _).alloc _).alloc _⟩
    | 1, _ => exact ⟨_, by rw [World.cell?_alloc_at _ _ _ _ (by simp)]; rfl, (((hb.alloc _).alloc _).alloc _).alloc _⟩
  rintro e w2 ⟨rfl, v, out, hO, hown, hU, hbel, hl⟩
  have hb0 : Below w.heap.size w ((((w.alloc (Obj.cells #[Value.func (Fn.func g) #[] #[]] 179)).alloc (Obj.cells #[Value.slice none 0 0] 33)).alloc (Obj.cells #[Value.int IntKind.i64 0, Value.int IntKind.i64 0] 186)).alloc (Obj.cells #[Value.slice aa a.length ac, Value.slice ba b.length bc] 33)) := ((((Below.refl _ w).alloc (Nat.le_refl _) _).alloc (by simp) _).alloc (by simp; omega) _).alloc (by simp; omega) _
  have hb2 := hb0.trans hbel
  have hown2 : OwnR w2 w.heap.size v out := by
    refine ⟨hown.1, ?_⟩
    rcases hown.2 with h | ⟨g', cap, cur, e1, e2, e3⟩
    · exact Or.inl h
    · exact Or.inr ⟨g', cap, cur, e1, by simp at e2; omega, e3⟩
  have cO : w2.cell? ⟨w.heap.size + 1, 0, none⟩ = some v := by simp [World.cell?, hO]
  obtain ⟨va', vc', rfl⟩ := rngs_slice hown2.rngs
  clear hO hown hbel hb0
  go_wp2
  go_ret
  exact ⟨_, out, rfl, hown2, hU, hb2, hl⟩

theorem Upto.congr {l : List Rg} {to : Int} {f g : Int → Bool} (h : Upto l to f) (hfg : ∀ p, 0 ≤ p → p < to → f p = g p) : Upto l to g := ⟨h.apart, h.low, fun p h0 h1 => by rw [← hfg p h0 h1]; exact h.has p h0 h1⟩
theorem rngs_nil (w : World) : Rngs w (.slice none 0 0) [] := Or.inl ⟨rfl, none, 0, rfl⟩
theorem wants_canon : Wants 180 (fun x _ => x) := ⟨enters_of Tryz.func180 (by kernel_rfl) rfl, fun x y W => canon1_any x y W⟩
theorem wants_other : Wants 118 (fun x _ => !x) := ⟨enters_of Tryz.func118 (by kernel_rfl) rfl, fun x y W => other1_any x y W⟩

set_option maxHeartbeats 400000 in
theorem pcanon_any (va : Value) (a : List Rg) (w : World) (hla : a.length ≤ 120000) (ha : Rngs w va a) :
    Calls Tryz.prog 170 #[va] w fun e w' => ∃ v out, e = .returned v ∧ OwnR w' w.heap.size v out ∧ Upto out 1114112 (fun p => hasL a p) ∧ Below w.heap.size w w' ∧ out.length ≤ 1000000 := by
  go_enter Tryz.func170, Tryz.ntmps170
  go_wp2_with fail
  refine (sweep_any _ _ wants_canon va (.slice none 0 0) a [] w hla (by simp) ha (rngs_nil w)).mono ?_
  rintro e w1 ⟨v, out, rfl, ho, hU, hb, hl⟩
  go_wp2
  go_ret
  exact ⟨_, out, rfl, ho, hU, hb, hl⟩

set_option maxHeartbeats 400000 in
theorem pother_any (va : Value) (a : List Rg) (w : World) (hla : a.length ≤ 120000) (ha : Rngs w va a) :
    Calls Tryz.prog 90 #[va] w fun e w' => ∃ v out, e = .returned v ∧ OwnR w' w.heap.size v out ∧ Upto out 1114112 (fun p => !(hasL a p)) ∧ Below w.heap.size w w' ∧ out.length ≤ 1000000 := by
  go_enter Tryz.func90, Tryz.ntmps90
  go_wp2_with fail
  refine (sweep_any _ _ wants_other va (.slice none 0 0) a [] w hla (by simp) ha (rngs_nil w)).mono ?_
  rintro e w1 ⟨v, out, rfl, ho, hU, hb, hl⟩
  go_wp2
  go_ret
  exact ⟨_, out, rfl, ho, hU, hb, hl⟩

end Go.Proofs.YtbjohedenfindaaGreatDoor

namespace Go.Proofs.YtbjohedenfindaaGreatDoor
open Go.RowKit
set_option linter.unusedVariables false
set_option maxRecDepth 100000

set_option maxHeartbeats 400000 in
theorem all_any (w : World) : Calls Tryz.prog 157 #[] w fun e w' => ∃ v, e = .returned v ∧ Rngs w' v [(0, 1114111)] ∧ Below w.heap.size w w' := by
  go_enter Tryz.func157, Tryz.ntmps157
  go_wp2
  go_ret
  refine ⟨_, rfl, Or.inr ⟨w.heap.size, 0, 1, rfl, by simp, fun j hj => ?_⟩, (Below.refl _ w).alloc (Nat.le_refl _) _⟩
  match j, hj with
  | 0, _ => exact ⟨by simp, by simp⟩

set_option maxHeartbeats 400000 in
theorem rcanon_any (va : Value) (a : List Rg) (w : World) (hla : a.length ≤ 600000) (ha : Rngs w va a) :
    Calls Tryz.prog 51 #[va] w fun e w' => ∃ v out, e = .returned v ∧ OwnR w' w.heap.size v out ∧ Upto out 1114112 (fun p => hasL a p) ∧ Below w.heap.size w w' ∧ out.length ≤ 5000000 := by
  go_enter Tryz.func51, Tryz.ntmps51
  go_wp2_with fail
  refine (both_any 1 va (.slice none 0 0) a [] w hla (by simp) ha (Or.inl ⟨rfl, none, 0, rfl⟩) (fun p W h1 h2 => wanted_1 va _ a [] p W (by omega) (by simp) h1 h2)).mono ?_
  rintro e w1 ⟨v, out, rfl, ho, hU, hb, hl⟩
  go_wp2
  go_ret
  refine ⟨_, out, rfl, ho, ⟨hU.apart, hU.low, fun p h0 h1 => ?_⟩, hb, hl⟩
  rw [← hU.has p h0 h1]
  show hasL a p = wantR 1 (hasB a p) (hasB [] p)
  rw [hasB_in a p h0 (by omega)]
  simp [wantR, hasB, hasL]

set_option maxHeartbeats 1000000 in
theorem sameset_rows (b off c b' off' c' : Nat) (l : List Rg) (w : World) (hz : l.length ≤ 1000000) (hc : ∀ j, j < l.length → w.cell? ⟨b, off + j * 2, none⟩ = some (.int .i64 (l.getD j (0, 0)).1) ∧ w.cell? ⟨b, off + j * 2 + 1, none⟩ = some (.int .i64 (l.getD j (0, 0)).2))
    (hc' : ∀ j, j < l.length → w.cell? ⟨b', off' + j * 2, none⟩ = some (.int .i64 (l.getD j (0, 0)).1) ∧ w.cell? ⟨b', off' + j * 2 + 1, none⟩ = some (.int .i64 (l.getD j (0, 0)).2)) :
    Calls Tryz.prog 24 #[.slice (some ⟨b, off, none⟩) l.length c, .slice (some ⟨b', off', none⟩) l.length c'] w fun e w' => e = .returned (.bool true) ∧ ∃ n, w' = w.drewN n := by
  go_enter Tryz.func24, Tryz.ntmps24
  go_wp2
  go_loopw [5] (fun i wr => ∃ k nq : Nat, k ≤ l.length ∧ i = .int .i64 k ∧ wr = w.drewN nq) (fun i _ => l.length - (intOf i).toNat)
  case atStart => exact ⟨0, 0, Nat.zero_le _, rfl, rfl⟩
  case round =>
    obtain ⟨k, nq, hk, rfl, rfl⟩ := hrel
    by_cases hlt : k < l.length
    · obtain ⟨h1, h2⟩ := hc k hlt
      obtain ⟨h3, h4⟩ := hc' k hlt
      clear hc hc'
      generalize l.getD k (0, 0) = r at *
      go_wp2
      go_quiet (fail)
      go_wp2
      go_roundw
      case rel => exact ⟨k + 1, _, by omega, by go_num, rfl⟩
      case measure => simp [intOf]; omega
    · go_wp2
      go_ret
      exact ⟨rfl, _, rfl⟩

set_option maxHeartbeats 400000 in
theorem sameset_empty (a a' : Option Addr) (c c' : Nat) (w : World) :
    Calls Tryz.prog 24 #[.slice a 0 c, .slice a' 0 c'] w fun e w' => e = .returned (.bool true) ∧ ∃ n, w' = w.drewN n := by
  go_enter Tryz.func24, Tryz.ntmps24
  go_wp2
  refine wp_loop_rounds 1 ?_
  rw [rounds_succ]
  go_wp2
  go_ret
  exact ⟨rfl, 0, rfl⟩

theorem sameset_any (v v' : Value) (l : List Rg) (w : World) (hz : l.length ≤ 1000000) (hv : Rngs w v l) (hv' : Rngs w v' l) :
    Calls Tryz.prog 24 #[v, v'] w fun e w' => e = .returned (.bool true) ∧ ∃ n, w' = w.drewN n := by
  rcases hv with ⟨rfl, a, c, rfl⟩ | ⟨b, off, c, rfl, hb, hc⟩
  · rcases hv' with ⟨_, a', c', rfl⟩ | ⟨b', off', c', rfl, hb', hc'⟩
    · exact sameset_empty a a' c c' w
    · exact sameset_empty a _ c c' w
  · rcases hv' with ⟨rfl, a', c', rfl⟩ | ⟨b', off', c', rfl, hb', hc'⟩
    · exact sameset_empty _ a' c c' w
    · exact sameset_rows b off c b' off' c' l w hz hc hc'

def sizeL : List Rg → Int
  | [] => 0
  | r :: t => (r.2 - r.1 + 1) + sizeL t
theorem sizeL_append (a b : List Rg) : sizeL (a ++ b) = sizeL a + sizeL b := by
  induction a with
  | nil => simp [sizeL]
  | cons r t ih => simp only [List.cons_append, sizeL, ih]; omega
theorem sizeL_take (l : List Rg) (k : Nat) (h : k < l.length) : sizeL (l.take (k + 1)) = sizeL (l.take k) + ((l.getD k (0, 0)).2 - (l.getD k (0, 0)).1 + 1) := by
  rw [take_snoc_rg l k h, sizeL_append]; simp [sizeL]
theorem sizeL_bd : ∀ (l : List Rg), (∀ r ∈ l, 0 ≤ r.1 ∧ r.1 ≤ r.2 ∧ r.2 ≤ 1114111) → 0 ≤ sizeL l ∧ sizeL l ≤ l.length * 1114112
  | [], _ => by simp [sizeL]
  | r :: t, h => by
    have ih := sizeL_bd t (fun x hx => h x (by simp [hx]))
    have hr := h r (by simp)
    simp only [sizeL, List.length_cons]
    omega
theorem upto_all {l : List Rg} {f : Int → Bool} (h : Upto l 1114112 f) : ∀ r ∈ l, 0 ≤ r.1 ∧ r.1 ≤ r.2 ∧ r.2 ≤ 1114111 := fun r hr => by
  have h1 := h.low r hr
  have h2 := h.apart.2 r hr
  omega

end Go.Proofs.YtbjohedenfindaaGreatDoor

namespace Go.Proofs.YtbjohedenfindaaGreatDoor
open Go.RowKit
set_option linter.unusedVariables false
set_option linter.unusedSimpArgs false
set_option maxRecDepth 100000

def byteAt (s : ByteArray) (k : Nat) : Nat := (s.get! k).toNat
def folB (s : ByteArray) (k : Nat) (lo hi : Int) : Bool := decide (k < s.size) && (decide (lo ≤ (byteAt s k : Int)) && decide ((byteAt s k : Int) ≤ hi))

theorem byteAt_get (s : ByteArray) (k : Nat) (h : k < s.size) : byteAt s k = s[k].toNat := by
  unfold byteAt
  have := get_at s k h
  rw [Nat.add_zero] at this
  rw [this]
theorem byteAt_lt (s : ByteArray) (k : Nat) : byteAt s k < 256 := (s.get! k).toNat_lt
theorem wrap_byte (b : UInt8) : wrap64 (b.toNat : Int) = (b.toNat : Int) := by
  have := b.toNat_lt
  unfold wrap64; omega

set_option maxHeartbeats 400000 in
theorem follow_any (s : ByteArray) (k : Nat) (lo hi : Int) (w : World) (hs : s.size ≤ 140737488351232) :
    Calls Tryz.prog 99 #[.string s, .int .i64 k, .int .i64 lo, .int .i64 hi] w fun e w' => e = .returned (.bool (folB s k lo hi)) ∧ w' = w := by
  by_cases hlt : k < s.size
  · have hg := byteAt_get s k hlt
    have hw := wrap_byte s[k]
    by_cases h1 : lo ≤ (s[k].toNat : Int)
    · by_cases h2 : (s[k].toNat : Int) ≤ hi
      · go_enter Tryz.func99, Tryz.ntmps99
        go_wp2
        go_ret
        exact ⟨by simp [folB, hlt, hg, h1, h2], rfl⟩
      · go_enter Tryz.func99, Tryz.ntmps99
        go_wp2
        go_ret
        exact ⟨by simp [folB, hlt, hg, h1, h2], rfl⟩
    · go_enter Tryz.func99, Tryz.ntmps99
      go_wp2
      go_ret
      exact ⟨by simp [folB, hlt, hg]; intro h; omega, rfl⟩
  · go_enter Tryz.func99, Tryz.ntmps99
    go_wp2
    go_ret
    exact ⟨by simp [folB, hlt], rfl⟩

set_option maxHeartbeats 400000 in
theorem pt_ascii (s : ByteArray) (k : Nat) (w : World) (hs : s.size ≤ 140737488351232) (hk : k < s.size) (c1 : (s[k].toNat : Int) < 128) :
    Calls Tryz.prog 62 #[.string s, .int .i64 k] w fun e w' => e = .returned (.tuple #[.int .i64 s[k].toNat, .int .i64 1, .bool true]) ∧ w' = w := by
  have hw := wrap_byte s[k]
  go_enter Tryz.func62, Tryz.ntmps62
  go_wp2
  go_ret3
  exact ⟨rfl, rfl⟩

set_option maxHeartbeats 1000000 in
theorem pt_2_f (s : ByteArray) (k : Nat) (w : World) (hs : s.size ≤ 140737488351232) (hk : k < s.size)  (c1 : 194 ≤ (s[k].toNat : Int)) (c2 : (s[k].toNat : Int) ≤ 223) (f1 : folB s (k + 1) 128 191 = false) :
    Calls Tryz.prog 62 #[.string s, .int .i64 k] w fun e w' => e = .returned (.tuple #[.int .i64 65533, .int .i64 1, .bool false]) ∧ w' = w := by
  have hw := wrap_byte s[k]
  go_enter Tryz.func62, Tryz.ntmps62
  go_wp2_with (go_at_call 99; refine (follow_any s (k + 1) 128 191 _ hs).mono ?_; rintro e w' ⟨rfl, rfl⟩)
  refine wp_loop_rounds 1 ?_
  rw [rounds_succ]
  go_wp2_with fail
  go_ret3
  exact ⟨rfl, rfl⟩

set_option maxHeartbeats 1000000 in
theorem pt_2_t (s : ByteArray) (k : Nat) (w : World) (hs : s.size ≤ 140737488351232) (hk : k < s.size) (hk1 : k + 1 < s.size) (c1 : 194 ≤ (s[k].toNat : Int)) (c2 : (s[k].toNat : Int) ≤ 223) (f1 : folB s (k + 1) 128 191 = true) :
    Calls Tryz.prog 62 #[.string s, .int .i64 k] w fun e w' => e = .returned (.tuple #[.int .i64 (((s[k].toNat : Int) - 192) * 64 + s[k + 1].toNat - 128), .int .i64 2, .bool true]) ∧ w' = w := by
  have hw := wrap_byte s[k]
  have hw1 := wrap_byte s[k + 1]
  have hb1 : (s[k + 1].toNat : Int) ≤ 255 := by have := s[k + 1].toNat_lt; omega
  go_enter Tryz.func62, Tryz.ntmps62
  go_wp2_with (go_at_call 99; refine (follow_any s (k + 1) 128 191 _ hs).mono ?_; rintro e w' ⟨rfl, rfl⟩)
  refine wp_loop_rounds 1 ?_
  rw [rounds_succ]
  go_wp2_with fail
  refine wp_loop_rounds 2 ?_
  rw [rounds_succ]
  go_wp2_with fail
  rw [rounds_succ]
  go_wp2_with fail
  go_ret3
  exact ⟨rfl, rfl⟩

set_option maxHeartbeats 1000000 in
theorem pt_z (s : ByteArray) (k : Nat) (w : World) (hs : s.size ≤ 140737488351232) (hk : k < s.size) (c1 : 128 ≤ (s[k].toNat : Int)) (c2 : (s[k].toNat : Int) < 194 ∨ 244 < (s[k].toNat : Int)) :
    Calls Tryz.prog 62 #[.string s, .int .i64 k] w fun e w' => e = .returned (.tuple #[.int .i64 65533, .int .i64 1, .bool false]) ∧ w' = w := by
  have hw := wrap_byte s[k]
  rcases c2 with c2 | c2
  all_goals
    go_enter Tryz.func62, Tryz.ntmps62
    go_wp2_with fail
    refine wp_loop_rounds 1 ?_
    rw [rounds_succ]
    go_wp2_with fail
    go_ret3
    exact ⟨rfl, rfl⟩


end Go.Proofs.YtbjohedenfindaaGreatDoor
