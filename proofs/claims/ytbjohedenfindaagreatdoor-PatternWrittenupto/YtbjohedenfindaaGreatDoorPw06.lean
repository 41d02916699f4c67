/- Texts of the proof, put together: RBoth, PStretch. -/
import Derived.Test.YtbjohedenfindaaGreatDoorPw05
import Derived.Lib.OwnKind
import Derived.Deep.RegionWith
import Derived.Test.YtbjohedenfindaaGreatDoorPw04
namespace Go.Proofs.YtbjohedenfindaaGreatDoor
open Go.RowKit
set_option linter.unusedVariables false
set_option maxRecDepth 100000

theorem growL_len (l : List Rg) (lo hi : Int) : (growL l lo hi).length ≤ l.length + 1 := by
  unfold growL
  cases h : l.getLast? with
  | none => simp
  | some r =>
    dsimp only
    split <;> simp <;> omega

theorem Rngs.below {w w' : World} {v : Value} {l : List Rg} (h : Rngs w v l) (hb : Below w.heap.size w w') : Rngs w' v l := by
  rcases h with h | ⟨b, off, c, rfl, hlt, hc⟩
  · exact Or.inl h
  · have := hb.size
    exact Or.inr ⟨b, off, c, rfl, by omega, fun j hj => ⟨(hb.cell (p := ⟨b, off + j * 2, none⟩) hlt).trans (hc j hj).1, (hb.cell (p := ⟨b, off + j * 2 + 1, none⟩) hlt).trans (hc j hj).2⟩⟩

theorem ints_grown {w w' : World} {B C : Nat} {v x : Value} {zs : List Int} {l : List Rg} (h : IntsC w B v zs) (ho : OwnR w C x l) (hg : w.grownBy w' x.ownBlock) : IntsC w' B v zs :=
  h.keep (fun k cur hk => hg.block k (Array.getElem?_eq_some_iff.1 hk).1 (fun e => by
    obtain ⟨c, fz, hc⟩ := Lib.ownsRow_kind ho k e.symm
    rw [hk] at hc
    simp at hc)) hg.size

theorem upto_bd {l : List Rg} {to : Int} {f : Int → Bool} (h : Upto l to f) (ht : to ≤ 1114112) : ∀ r ∈ l, 0 ≤ r.2 ∧ r.2 ≤ 1114111 := fun r hr => by
  have h1 := h.low r hr
  have h2 := h.apart.2 r hr
  omega

theorem wrap_k64 (n : Int) (h0 : -9223372036854775808 ≤ n) (h1 : n ≤ 9223372036854775807) : IntKind.i64.wrap n = n := by
  simp [IntKind.wrap, IntKind.bits, IntKind.signed]
  split <;> omega

set_option maxHeartbeats 1600000 in
theorem both_any (how : Int) (va vb : Value) (a b : List Rg) (w : World) (hla : a.length ≤ 600000) (hlb : b.length ≤ 600000) (ha : Rngs w va a) (hb : Rngs w vb b)
    (hW : ∀ (p : Int) (W : World), Rngs W va a → Rngs W vb b → Calls Tryz.prog 111 #[va, vb, .int .i64 how, .int .i64 p] W fun e w' => e = .returned (.bool (wantR how (hasB a p) (hasB b p))) ∧ w' = W) :
    Calls Tryz.prog 82 #[va, vb, .int .i64 how] w fun e w' => ∃ v' out, e = .returned v' ∧ OwnR w' w.heap.size v' out ∧ Upto out 1114112 (fun p => wantR how (hasB a p) (hasB b p)) ∧ Below w.heap.size w w' ∧ out.length ≤ 5000000 := by
  have HW : Hid (∀ (p : Int) (W : World), Rngs W va a → Rngs W vb b → Calls Tryz.prog 111 #[va, vb, .int .i64 how, .int .i64 p] W fun e w' => e = .returned (.bool (wantR how (hasB a p) (hasB b p))) ∧ w' = W) := hW
  clear hW
  go_enter Tryz.func82, Tryz.ntmps82
  go_wp2_with fail
  refine (ends_any _).mono ?_
  rintro e w1 ⟨v1, rfl, hI1, hb1⟩
  have hs1 := hb1.size
  go_wp2_with fail
  refine (edges_any w.heap.size v1 va [0, 1114112] a w1 (by omega) (by simp) hs1 hI1 Cuts.ends (ha.below hb1)).mono ?_
  rintro e w2 ⟨v2, rfl, hI2, hb2⟩
  have hb2' := hb1.trans (hb2.mono hs1)
  have hs2 := hb2'.size
  have hc2 := edgesL_cuts a Cuts.ends
  have hl2 := edgesL_len a [0, 1114112]
  simp only [List.length_cons, List.length_nil] at hl2
  have hv2 := edgesL_covers a [0, 1114112]
  go_wp2_with fail
  refine (edges_any w.heap.size v2 vb (edgesL [0, 1114112] a) b w2 (by omega) (by omega) hs2 hI2 hc2 (hb.below hb2')).mono ?_
  rintro e w3 ⟨v3, rfl, hI3, hb3⟩
  have hb3' := hb2'.trans (hb3.mono hs2)
  have hs3 := hb3'.size
  have hcE := edgesL_cuts b hc2
  have hlE := edgesL_len b (edgesL [0, 1114112] a)
  have hva : Covers (edgesL (edgesL [0, 1114112] a) b) a := hv2.sub (edgesL_sub b _)
  have hvb := edgesL_covers b (edgesL [0, 1114112] a)
  generalize edgesL (edgesL [0, 1114112] a) b = E at *
  clear hI1 hI2 hb1 hb2 hb2' hb3 hs1 hs2 hc2 hv2
  have hlen2 := cuts_len hcE
  have hE0 := cuts_first hcE
  have HEl : Hid (∀ k, k + 1 = E.length → E.getD k 0 = 1114112) := cuts_last hcE
  have hconst : Hid (∀ k, k + 1 < E.length → ∀ p, E.getD k 0 ≤ p → p ≤ E.getD (k + 1) 0 - 1 → wantR how (hasB a p) (hasB b p) = wantR how (hasB a (E.getD k 0)) (hasB b (E.getD k 0))) := fun k hk p h1 h2 => by
    have hm : ∀ i, i < E.length → E.getD i 0 ∈ E := fun i hi => by simp [hi]
    have b0 := hcE.bd _ (hm k (by omega))
    have b1 := hcE.bd _ (hm (k + 1) hk)
    have hlt := sorted_get hcE.sorted k (k + 1) (by omega) hk
    rw [hasB_in a p (by omega) (by omega), hasB_in b p (by omega) (by omega), hasB_in a _ (by omega) (by omega), hasB_in b _ (by omega) (by omega), cut_const hcE hva hk p h1 h2, cut_const hcE hvb hk p h1 h2]
  have hbdE : Hid (∀ i, i < E.length → 0 ≤ E.getD i 0 ∧ E.getD i 0 ≤ 1114112) := fun i hi => hcE.bd _ (by simp [hi])
  clear hva hvb
  obtain ⟨g, c, rfl, gc1, gc2, gB, gs, gcur, gcell⟩ := hI3
  have hI3 : IntsC w3 w.heap.size (.slice (some ⟨g, 0, none⟩) E.length c) E := ⟨g, c, rfl, gc1, gc2, gB, gs, gcur, gcell⟩
  clear gcell gcur gs
  have hEl : E.length ≤ 5000000 := by omega
  go_wp2
  go_loopw [8, 9] (fun x i wr => ∃ (k : Nat) (out : List Rg), k + 1 ≤ E.length ∧ i = .int .i64 k ∧ OwnR wr w.heap.size x out ∧ IntsC wr w.heap.size (.slice (some ⟨g, 0, none⟩) E.length c) E ∧ Below w.heap.size w wr ∧ Upto out (E.getD k 0) (fun p => wantR how (hasB a p) (hasB b p)) ∧ out.length ≤ k) (fun _ i _ => E.length - (intOf i).toNat)
  case atStart =>
    refine ⟨0, [], by omega, rfl, World.ownsRow_nil _ _ _ _, hI3, hb3', ?_, by simp⟩
    rw [hE0]; exact Upto.nil _
  case round =>
    obtain ⟨k, out, hk, rfl, hO, hI, hbw, hU0, hol⟩ := hrel
    have hU : Hid (Upto out (E.getD k 0) (fun p => wantR how (hasB a p) (hasB b p))) := hU0
    clear hU0 hE0
    have hsz := hbw.size
    have hcells : ∀ j, j < E.length → wr.cell? ⟨g, j, none⟩ = some (.int .i64 (E.getD j 0)) := by
      obtain ⟨g', c', e1, _, _, _, _, _, h6⟩ := hI
      simp only [Value.slice.injEq, Option.some.injEq, Addr.mk.injEq, true_and, and_true] at e1
      obtain ⟨rfl, rfl⟩ := e1
      exact h6
    by_cases hlt : k + 1 < E.length
    · have ck := hcells k (by omega)
      have ck1 := hcells (k + 1) hlt
      clear hcells
      have hst := cut_step hcE hlt hU.out (hconst.out k hlt)
      obtain ⟨bka, bkb⟩ := hbdE.out k (by omega)
      obtain ⟨bk1a, bk1b⟩ := hbdE.out (k + 1) hlt
      generalize E.getD k 0 = x0 at *
      generalize hx1 : E.getD (k + 1) 0 = x1 at *
      have HX1 : Hid (E.getD (k + 1) 0 = x1) := hx1
      clear hx1
      have hobd := upto_bd hU.out (by omega)
      have hi1 : (k : Int) + 1 < (E.length : Int) := by omega
      cases hask : wantR how (hasB a x0) (hasB b x0)
      · have HS : Hid (Upto out x1 (fun p => wantR how (hasB a p) (hasB b p))) := by
          have := hst; rw [hask] at this; exact this
        clear hst
        go_wp2_with fail
        refine (HW.out x0 wr (ha.below hbw) (hb.below hbw)).mono ?_
        rw [hask]
        rintro e w' ⟨rfl, rfl⟩
        clear hask
        go_wp2
        go_roundw
        case rel => exact ⟨k + 1, out, by omega, by go_num, hO, hI, hbw, by rw [HX1.out]; exact HS.out, by omega⟩
        case measure => simp [intOf]; omega
      · have HS : Hid (Upto (growL out x0 (x1 - 1)) x1 (fun p => wantR how (hasB a p) (hasB b p))) := by
          have := hst; rw [hask] at this; exact this
        clear hst
        go_wp2_with fail
        refine (HW.out x0 wr (ha.below hbw) (hb.below hbw)).mono ?_
        rw [hask]
        rintro e w' ⟨rfl, rfl⟩
        clear hask
        have hgl := growL_len out x0 (x1 - 1)
        go_wp2_with fail
        have hol2 : out.length ≤ 10000000 := by omega
        have hwr : IntKind.i64.wrap (x1 - 1) = x1 - 1 := wrap_k64 _ (by omega) (by omega)
        have hwr2 : IntKind.i64.wrap ((k : Int) + 1) = (k : Int) + 1 := wrap_k64 _ (by omega) (by omega)
        have hk0 : (0 : Int) ≤ (k : Int) + 1 := by omega
        go_region_with (go_at_call 112; refine (grow_any w.heap.size u8 out x0 (x1 - 1) _ ?_ ?_ ?_ ?_).mono ?_; exact hO; exact hsz; exact hol2; exact hobd; rintro e w4 ⟨v4, rfl, hO4, hg4⟩)
        all_goals
          have hI4 := ints_grown hI hO (w' := w4) ⟨hg4.os, hg4.tape, hg4.output, hg4.size, hg4.block⟩
          have hbw4 : Below w.heap.size w w4 := hbw.grown (row := u8.ownBlock) ⟨hg4.os, hg4.tape, hg4.output, hg4.size, hg4.block⟩ hsz (fun j hj => (World.ownsRow.lt hO j hj).1)
          clear hg4 hO hI hbw
          go_wp2
          go_roundw
          case rel => exact ⟨k + 1, _, by omega, by go_num, hO4, hI4, hbw4, by rw [HX1.out]; exact HS.out, by omega⟩
          case measure => simp [intOf]; omega
    · have e1 : k + 1 = E.length := by omega
      have HU2 : Hid (Upto out 1114112 (fun p => wantR how (hasB a p) (hasB b p))) := by
        have := hU.out; rw [HEl.out k e1] at this; exact this
      clear hU e1
      go_wp2
      go_ret
      exact ⟨_, out, rfl, hO, HU2.out, hbw, by omega⟩

end Go.Proofs.YtbjohedenfindaaGreatDoor

namespace Go.Proofs.YtbjohedenfindaaGreatDoor
open Go.RowKit
set_option linter.unusedVariables false
set_option maxRecDepth 100000

theorem edgesOf_any (vs : Value) (ls : List (List Rg)) (w : World) (hl : ls.length ≤ 1000) (hne : ls ≠ []) (K : Nat) (hK1 : K ≤ 400000) (hK : ls.length * (2 * K) ≤ 40000000) (hll : ∀ l ∈ ls, l.length ≤ K) (hs : SetsAt w vs ls) :
    Calls Tryz.prog 151 #[vs] w fun e w' => ∃ v' E, e = .returned v' ∧ E.Perm (gen 0 ls) ∧ Asc E ∧ EdgesAt w' w.heap.size v' E ∧ Below w.heap.size w w' := by
  rcases hs with ⟨rfl, _⟩ | ⟨b, off, c, rfl, hb, hc⟩
  · exact absurd rfl hne
  · exact edgesOf_row b off c ls w hl K hK1 hK hll hb hc

theorem edges_slice {w : World} {B : Nat} {v : Value} {E : List Eg} (h : EdgesAt w B v E) : ∃ a c, v = .slice a E.length c := by
  rcases h with ⟨rfl, a, c, rfl⟩ | ⟨g, c, rfl, _⟩
  · exact ⟨a, c, rfl⟩
  · exact ⟨_, _, rfl⟩

theorem edges_cells {w : World} {B : Nat} {a : Option Addr} {c : Nat} {E : List Eg} (h : EdgesAt w B (.slice a E.length c) E) (j : Nat) (hj : j < E.length) : ∃ g, a = some ⟨g, 0, none⟩ ∧ w.cell? ⟨g, j * 3, none⟩ = some (.int .i64 (E.getD j (0, 0, 0)).1) ∧ w.cell? ⟨g, j * 3 + 1, none⟩ = some (.int .i64 (E.getD j (0, 0, 0)).2.1) ∧ w.cell? ⟨g, j * 3 + 2, none⟩ = some (.int .i64 (E.getD j (0, 0, 0)).2.2) := by
  rcases h with ⟨rfl, _⟩ | ⟨g, c', e, _, _, hc⟩
  · simp at hj
  · simp only [Value.slice.injEq, true_and] at e
    exact ⟨g, e.1, by simpa [encE] using hc j hj 0 (by omega), by simpa [encE] using hc j hj 1 (by omega), by simpa [encE] using hc j hj 2 (by omega)⟩

theorem take_snoc_eg (E : List Eg) (k : Nat) (h : k < E.length) : E.take (k + 1) = E.take k ++ [E.getD k (0, 0, 0)] ∧ E.drop k = E.getD k (0, 0, 0) :: E.drop (k + 1) ∧ E = E.take k ++ E.getD k (0, 0, 0) :: E.drop (k + 1) := by
  have e : E.getD k (0, 0, 0) = E[k] := by simp [h]
  rw [e]
  refine ⟨List.take_succ_eq_append_getElem h, List.drop_eq_getElem_cons h, ?_⟩
  conv => lhs; rw [← List.take_append_drop k E]
  rw [List.drop_eq_getElem_cons h]

theorem take_st {g : Nat} {want : Bool → Bool → Bool} (hw : Wants g want) {W0 : World} {B0 F D O td : Nat} {v1 : Value} {E : List Eg} {W : World} {d0 d1 : Int} {v : Value} {out : List Rg} (h : StS W0 B0 F D O td g v1 E W d0 d1 v out) (lo hi : Int)
    (hF : F < W0.heap.size) (hD : D < W0.heap.size) (hO : O < W0.heap.size) (hB : B0 ≤ W0.heap.size) (hBO : B0 ≤ O) (hFO : F ≠ O) (hDO : D ≠ O) (hlen : out.length ≤ 1000000) (hbd : ∀ r ∈ out, 0 ≤ r.2 ∧ r.2 ≤ 1114111) :
    Calls Tryz.prog 134 #[.agg #[.int .i64 lo, .int .i64 hi], .pointer (some ⟨F, 0, none⟩), .pointer (some ⟨D, 0, none⟩), .pointer (some ⟨O, 0, none⟩)] W fun e w' => e = .returned (.tuple #[]) ∧ ∃ v', StS W0 B0 F D O td g v1 E w' d0 d1 v' (if want (decide (0 < d0)) (decide (0 < d1)) then growL out lo hi else out) ∧ ∀ (k : Nat) (cur : Array Value), W0.heap.size ≤ k → W.heap[k]? = some (.cells cur 207 (0, 0)) → w'.heap[k]? = some (.cells cur 207 (0, 0)) := by
  have hs := h.size
  have c0 : W.cell? ⟨D, 0, none⟩ = some (.int .i64 d0) := by simp [World.cell?, h.hD]
  have c1 : W.cell? ⟨D, 1, none⟩ = some (.int .i64 d1) := by simp [World.cell?, h.hD]
  cases hq : want (decide (0 < d0)) (decide (0 < d1))
  · refine (takeS_no g want hw F D O d0 d1 lo hi W h.cF c0 c1 (by omega) (by omega) hq).mono ?_
    rintro e w' ⟨rfl, hg⟩
    exact ⟨rfl, v, h.still hg hF hD hO hB, fun k cur _ hc => (hg.block k (Array.getElem?_eq_some_iff.1 hc).1 (by simp)).trans hc⟩
  · refine (takeS_yes g want hw W0.heap.size F D O d0 d1 lo hi v out W h.cF c0 c1 (by omega) (by omega) h.hO (by omega) h.own hs hlen hbd hq).mono ?_
    rintro e w' ⟨rfl, v', w1, ho, hg, rfl⟩
    refine ⟨rfl, v', h.put hg hF hD hO hB hBO hFO hDO ho, fun k cur hk hc => ?_⟩
    rw [Below.heap_setCell _ _ _ _ (fun e => by simp at e; omega)]
    refine (hg.block k (Array.getElem?_eq_some_iff.1 hc).1 (fun e => ?_)).trans hc
    obtain ⟨cc, fz, hcc⟩ := Lib.ownsRow_kind h.own k e.symm
    rw [hc] at hcc
    simp at hcc

theorem turn_st {g : Nat} {W0 : World} {B0 F D O td : Nat} {v1 : Value} {E : List Eg} {W : World} {d0 d1 : Int} {v : Value} {out : List Rg} (h : StS W0 B0 F D O td g v1 E W d0 d1 v out) (st by' : Int)
    (hF : F < W0.heap.size) (hD : D < W0.heap.size) (hO : O < W0.heap.size) (hBD : B0 ≤ D) (hFD : F ≠ D) (hDO : D ≠ O) (hst : st = 0 ∨ st = 1) (b0 : -1 ≤ by') (b1 : by' ≤ 1) (l0 : -1000000 ≤ d0) (u0 : d0 ≤ 1000000) (l1 : -1000000 ≤ d1) (u1 : d1 ≤ 1000000) :
    Calls Tryz.prog 132 #[.int .i64 st, .int .i64 by', .pointer (some ⟨D, 0, none⟩)] W fun e w' => e = .returned (.tuple #[]) ∧ StS W0 B0 F D O td g v1 E w' (d0 + if st = 0 then by' else 0) (d1 + if st = 1 then by' else 0) v out := by
  have c0 : W.cell? ⟨D, 0, none⟩ = some (.int .i64 d0) := by simp [World.cell?, h.hD]
  have c1 : W.cell? ⟨D, 1, none⟩ = some (.int .i64 d1) := by simp [World.cell?, h.hD]
  have f0 : W.frozen? ⟨D, 0, none⟩ = false := by simp [World.frozen?, h.hD]
  have f1 : W.frozen? ⟨D, 1, none⟩ = false := by simp [World.frozen?, h.hD]
  rcases hst with rfl | rfl
  · refine (turn_0 D d0 by' W c0 f0 l0 u0 b0 b1).mono ?_
    rintro e w' ⟨rfl, rfl⟩
    exact ⟨rfl, h.turn hF hD hO hBD hFD hDO 0 (d0 + by') _ _ (by simp)⟩
  · refine (turn_1 D d1 by' W c1 f1 l1 u1 b0 b1).mono ?_
    rintro e w' ⟨rfl, rfl⟩
    exact ⟨rfl, h.turn hF hD hO hBD hFD hDO 1 (d1 + by') _ _ (by simp)⟩

set_option maxHeartbeats 2000000 in
theorem stretch_any (g : Nat) (want : Bool → Bool → Bool) (hw : Wants g want) (B0 F D O td : Nat) (vs : Value) (a b : List Rg) (W0 : World) (hla : a.length ≤ 120000) (hlb : b.length ≤ 120000)
    (hF : F < W0.heap.size) (hD : D < W0.heap.size) (hO : O < W0.heap.size) (hB : B0 ≤ W0.heap.size) (hBO : B0 ≤ O) (hBD : B0 ≤ D) (hFO : F ≠ O) (hFD : F ≠ D) (hDO : D ≠ O)
    (cF : W0.cell? ⟨F, 0, none⟩ = some (.func (.func g) #[] #[])) (cD : W0.heap[D]? = some (.cells #[.int .i64 0, .int .i64 0] td (0, 0))) (cO : W0.heap[O]? = some (.cells #[.slice none 0 0] 33 (0, 0))) (hs : SetsAt W0 vs [a, b]) :
    Calls Tryz.prog 133 #[vs, .func (.func 132) #[] #[.pointer (some ⟨D, 0, none⟩)], .func (.func 134) #[] #[.pointer (some ⟨F, 0, none⟩), .pointer (some ⟨D, 0, none⟩), .pointer (some ⟨O, 0, none⟩)]] W0 fun e w' =>
      e = .returned (.tuple #[]) ∧ ∃ v out, w'.heap[O]? = some (.cells #[v] 33 (0, 0)) ∧ OwnR w' W0.heap.size v out ∧ Upto out 1114112 (fun p => want (hasL a p) (hasL b p)) ∧ Below B0 W0 w' ∧ out.length ≤ 1000000 := by
  have eg1 : ∀ args w, (callFunc 132 args).run Tryz.prog w = .ok (.enter 132 args) w := enters_of Tryz.func132 (by kernel_rfl) rfl
  have eg2 : ∀ args w, (callFunc 134 args).run Tryz.prog w = .ok (.enter 134 args) w := enters_of Tryz.func134 (by kernel_rfl) rfl
  go_enter Tryz.func133, Tryz.ntmps133
  go_wp2_with fail
  refine (edgesOf_any vs [a, b] W0 (by simp) (by simp) 120000 (by omega) (by simp) (by simp; omega) hs).mono ?_
  rintro e w1 ⟨v1, E, rfl, hperm, hasc, hat, hb1⟩
  have hS1 : StS W0 B0 F D O td g v1 E w1 0 0 (.slice none 0 0) [] := ⟨(hb1.cell (p := ⟨F, 0, none⟩) hF).trans cF, (hb1.block D hD).trans cD, (hb1.block O hO).trans cO, World.ownsRow_nil _ _ _ _, hat, hb1.mono hB⟩
  have hEl : E.length ≤ 500000 := by
    rw [hperm.length_eq]
    have := gen_len [a, b] 0 120000 (by simp; omega)
    simp at this; omega
  have hEb : Hid (∀ e ∈ E, 0 ≤ e.1 ∧ e.1 ≤ 1114112 ∧ 0 ≤ e.2.1 ∧ e.2.1 < 2 ∧ (e.2.2 = 1 ∨ e.2.2 = -1)) := fun e he => by
    have := gen_bd [a, b] 0 e (hperm.mem_iff.1 he)
    simpa using this
  have HP : Hid (E.Perm (gen 0 [a, b])) := hperm
  have HA : Hid (Asc E) := hasc
  clear hperm hasc cF cD cO hs hb1
  have hat2 := edges_slice hat
  obtain ⟨ea, ec, rfl⟩ := hat2
  clear hat
  have hsw0 : Swept [] E 0 [] (askD want E) := ⟨Upto.nil _, by simp, fun e he => (hEb.out e he).1, by omega, by omega⟩
  go_wp2
  go_loopw [6, 12] (fun fv i wr => ∃ (k : Nat) (fr : Int) (v : Value) (out : List Rg), k ≤ E.length ∧ i = .int .i64 k ∧ fv = .int .i64 fr ∧ StS W0 B0 F D O td g (.slice ea E.length ec) E wr (sumS (E.take k) 0) (sumS (E.take k) 1) v out ∧ Swept (E.take k) (E.drop k) fr out (askD want E) ∧ out.length ≤ k) (fun _ i _ => E.length - (intOf i).toNat)
  case atStart => exact ⟨0, 0, _, [], Nat.zero_le _, rfl, rfl, hS1, hsw0, by simp⟩
  case round =>
    obtain ⟨k, fr, v, out, hk, rfl, rfl, hS, hsw00, hol⟩ := hrel
    have HSW : Hid (Swept (E.take k) (E.drop k) fr out (askD want E)) := hsw00
    clear hsw00 hS1 hsw0
    by_cases hlt : k < E.length
    · obtain ⟨tk, dr, whole⟩ := take_snoc_eg E k hlt
      have hmem : E.getD k (0, 0, 0) ∈ E := by simp [hlt]
      have hbe := hEb.out _ hmem
      have hAll : ∀ e ∈ E.take k, e.2.2 = 1 ∨ e.2.2 = -1 := fun e he => (hEb.out e (List.mem_of_mem_take he)).2.2.2.2
      have hs0 := sumS_bd 0 (E.take k) hAll
      have hs1 := sumS_bd 1 (E.take k) hAll
      have htl : (E.take k).length ≤ k := List.length_take_le _ _
      have n0 : sumS (E.take (k + 1)) 0 = sumS (E.take k) 0 + if (E.getD k (0, 0, 0)).2.1 = 0 then (E.getD k (0, 0, 0)).2.2 else 0 := by rw [tk, sumS_snoc]
      have n1 : sumS (E.take (k + 1)) 1 = sumS (E.take k) 1 + if (E.getD k (0, 0, 0)).2.1 = 1 then (E.getD k (0, 0, 0)).2.2 else 0 := by rw [tk, sumS_snoc]
      obtain ⟨eg, rfl, e0, e1, e2⟩ := edges_cells hS.edg k hlt
      have hobd := upto_bd HSW.out.upto HSW.out.high
      have hswA := HSW.out
      rw [dr] at hswA
      have hasc := HA.out
      have HT1 : Hid (E.take (k + 1) = E.take k ++ [E.getD k (0, 0, 0)]) := tk
      clear tk dr HSW hAll
      generalize hek : E.getD k (0, 0, 0) = ek at *
      obtain ⟨at', st, by'⟩ := ek
      simp only at e0 e1 e2 hbe n0 n1
      obtain ⟨q1, q2, q3, q4, q5⟩ := hbe
      have hst : st = 0 ∨ st = 1 := by omega
      have hby0 : -1 ≤ by' := by omega
      have hby1 : by' ≤ 1 := by omega
      have hl0 : -1000000 ≤ sumS (E.take k) 0 := by omega
      have hu0 : sumS (E.take k) 0 ≤ 1000000 := by omega
      have hl1 : -1000000 ≤ sumS (E.take k) 1 := by omega
      have hu1 : sumS (E.take k) 1 ≤ 1000000 := by omega
      have HN0 : Hid (sumS (E.take (k + 1)) 0 = sumS (E.take k) 0 + if st = 0 then by' else 0) := n0
      have HN1 : Hid (sumS (E.take (k + 1)) 1 = sumS (E.take k) 1 + if st = 1 then by' else 0) := n1
      have HST : Hid (st = 0 ∨ st = 1) := hst
      have hlow := hswA.low
      have hhigh := hswA.high
      clear n0 n1 hst q5 hmem hek hs0 hs1
      have HWH : Hid (E = E.take k ++ (at', st, by') :: E.drop (k + 1)) := whole
      clear whole
      have hSa := hS.alloc hF hD hO hB (.cells #[.int .i64 at', .int .i64 st, .int .i64 by'] 207)
      have HSA : Hid (Swept (E.take k) ((at', st, by') :: E.drop (k + 1)) fr out (askD want E)) := hswA
      have hSize := hS.size
      clear hswA hS
      generalize hdd0 : sumS (E.take k) 0 = dd0 at *
      generalize hdd1 : sumS (E.take k) 1 = dd1 at *
      have HD0 : Hid (sumS (E.take k) 0 = dd0) := hdd0
      have HD1 : Hid (sumS (E.take k) 1 = dd1) := hdd1
      clear hdd0 hdd1
      by_cases hgt : fr < at'
      · have hgl := growL_len out fr (at' - 1)
        have HSB : Hid (Swept (E.take k ++ [(at', st, by')]) (E.drop (k + 1)) at' (if want (decide (0 < dd0)) (decide (0 < dd1)) then growL out fr (at' - 1) else out) (askD want E)) := by
          have hA := HSA.out
          have hasc2 := HA.out
          have hw2 := HWH.out
          rw [hw2] at hasc2
          have hA2 : Swept (E.take k) ((at', st, by') :: E.drop (k + 1)) fr out (askD want (E.take k ++ (at', st, by') :: E.drop (k + 1))) := by rw [← hw2]; exact hA
          have := swept_turn (swept_take hA2 hasc2 hgt q2) (Int.le_refl _)
          rw [← hw2, HD0.out, HD1.out] at this
          exact this
        go_wp2_with fail
        refine (take_st hw hSa fr (at' - 1) hF hD hO hB hBO hFO hDO (by omega) hobd).mono ?_
        rintro e w2 ⟨rfl, v2, hS2, hkeep⟩
        have hwrs : W0.heap.size ≤ wr.heap.size := hSize
        have hblk := hkeep wr.heap.size #[.int .i64 at', .int .i64 st, .int .i64 by'] hwrs (heap_alloc_new wr _)
        have r0 : w2.cell? ⟨wr.heap.size, 0, none⟩ = some (.int .i64 at') := by simp [World.cell?, hblk]
        have r1 : w2.cell? ⟨wr.heap.size, 1, none⟩ = some (.int .i64 st) := by simp [World.cell?, hblk]
        have r2 : w2.cell? ⟨wr.heap.size, 2, none⟩ = some (.int .i64 by') := by simp [World.cell?, hblk]
        clear hSa e0 e1 e2 hkeep hblk
        go_wp2_with fail
        refine (turn_st hS2 st by' hF hD hO hBD hFD hDO HST.out hby0 hby1 hl0 hu0 hl1 hu1).mono ?_
        rintro e w3 ⟨rfl, hS3⟩
        go_wp2
        go_roundw
        case rel =>
          refine ⟨k + 1, at', v2, (if want (decide (0 < dd0)) (decide (0 < dd1)) then growL out fr (at' - 1) else out), by omega, by go_num, rfl, ?_, ?_, ?_⟩
          · rw [HN0.out, HN1.out]; exact hS3
          · rw [HT1.out]; exact HSB.out
          · split <;> omega
        case measure => simp [intOf]; omega
      · have HSB : Hid (Swept (E.take k ++ [(at', st, by')]) (E.drop (k + 1)) fr out (askD want E)) := swept_turn HSA.out (by simp only; omega)
        go_wp2_with fail
        refine (turn_st hSa st by' hF hD hO hBD hFD hDO HST.out hby0 hby1 hl0 hu0 hl1 hu1).mono ?_
        rintro e w3 ⟨rfl, hS3⟩
        go_wp2
        go_roundw
        case rel =>
          refine ⟨k + 1, fr, v, out, by omega, by go_num, rfl, ?_, ?_, ?_⟩
          · rw [HN0.out, HN1.out]; exact hS3
          · rw [HT1.out]; exact HSB.out
          · omega
        case measure => simp [intOf]; omega
    · have HTk : Hid (E.take k = E) := List.take_of_length_le (by omega)
      have hsw := HSW.out
      rw [HTk.out, List.drop_eq_nil_of_le (by omega)] at hsw
      have hobd := upto_bd hsw.upto hsw.high
      have hgl := growL_len out fr 1114111
      have HF : Hid (∀ o : List Rg, Upto o 1114112 (askD want E) → Upto o 1114112 (fun p => want (hasL a p) (hasL b p))) := fun o ho => ⟨ho.apart, ho.low, fun p h0 h1 => by rw [← ho.has p h0 h1, ask_sets HP.out p h0 (by omega)]⟩
      have hlow := hsw.low
      have hhigh := hsw.high
      rw [HTk.out] at hS
      by_cases hle : fr ≤ 1114111
      · have HU := HF.out _ (swept_end hsw hle)
        have HU2 : Hid (Upto (if want (decide (0 < sumS E 0)) (decide (0 < sumS E 1)) then growL out fr 1114111 else out) 1114112 (fun p => want (hasL a p) (hasL b p))) := HU
        clear hsw HU HSW
        go_wp2_with fail
        refine (take_st hw hS fr 1114111 hF hD hO hB hBO hFO hDO (by omega) hobd).mono ?_
        rintro e w2 ⟨rfl, v2, hS2, _⟩
        go_wp2
        go_end0
        exact ⟨rfl, v2, (if want (decide (0 < sumS E 0)) (decide (0 < sumS E 1)) then growL out fr 1114111 else out), hS2.hO, hS2.own, HU2.out, hS2.bel, by split <;> omega⟩
      · have HU2 : Hid (Upto out 1114112 (fun p => want (hasL a p) (hasL b p))) := HF.out _ (swept_done hsw hle)
        clear hsw HSW
        go_wp2
        go_end0
        exact ⟨rfl, v, hS.hO, out, hS.own, HU2.out, hS.bel, by omega⟩

end Go.Proofs.YtbjohedenfindaaGreatDoor
