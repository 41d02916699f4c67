/- Texts of the proof, put together: PExt, PTurn, PTake, PState, PSortN. -/
import Derived.Test.YtbjohedenfindaaGreatDoorMg02
import Derived.BigQuiet
import Derived.Deep.QuietTactic
import Derived.Test.YtbjohedenfindaaGreatDoorProg
import Derived.WalkKit
import Derived.WalkSpells
import Derived.WalkLawsBesides
import Derived.Lib.OwnKind
import Derived.Lib.OthersKept
import Derived.Shelf.SlSortCmp.NoneTotal
namespace Go.Proofs.YtbjohedenfindaaGreatDoor
open Go.RowKit
set_option linter.unusedVariables false
set_option maxRecDepth 100000

theorem wrap_k64' (n : Int) (h0 : -9223372036854775808 ≤ n) (h1 : n ≤ 9223372036854775807) : IntKind.i64.wrap n = n := by
  simp [IntKind.wrap, IntKind.bits, IntKind.signed]
  split <;> omega

theorem add_off' (g o j : Nat) : (⟨g, o, none⟩ : Addr).add j = ⟨g, o + j, none⟩ := by
  unfold Addr.add
  split <;> simp_all
theorem new_cell (W : World) (cs : Array Value) (e n j : Nat) (h : W.heap.size = n) : (W.alloc (.cells cs e)).cell? ⟨n, j, none⟩ = cs[j]? := by
  rw [World.cell?_alloc_at _ _ _ _ h.symm]

set_option maxHeartbeats 1000000 in
theorem extend_zero (B : Nat) (a : Option Addr) (c : Nat) (lo hi : Int) (w : World) (hown : w.ownsRow B 101 2 (.slice a 0 c) 0 (cellsR [])) (hB : B ≤ w.heap.size) :
    Calls Tryz.prog 135 #[.slice a 0 c, .agg #[.int .i64 lo, .int .i64 hi]] w fun e w' => ∃ v', e = .returned v' ∧ OwnR w' B v' [(lo, hi)] ∧ w.grownBy w' (Value.slice a 0 c).ownBlock := by
  obtain ⟨i0, hi0, hz0, hz1, hz2⟩ := info_parts Tryz.infoRange
  go_enter Tryz.func135, Tryz.ntmps135
  go_wp2
  go_quiet (fail)
  go_wp2_with (at_builtin; refine wpList_append_own _ rfl _ _ 33 rfl B 101 i0 (.agg #[.int .i64 0, .int .i64 0]) 2 16 Tryz.underlying33 hi0 hz0 hz1 hz2 rfl (by decide) _ 0 (cellsR []) rfl ?c0 ⟨w.heap.size + 1, 0, none⟩ 1 1 [.int .i64 lo, .int .i64 hi] rfl rfl ?c1 ?c2 ?c3 ?c4 ?c5 ?_)
  case c0 => exact (hown.alloc _).alloc _
  case c1 =>
    intro j u hj
    match j, hj with
    | 0, hj => simp at hj; subst hj; rw [add_off', new_cell _ _ _ _ _ (by show (w.alloc _).heap.size = _; simp)]; rfl
    | 1, hj => simp at hj; subst hj; rw [add_off', new_cell _ _ _ _ _ (by show (w.alloc _).heap.size = _; simp)]; rfl
  case c2 => intro u hu; simp at hu; rcases hu with rfl | rfl <;> rfl
  case c3 => unfold maxLen; omega
  case c4 => omega
  case c5 => simp; omega
  · intro v' w1 hown' hgrow _
    have hown3 := own_snoc (l := []) rfl hown'
    have hg3 := ((World.grownBy_alloc w _ _).trans (World.grownBy_alloc _ _ _)).trans (row := (Value.slice a 0 c).ownBlock) (c := w1) ⟨hgrow.os, hgrow.tape, hgrow.output, hgrow.size, hgrow.block⟩
    clear hown' hgrow
    go_wp2
    go_ret
    exact ⟨_, rfl, hown3, hg3⟩

set_option maxHeartbeats 1000000 in
theorem extend_put (B g m c : Nat) (l : List Rg) (lo hi z : Int) (w : World) (hn : l.length = m + 1) (hown : w.ownsRow B 101 2 (.slice (some ⟨g, 0, none⟩) (m + 1) c) (m + 1) (cellsR l)) (hB : B ≤ w.heap.size) (hlen : m ≤ 1000000) (hg : g < w.heap.size)
    (hz : w.cell? ⟨g, m * 2 + 1, none⟩ = some (.int .i64 z)) (z0 : -1 ≤ z) (z1 : z ≤ 1114112) (hne : (z + 1 == lo) = false) :
    Calls Tryz.prog 135 #[.slice (some ⟨g, 0, none⟩) (m + 1) c, .agg #[.int .i64 lo, .int .i64 hi]] w fun e w' => ∃ v', e = .returned v' ∧ OwnR w' B v' (l ++ [(lo, hi)]) ∧ w.grownBy w' (some g) := by
  obtain ⟨i0, hi0, hz0, hz1, hz2⟩ := info_parts Tryz.infoRange
  have hwr : IntKind.i64.wrap (z + 1) = z + 1 := wrap_k64' _ (by omega) (by omega)
  have hcb : (w.alloc (.cells #[.int .i64 lo, .int .i64 hi] 101)).cell? ⟨g, m * 2 + 1, none⟩ = some (.int .i64 z) := by
    rw [World.cell?_alloc_past _ _ _ hg]; exact hz
  go_enter Tryz.func135, Tryz.ntmps135
  go_wp2
  go_quiet (fail)
  go_wp2_with (at_builtin; refine wpList_append_own _ rfl _ _ 33 rfl B 101 i0 (.agg #[.int .i64 0, .int .i64 0]) 2 16 Tryz.underlying33 hi0 hz0 hz1 hz2 rfl (by decide) _ (m + 1) (cellsR l) rfl ?c0 ⟨w.heap.size + 1, 0, none⟩ 1 1 [.int .i64 lo, .int .i64 hi] rfl rfl ?c1 ?c2 ?c3 ?c4 ?c5 ?_)
  case c0 => exact (hown.alloc _).alloc _
  case c1 =>
    intro j u hj
    match j, hj with
    | 0, hj => simp at hj; subst hj; rw [add_off', new_cell _ _ _ _ _ (by show (w.alloc _).heap.size = _; simp)]; rfl
    | 1, hj => simp at hj; subst hj; rw [add_off', new_cell _ _ _ _ _ (by show (w.alloc _).heap.size = _; simp)]; rfl
  case c2 => intro u hu; simp at hu; rcases hu with rfl | rfl <;> rfl
  case c3 => unfold maxLen; omega
  case c4 => omega
  case c5 => simp; omega
  · intro v' w1 hown' hgrow _
    have hown3 := own_snoc hn hown'
    have hg3 := ((World.grownBy_alloc w _ _).trans (World.grownBy_alloc _ _ _)).trans (row := some g) (c := w1) ⟨hgrow.os, hgrow.tape, hgrow.output, hgrow.size, hgrow.block⟩
    clear hown' hgrow
    go_wp2
    go_ret
    exact ⟨_, rfl, hown3, hg3⟩

set_option maxHeartbeats 1000000 in
theorem extend_last (g m c : Nat) (lo hi z : Int) (w : World) (hlen : m ≤ 1000000) (hg : g < w.heap.size) (hz : w.cell? ⟨g, m * 2 + 1, none⟩ = some (.int .i64 z)) (hf : w.frozen? ⟨g, m * 2 + 1, none⟩ = false) (z0 : -1 ≤ z) (z1 : z ≤ 1114112) (he : (z + 1 == lo) = true) :
    Calls Tryz.prog 135 #[.slice (some ⟨g, 0, none⟩) (m + 1) c, .agg #[.int .i64 lo, .int .i64 hi]] w fun e w' => e = .returned (.slice (some ⟨g, 0, none⟩) (m + 1) c) ∧ ∃ n, w' = ((w.alloc (.cells #[.int .i64 lo, .int .i64 hi] 101)).drewN n).setCell ⟨g, m * 2 + 1, none⟩ (.int .i64 hi) := by
  have hwr : IntKind.i64.wrap (z + 1) = z + 1 := wrap_k64' _ (by omega) (by omega)
  have hcb : (w.alloc (.cells #[.int .i64 lo, .int .i64 hi] 101)).cell? ⟨g, m * 2 + 1, none⟩ = some (.int .i64 z) := by
    rw [World.cell?_alloc_past _ _ _ hg]; exact hz
  have hfb : (w.alloc (.cells #[.int .i64 lo, .int .i64 hi] 101)).frozen? ⟨g, m * 2 + 1, none⟩ = false := by
    rw [World.frozen?_alloc_old _ _ _ (Nat.ne_of_lt hg)]; exact hf
  go_enter Tryz.func135, Tryz.ntmps135
  go_wp2
  go_quiet (fail)
  go_wp2
  go_ret
  exact ⟨rfl, _, rfl⟩

theorem extend_any (B : Nat) (v : Value) (l : List Rg) (lo hi : Int) (w : World) (hown : OwnR w B v l) (hB : B ≤ w.heap.size) (hlen : l.length ≤ 1000000) (hbd : ∀ r ∈ l, 0 ≤ r.2 ∧ r.2 ≤ 1114111) :
    Calls Tryz.prog 135 #[v, .agg #[.int .i64 lo, .int .i64 hi]] w fun e w' => ∃ v', e = .returned v' ∧ OwnR w' B v' (growL l lo hi) ∧ w.grownBy w' v.ownBlock := by
  have hown0 := hown
  unfold OwnR at hown
  by_cases hne : l = []
  · subst hne
    rcases hown.2 with ⟨rfl, h0⟩ | ⟨g, cap, cur, rfl, _⟩
    · exact extend_zero B none 0 lo hi w hown hB
    · exact extend_zero B _ cap lo hi w hown hB
  · have hpos := List.length_pos_iff.2 hne
    obtain ⟨m, hm⟩ : ∃ m, l.length = m + 1 := ⟨l.length - 1, by omega⟩
    have hm1 : l.length - 1 = m := by omega
    have hlt := hown.lt
    rcases hown.2 with ⟨rfl, h0⟩ | ⟨g, cap, cur, rfl, hbg, hg, _⟩
    · omega
    · have hc := (cellsR_get l m (by omega)).2
      have hcell := hown.cellAt (m * 2 + 1) (by omega)
      rw [hc] at hcell
      have hgs := (hlt g rfl).2
      have hmem : l.getD m (0, 0) ∈ l := by have : m < l.length := by omega
                                            simp [this]
      have hb := hbd _ hmem
      have hfz : w.frozen? ⟨g, m * 2 + 1, none⟩ = false := by simp [World.frozen?, hg]
      by_cases he : (l.getD m (0, 0)).2 + 1 = lo
      · have e1 := growL_in (l := l) (lo := lo) (hi := hi) hne (by rw [hm1]; exact he)
        rw [e1, hm1, hm]
        refine (extend_last g m cap lo hi _ w (by omega) hgs hcell hfz (by omega) (by omega) (by rw [beq_iff_eq]; exact he)).mono ?_
        rintro e w' ⟨rfl, n, rfl⟩
        have hO : OwnR ((w.alloc (.cells #[.int .i64 lo, .int .i64 hi] 101)).drewN n) B (.slice (some ⟨g, 0, none⟩) l.length cap) l := World.ownsRow.alloc hown0 _
        have := own_last (hi := hi) hO hne
        rw [hm1] at this
        rw [hm] at this
        refine ⟨_, rfl, this, ?_⟩
        have g1 := World.grownBy_alloc w (.cells #[.int .i64 lo, .int .i64 hi] 101) (some g)
        have g2 := grown_set (w := (w.alloc (.cells #[.int .i64 lo, .int .i64 hi] 101)).drewN n) (g := g) (j := m * 2 + 1) (u := .int .i64 hi)
        exact g1.trans (row := some g) ⟨g2.os, g2.tape, g2.output, g2.size, g2.block⟩
      · rw [growL_out hne (by rw [hm1]; exact he), hm]
        rw [hm] at hown
        exact extend_put B g m cap l lo hi _ w hm hown hB (by omega) hgs hcell (by omega) (by omega) (by rw [beq_eq_false_iff_ne]; exact he)

end Go.Proofs.YtbjohedenfindaaGreatDoor

namespace Go.Proofs.YtbjohedenfindaaGreatDoor
open Go.RowKit
set_option linter.unusedVariables false
set_option maxRecDepth 100000

set_option maxHeartbeats 400000 in
theorem turn_0 (D : Nat) (d by' : Int) (w : World) (hc : w.cell? ⟨D, 0, none⟩ = some (.int .i64 d)) (hf : w.frozen? ⟨D, 0, none⟩ = false) (h0 : -1000000 ≤ d) (h1 : d ≤ 1000000) (b0 : -1 ≤ by') (b1 : by' ≤ 1) :
    Calls Tryz.prog 132 #[.int .i64 0, .int .i64 by', .pointer (some ⟨D, 0, none⟩)] w fun e w' => e = .returned (.tuple #[]) ∧ w' = w.setCell ⟨D, 0, none⟩ (.int .i64 (d + by')) := by
  go_enter Tryz.func132, Tryz.ntmps132
  go_wp2
  go_end0
  exact ⟨rfl, rfl⟩

set_option maxHeartbeats 400000 in
theorem turn_1 (D : Nat) (d by' : Int) (w : World) (hc : w.cell? ⟨D, 1, none⟩ = some (.int .i64 d)) (hf : w.frozen? ⟨D, 1, none⟩ = false) (h0 : -1000000 ≤ d) (h1 : d ≤ 1000000) (b0 : -1 ≤ by') (b1 : by' ≤ 1) :
    Calls Tryz.prog 132 #[.int .i64 1, .int .i64 by', .pointer (some ⟨D, 0, none⟩)] w fun e w' => e = .returned (.tuple #[]) ∧ w' = w.setCell ⟨D, 1, none⟩ (.int .i64 (d + by')) := by
  go_enter Tryz.func132, Tryz.ntmps132
  go_wp2
  go_end0
  exact ⟨rfl, rfl⟩

set_option maxHeartbeats 400000 in
theorem canon1_any (x y : Bool) (w : World) : Calls Tryz.prog 180 #[.bool x, .bool y] w fun e w' => e = .returned (.bool x) ∧ w' = w := by
  go_enter Tryz.func180, Tryz.ntmps180
  go_wp2
  go_ret
  exact ⟨rfl, rfl⟩
set_option maxHeartbeats 400000 in
theorem other1_any (x y : Bool) (w : World) : Calls Tryz.prog 118 #[.bool x, .bool y] w fun e w' => e = .returned (.bool (!x)) ∧ w' = w := by
  go_enter Tryz.func118, Tryz.ntmps118
  go_wp2
  go_ret
  exact ⟨rfl, rfl⟩

end Go.Proofs.YtbjohedenfindaaGreatDoor

namespace Go.Proofs.YtbjohedenfindaaGreatDoor
open Go.RowKit
set_option linter.unusedVariables false
set_option maxRecDepth 100000

/-- a function of the program that answers of two bools, and does nothing else -/
structure Wants (g : Nat) (want : Bool → Bool → Bool) : Prop where
  enter : ∀ args w, (callFunc g args).run Tryz.prog w = .ok (.enter g args) w
  calls : ∀ (x y : Bool) (W : World), Calls Tryz.prog g #[.bool x, .bool y] W fun e w' => e = .returned (.bool (want x y)) ∧ w' = W

set_option maxHeartbeats 1000000 in
theorem takeS_no (g : Nat) (want : Bool → Bool → Bool) (hw : Wants g want) (F D O : Nat) (d0 d1 lo hi : Int) (w : World)
    (cF : w.cell? ⟨F, 0, none⟩ = some (.func (.func g) #[] #[])) (c0 : w.cell? ⟨D, 0, none⟩ = some (.int .i64 d0)) (c1 : w.cell? ⟨D, 1, none⟩ = some (.int .i64 d1)) (hF : F < w.heap.size) (hD : D < w.heap.size)
    (hno : want (decide (0 < d0)) (decide (0 < d1)) = false) :
    Calls Tryz.prog 134 #[.agg #[.int .i64 lo, .int .i64 hi], .pointer (some ⟨F, 0, none⟩), .pointer (some ⟨D, 0, none⟩), .pointer (some ⟨O, 0, none⟩)] w fun e w' => e = .returned (.tuple #[]) ∧ w.grownBy w' none := by
  have eg := hw.enter
  have HW : Hid (∀ (x y : Bool) (W : World), Calls Tryz.prog g #[.bool x, .bool y] W fun e w' => e = .returned (.bool (want x y)) ∧ w' = W) := hw.calls
  clear hw
  have HN : Hid (want (decide (0 < d0)) (decide (0 < d1)) = false) := hno
  clear hno
  go_enter Tryz.func134, Tryz.ntmps134
  go_wp2_with fail
  refine (HW.out _ _ _).mono ?_
  rw [HN.out]
  rintro e w' ⟨rfl, rfl⟩
  go_wp2
  go_end0
  exact ⟨rfl, World.grownBy_alloc w _ _⟩

set_option maxHeartbeats 1000000 in
theorem takeS_yes (g : Nat) (want : Bool → Bool → Bool) (hw : Wants g want) (B F D O : Nat) (d0 d1 lo hi : Int) (v : Value) (l : List Rg) (w : World)
    (cF : w.cell? ⟨F, 0, none⟩ = some (.func (.func g) #[] #[])) (c0 : w.cell? ⟨D, 0, none⟩ = some (.int .i64 d0)) (c1 : w.cell? ⟨D, 1, none⟩ = some (.int .i64 d1)) (hF : F < w.heap.size) (hD : D < w.heap.size)
    (cO : w.heap[O]? = some (.cells #[v] 33 (0, 0))) (hO : O < w.heap.size) (hown : OwnR w B v l) (hB : B ≤ w.heap.size) (hlen : l.length ≤ 1000000) (hbd : ∀ r ∈ l, 0 ≤ r.2 ∧ r.2 ≤ 1114111)
    (hyes : want (decide (0 < d0)) (decide (0 < d1)) = true) :
    Calls Tryz.prog 134 #[.agg #[.int .i64 lo, .int .i64 hi], .pointer (some ⟨F, 0, none⟩), .pointer (some ⟨D, 0, none⟩), .pointer (some ⟨O, 0, none⟩)] w fun e w' => e = .returned (.tuple #[]) ∧ ∃ v' w1, OwnR w1 B v' (growL l lo hi) ∧ w.grownBy w1 v.ownBlock ∧ w' = w1.setCell ⟨O, 0, none⟩ v' := by
  have eg := hw.enter
  have HW : Hid (∀ (x y : Bool) (W : World), Calls Tryz.prog g #[.bool x, .bool y] W fun e w' => e = .returned (.bool (want x y)) ∧ w' = W) := hw.calls
  clear hw
  have HN : Hid (want (decide (0 < d0)) (decide (0 < d1)) = true) := hyes
  clear hyes
  have cO1 : w.cell? ⟨O, 0, none⟩ = some v := by simp [World.cell?, cO]
  have cO2 : (w.alloc (.cells #[.int .i64 lo, .int .i64 hi] 101)).cell? ⟨O, 0, none⟩ = some v := by
    rw [World.cell?_alloc_past _ _ _ hO]; exact cO1
  have hne : v.ownBlock ≠ some O := by
    intro e1
    obtain ⟨cc, fz, hc⟩ := Lib.ownsRow_kind hown O e1
    rw [cO] at hc
    simp at hc
  go_enter Tryz.func134, Tryz.ntmps134
  go_wp2_with fail
  refine (HW.out _ _ _).mono ?_
  rw [HN.out]
  rintro e w' ⟨rfl, rfl⟩
  go_wp2_with fail
  refine (extend_any B v l lo hi _ (World.ownsRow.alloc hown _) (by simp; omega) hlen hbd).mono ?_
  rintro e w1 ⟨v', rfl, hO1, hg1⟩
  have hb1 : w1.heap[O]? = some (.cells #[v] 33 (0, 0)) := by
    rw [hg1.block O (by simp; omega) (fun e => hne e.symm), Lib.alloc_old _ _ _ hO]; exact cO
  have f1 : w1.frozen? ⟨O, 0, none⟩ = false := by simp [World.frozen?, hb1]
  have f2 : w1.cell? ⟨O, 0, none⟩ = some v := by simp [World.cell?, hb1]
  have hg2 := (World.grownBy_alloc w _ _).trans hg1
  clear hg1 cO cO1 cO2
  obtain ⟨a', n', c', rfl⟩ : ∃ a n c, v' = .slice a n c := by
    rcases hO1.2 with ⟨rfl, _⟩ | ⟨g, cap, cur, rfl, _⟩
    · exact ⟨_, _, _, rfl⟩
    · exact ⟨_, _, _, rfl⟩
  go_wp2
  go_end0
  exact ⟨rfl, _, w1, hO1, hg2, rfl⟩

end Go.Proofs.YtbjohedenfindaaGreatDoor

namespace Go.Proofs.YtbjohedenfindaaGreatDoor
open Go.RowKit
set_option linter.unusedVariables false
set_option maxRecDepth 100000

/-- the memory of a sweep: the question, the depths, the answer so far, the edges -/
structure StS (W0 : World) (B0 F D O td g : Nat) (v1 : Value) (E : List Eg) (W : World) (d0 d1 : Int) (v : Value) (out : List Rg) : Prop where
  cF : W.cell? ⟨F, 0, none⟩ = some (.func (.func g) #[] #[])
  hD : W.heap[D]? = some (.cells #[.int .i64 d0, .int .i64 d1] td (0, 0))
  hO : W.heap[O]? = some (.cells #[v] 33 (0, 0))
  own : OwnR W W0.heap.size v out
  edg : EdgesAt W W0.heap.size v1 E
  bel : Below B0 W0 W

theorem EdgesAt.keep {w w' : World} {B : Nat} {v : Value} {E : List Eg} (h : EdgesAt w B v E) (hk : ∀ (k : Nat) (cur : Array Value), B ≤ k → w.heap[k]? = some (Obj.cells cur 207 (0, 0)) → w'.heap[k]? = w.heap[k]?) : EdgesAt w' B v E := by
  rcases h with h | ⟨g, c, rfl, hB, ⟨cur, hg⟩, hc⟩
  · exact Or.inl h
  · have e := hk g cur hB hg
    exact Or.inr ⟨g, c, rfl, hB, ⟨cur, by rw [e]; exact hg⟩, fun j hj c hc3 => (World.cell?_of_block (a := ⟨g, j * 3 + c, none⟩) e).trans (hc j hj c hc3)⟩

section
variable {W0 : World} {B0 F D O td g : Nat} {v1 : Value} {E : List Eg} {W : World} {d0 d1 : Int} {v : Value} {out : List Rg}

theorem StS.size (h : StS W0 B0 F D O td g v1 E W d0 d1 v out) : W0.heap.size ≤ W.heap.size := h.bel.size

/-- a world that is grown at no row, or at the answer's -/
theorem StS.grown (h : StS W0 B0 F D O td g v1 E W d0 d1 v out) {W' : World} {v' : Value} {out' : List Rg} (hg : W.grownBy W' v.ownBlock) (hF : F < W0.heap.size) (hD : D < W0.heap.size) (hO : O < W0.heap.size) (hB : B0 ≤ W0.heap.size) (ho : OwnR W' W0.heap.size v' out') :
    W'.cell? ⟨F, 0, none⟩ = some (.func (.func g) #[] #[]) ∧ W'.heap[D]? = some (.cells #[.int .i64 d0, .int .i64 d1] td (0, 0)) ∧ W'.heap[O]? = some (.cells #[v] 33 (0, 0)) ∧ EdgesAt W' W0.heap.size v1 E ∧ Below B0 W0 W' := by
  have hs := h.size
  have hlt := World.ownsRow.lt h.own
  have hne : ∀ k, k < W0.heap.size → some k ≠ v.ownBlock := fun k hk e => by have := (hlt k e.symm).1; omega
  refine ⟨(World.cell?_of_block (a := ⟨F, 0, none⟩) (hg.block F (by omega) (hne F hF))).trans h.cF, (hg.block D (by omega) (hne D hD)).trans h.hD, (hg.block O (by omega) (hne O hO)).trans h.hO, ?_, h.bel.grown hg (by omega) (fun k hk => by have := (hlt k hk).1; omega)⟩
  refine h.edg.keep (fun k cur hk hc => hg.block k (Array.getElem?_eq_some_iff.1 hc).1 (fun e => ?_))
  obtain ⟨cc, fz, hcc⟩ := Lib.ownsRow_kind h.own k e.symm
  rw [hc] at hcc
  simp at hcc

theorem StS.alloc (h : StS W0 B0 F D O td g v1 E W d0 d1 v out) (hF : F < W0.heap.size) (hD : D < W0.heap.size) (hO : O < W0.heap.size) (hB : B0 ≤ W0.heap.size) (o : Obj) : StS W0 B0 F D O td g v1 E (W.alloc o) d0 d1 v out := by
  have ho : OwnR (W.alloc o) W0.heap.size v out := World.ownsRow.alloc h.own o
  obtain ⟨a, b, c, d, e⟩ := h.grown (World.grownBy_alloc W o _) hF hD hO hB ho
  exact ⟨a, b, c, ho, d, e⟩

theorem StS.still (h : StS W0 B0 F D O td g v1 E W d0 d1 v out) {W' : World} (hg : W.grownBy W' none) (hF : F < W0.heap.size) (hD : D < W0.heap.size) (hO : O < W0.heap.size) (hB : B0 ≤ W0.heap.size) : StS W0 B0 F D O td g v1 E W' d0 d1 v out := by
  have ho : OwnR W' W0.heap.size v out := World.ownsRow.kept h.own hg (by
    cases hv : v.ownBlock with
    | none => exact Or.inl rfl
    | some k => exact Or.inr (by simp))
  have hg2 : W.grownBy W' v.ownBlock := ⟨hg.os, hg.tape, hg.output, hg.size, fun k hk _ => hg.block k hk (by simp)⟩
  obtain ⟨a, b, c, d, e⟩ := h.grown hg2 hF hD hO hB ho
  exact ⟨a, b, c, ho, d, e⟩

theorem heap_set (w : World) (b o : Nat) (cs : Array Value) (t : TypeId) (u : Value) (h : w.heap[b]? = some (.cells cs t (0, 0))) : (w.setCell ⟨b, o, none⟩ u).heap[b]? = some (.cells (cs.setIfInBounds o u) t (0, 0)) := by
  simp [World.setCell, Array.getElem?_modify, h]

theorem StS.put (h : StS W0 B0 F D O td g v1 E W d0 d1 v out) {W1 : World} {v' : Value} {out' : List Rg} (hg : W.grownBy W1 v.ownBlock) (hF : F < W0.heap.size) (hD : D < W0.heap.size) (hO : O < W0.heap.size) (hB : B0 ≤ W0.heap.size) (hBO : B0 ≤ O) (hFO : F ≠ O) (hDO : D ≠ O) (ho : OwnR W1 W0.heap.size v' out') :
    StS W0 B0 F D O td g v1 E (W1.setCell ⟨O, 0, none⟩ v') d0 d1 v' out' := by
  obtain ⟨a, b, c, d, e⟩ := h.grown hg hF hD hO hB ho
  refine ⟨?_, ?_, ?_, ownsRow_setCell_below ho hO _, d.keep (fun k cur hk hc => Below.heap_setCell _ _ _ _ (fun e => by simp at e; omega)), e.setCell (p := ⟨O, 0, none⟩) hBO _⟩
  · rw [World.cell?_of_block (Below.heap_setCell _ _ _ _ hFO)]; exact a
  · rw [Below.heap_setCell _ _ _ _ hDO]; exact b
  · rw [heap_set _ _ _ _ _ _ c]; rfl

theorem StS.turn (h : StS W0 B0 F D O td g v1 E W d0 d1 v out) (hF : F < W0.heap.size) (hD : D < W0.heap.size) (hO : O < W0.heap.size) (hBD : B0 ≤ D) (hFD : F ≠ D) (hDO : D ≠ O) (s : Nat) (u e0 e1 : Int) (he : (#[Value.int .i64 d0, Value.int .i64 d1] : Array Value).setIfInBounds s (.int .i64 u) = #[.int .i64 e0, .int .i64 e1]) :
    StS W0 B0 F D O td g v1 E (W.setCell ⟨D, s, none⟩ (.int .i64 u)) e0 e1 v out := by
  refine ⟨?_, ?_, ?_, ownsRow_setCell_below h.own hD _, h.edg.keep (fun k cur hk hc => Below.heap_setCell _ _ _ _ (fun e => by simp at e; omega)), h.bel.setCell (p := ⟨D, s, none⟩) hBD _⟩
  · rw [World.cell?_of_block (Below.heap_setCell _ _ _ _ hFD)]; exact h.cF
  · rw [heap_set _ _ _ _ _ _ h.hD, he]
  · rw [Below.heap_setCell _ _ _ _ (Ne.symm hDO)]; exact h.hO
end

theorem sumS_snoc (A : List Eg) (e : Eg) (s : Int) : sumS (A ++ [e]) s = sumS A s + if e.2.1 = s then e.2.2 else 0 := by
  unfold sumS; rw [sumBy_append]; simp [sumBy]
theorem sumS_bd (s : Int) : ∀ (A : List Eg), (∀ e ∈ A, e.2.2 = 1 ∨ e.2.2 = -1) → -(A.length : Int) ≤ sumS A s ∧ sumS A s ≤ A.length
  | [], _ => by simp [sumS, sumBy]
  | e :: t, h => by
    have ih := sumS_bd s t (fun x hx => h x (by simp [hx]))
    have he := h e (by simp)
    have e1 : sumS (e :: t) s = (if e.2.1 = s then e.2.2 else 0) + sumS t s := rfl
    rw [e1]
    simp only [List.length_cons]
    split <;> omega

end Go.Proofs.YtbjohedenfindaaGreatDoor

namespace Go.Proofs.YtbjohedenfindaaGreatDoor
open Go.Shelf Go.RowKit Go.Lib Go.Sort
set_option linter.unusedVariables false
set_option maxRecDepth 100000

theorem sort_none (a : Option Addr) (c : Nat) (fv : Value) (w : World) : Calls Tryz.prog 166 #[.slice a 0 c, fv] w fun e w' => e = .returned (.tuple #[]) ∧ w' = w := by
  have := AnyF.slices_SortFunc_none Tryz.sortEdge a c fv w
  change Calls Tryz.prog 166 _ _ _ at this
  exact this


end Go.Proofs.YtbjohedenfindaaGreatDoor
