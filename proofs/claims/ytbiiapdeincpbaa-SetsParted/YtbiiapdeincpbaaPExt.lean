import Derived.Test.YtbiiapdeincpbaaRGrow
import Derived.BigQuiet
import Derived.Deep.QuietTactic
namespace Go.Proofs.Ytbiiapdeincpbaa
open Go.RowKit
set_option linter.unusedVariables false
set_option maxRecDepth 100000

theorem wrap_k64' (n : Int) (h0 : -9223372036854775808 ≤ n) (h1 : n ≤ 9223372036854775807) : IntKind.i64.wrap n = n := by
  simp [IntKind.wrap, IntKind.bits, IntKind.signed]
  split <;> omega

theorem add_off' (g o j : Nat) : (⟨g, o, none⟩ : Addr).add j = ⟨g, o + j, none⟩ := by
  unfold Addr.add
  split <;> simp_all
theorem new_cell (W : World) (cs : Array Value) (e n j : Nat) (h : W.heap.size = n) : (W.alloc (.cells cs e)).cell? ⟨n, j, none⟩ = cs[j]? := by
  rw [World.cell?_alloc_at _ _ _ _ h.symm]

set_option maxHeartbeats 1000000 in
theorem extend_zero (B : Nat) (a : Option Addr) (c : Nat) (lo hi : Int) (w : World) (hown : w.ownsRow B 56 2 (.slice a 0 c) 0 (cellsR [])) (hB : B ≤ w.heap.size) :
    Calls Try.prog 48 #[.slice a 0 c, .agg #[.int .i64 lo, .int .i64 hi]] w fun e w' => ∃ v', e = .returned v' ∧ OwnR w' B v' [(lo, hi)] ∧ w.grownBy w' (Value.slice a 0 c).ownBlock := by
  obtain ⟨i0, hi0, hz0, hz1, hz2⟩ := info_parts Try.infoRange
  go_enter Try.func48, Try.ntmps48
  go_wp2
  go_quiet (fail)
  go_wp2_with (at_builtin; refine wpList_append_own _ rfl _ _ 28 rfl B 56 i0 (.agg #[.int .i64 0, .int .i64 0]) 2 16 Try.underlying28 hi0 hz0 hz1 hz2 rfl (by decide) _ 0 (cellsR []) rfl ?c0 ⟨w.heap.size + 1, 0, none⟩ 1 1 [.int .i64 lo, .int .i64 hi] rfl rfl ?c1 ?c2 ?c3 ?c4 ?c5 ?_)
  case c0 => exact (hown.alloc _).alloc _
  case c1 =>
    intro j u hj
    match j, hj with
    | 0, hj => simp at hj; subst hj; rw [add_off', new_cell _ _ _ _ _ (by show (w.alloc _).heap.size = _; simp)]; rfl
    | 1, hj => simp at hj; subst hj; rw [add_off', new_cell _ _ _ _ _ (by show (w.alloc _).heap.size = _; simp)]; rfl
  case c2 => intro u hu; simp at hu; rcases hu with rfl | rfl <;> rfl
  case c3 => unfold maxLen; omega
  case c4 => omega
  case c5 => simp; omega
  · intro v' w1 hown' hgrow _
    have hown3 := own_snoc (l := []) rfl hown'
    have hg3 := ((World.grownBy_alloc w _ _).trans (World.grownBy_alloc _ _ _)).trans (row := (Value.slice a 0 c).ownBlock) (c := w1) ⟨hgrow.os, hgrow.tape, hgrow.output, hgrow.size, hgrow.block⟩
    clear hown' hgrow
    go_wp2
    go_ret
    exact ⟨_, rfl, hown3, hg3⟩

set_option maxHeartbeats 1000000 in
theorem extend_put (B g m c : Nat) (l : List Rg) (lo hi z : Int) (w : World) (hn : l.length = m + 1) (hown : w.ownsRow B 56 2 (.slice (some ⟨g, 0, none⟩) (m + 1) c) (m + 1) (cellsR l)) (hB : B ≤ w.heap.size) (hlen : m ≤ 1000000) (hg : g < w.heap.size)
    (hz : w.cell? ⟨g, m * 2 + 1, none⟩ = some (.int .i64 z)) (z0 : -1 ≤ z) (z1 : z ≤ 1114112) (hne : (z + 1 == lo) = false) :
    Calls Try.prog 48 #[.slice (some ⟨g, 0, none⟩) (m + 1) c, .agg #[.int .i64 lo, .int .i64 hi]] w fun e w' => ∃ v', e = .returned v' ∧ OwnR w' B v' (l ++ [(lo, hi)]) ∧ w.grownBy w' (some g) := by
  obtain ⟨i0, hi0, hz0, hz1, hz2⟩ := info_parts Try.infoRange
  have hwr : IntKind.i64.wrap (z + 1) = z + 1 := wrap_k64' _ (by omega) (by omega)
  have hcb : (w.alloc (.cells #[.int .i64 lo, .int .i64 hi] 56)).cell? ⟨g, m * 2 + 1, none⟩ = some (.int .i64 z) := by
    rw [World.cell?_alloc_past _ _ _ hg]; exact hz
  go_enter Try.func48, Try.ntmps48
  go_wp2
  go_quiet (fail)
  go_wp2_with (at_builtin; refine wpList_append_own _ rfl _ _ 28 rfl B 56 i0 (.agg #[.int .i64 0, .int .i64 0]) 2 16 Try.underlying28 hi0 hz0 hz1 hz2 rfl (by decide) _ (m + 1) (cellsR l) rfl ?c0 ⟨w.heap.size + 1, 0, none⟩ 1 1 [.int .i64 lo, .int .i64 hi] rfl rfl ?c1 ?c2 ?c3 ?c4 ?c5 ?_)
  case c0 => exact (hown.alloc _).alloc _
  case c1 =>
    intro j u hj
    match j, hj with
    | 0, hj => simp at hj; subst hj; rw [add_off', new_cell _ _ _ _ _ (by show (w.alloc _).heap.size = _; simp)]; rfl
    | 1, hj => simp at hj; subst hj; rw [add_off', new_cell _ _ _ _ _ (by show (w.alloc _).heap.size = _; simp)]; rfl
  case c2 => intro u hu; simp at hu; rcases hu with rfl | rfl <;> rfl
  case c3 => unfold maxLen; omega
  case c4 => omega
  case c5 => simp; omega
  · intro v' w1 hown' hgrow _
    have hown3 := own_snoc hn hown'
    have hg3 := ((World.grownBy_alloc w _ _).trans (World.grownBy_alloc _ _ _)).trans (row := some g) (c := w1) ⟨hgrow.os, hgrow.tape, hgrow.output, hgrow.size, hgrow.block⟩
    clear hown' hgrow
    go_wp2
    go_ret
    exact ⟨_, rfl, hown3, hg3⟩

set_option maxHeartbeats 1000000 in
theorem extend_last (g m c : Nat) (lo hi z : Int) (w : World) (hlen : m ≤ 1000000) (hg : g < w.heap.size) (hz : w.cell? ⟨g, m * 2 + 1, none⟩ = some (.int .i64 z)) (hf : w.frozen? ⟨g, m * 2 + 1, none⟩ = false) (z0 : -1 ≤ z) (z1 : z ≤ 1114112) (he : (z + 1 == lo) = true) :
    Calls Try.prog 48 #[.slice (some ⟨g, 0, none⟩) (m + 1) c, .agg #[.int .i64 lo, .int .i64 hi]] w fun e w' => e = .returned (.slice (some ⟨g, 0, none⟩) (m + 1) c) ∧ ∃ n, w' = ((w.alloc (.cells #[.int .i64 lo, .int .i64 hi] 56)).drewN n).setCell ⟨g, m * 2 + 1, none⟩ (.int .i64 hi) := by
  have hwr : IntKind.i64.wrap (z + 1) = z + 1 := wrap_k64' _ (by omega) (by omega)
  have hcb : (w.alloc (.cells #[.int .i64 lo, .int .i64 hi] 56)).cell? ⟨g, m * 2 + 1, none⟩ = some (.int .i64 z) := by
    rw [World.cell?_alloc_past _ _ _ hg]; exact hz
  have hfb : (w.alloc (.cells #[.int .i64 lo, .int .i64 hi] 56)).frozen? ⟨g, m * 2 + 1, none⟩ = false := by
    rw [World.frozen?_alloc_old _ _ _ (Nat.ne_of_lt hg)]; exact hf
  go_enter Try.func48, Try.ntmps48
  go_wp2
  go_quiet (fail)
  go_wp2
  go_ret
  exact ⟨rfl, _, rfl⟩

theorem extend_any (B : Nat) (v : Value) (l : List Rg) (lo hi : Int) (w : World) (hown : OwnR w B v l) (hB : B ≤ w.heap.size) (hlen : l.length ≤ 1000000) (hbd : ∀ r ∈ l, 0 ≤ r.2 ∧ r.2 ≤ 1114111) :
    Calls Try.prog 48 #[v, .agg #[.int .i64 lo, .int .i64 hi]] w fun e w' => ∃ v', e = .returned v' ∧ OwnR w' B v' (growL l lo hi) ∧ w.grownBy w' v.ownBlock := by
  have hown0 := hown
  unfold OwnR at hown
  by_cases hne : l = []
  · subst hne
    rcases hown.2 with ⟨rfl, h0⟩ | ⟨g, cap, cur, rfl, _⟩
    · exact extend_zero B none 0 lo hi w hown hB
    · exact extend_zero B _ cap lo hi w hown hB
  · have hpos := List.length_pos_iff.2 hne
    obtain ⟨m, hm⟩ : ∃ m, l.length = m + 1 := ⟨l.length - 1, by omega⟩
    have hm1 : l.length - 1 = m := by omega
    have hlt := hown.lt
    rcases hown.2 with ⟨rfl, h0⟩ | ⟨g, cap, cur, rfl, hbg, hg, _⟩
    · omega
    · have hc := (cellsR_get l m (by omega)).2
      have hcell := hown.cellAt (m * 2 + 1) (by omega)
      rw [hc] at hcell
      have hgs := (hlt g rfl).2
      have hmem : l.getD m (0, 0) ∈ l := by have : m < l.length := by omega
                                            simp [this]
      have hb := hbd _ hmem
      have hfz : w.frozen? ⟨g, m * 2 + 1, none⟩ = false := by simp [World.frozen?, hg]
      by_cases he : (l.getD m (0, 0)).2 + 1 = lo
      · have e1 := growL_in (l := l) (lo := lo) (hi := hi) hne (by rw [hm1]; exact he)
        rw [e1, hm1, hm]
        refine (extend_last g m cap lo hi _ w (by omega) hgs hcell hfz (by omega) (by omega) (by rw [beq_iff_eq]; exact he)).mono ?_
        rintro e w' ⟨rfl, n, rfl⟩
        have hO : OwnR ((w.alloc (.cells #[.int .i64 lo, .int .i64 hi] 56)).drewN n) B (.slice (some ⟨g, 0, none⟩) l.length cap) l := World.ownsRow.alloc hown0 _
        have := own_last (hi := hi) hO hne
        rw [hm1] at this
        rw [hm] at this
        refine ⟨_, rfl, this, ?_⟩
        have g1 := World.grownBy_alloc w (.cells #[.int .i64 lo, .int .i64 hi] 56) (some g)
        have g2 := grown_set (w := (w.alloc (.cells #[.int .i64 lo, .int .i64 hi] 56)).drewN n) (g := g) (j := m * 2 + 1) (u := .int .i64 hi)
        exact g1.trans (row := some g) ⟨g2.os, g2.tape, g2.output, g2.size, g2.block⟩
      · rw [growL_out hne (by rw [hm1]; exact he), hm]
        rw [hm] at hown
        exact extend_put B g m cap l lo hi _ w hm hown hB (by omega) hgs hcell (by omega) (by omega) (by rw [beq_eq_false_iff_ne]; exact he)

end Go.Proofs.Ytbiiapdeincpbaa
