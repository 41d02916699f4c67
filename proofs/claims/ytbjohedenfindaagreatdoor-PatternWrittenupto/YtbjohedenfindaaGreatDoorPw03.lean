/- Texts of the proof, put together: RGrow, PExt, PTurn, PTake. -/
import Derived.Test.YtbjohedenfindaaGreatDoorPw02
import Derived.Maps.AppendAt
import Derived.Maps.Range
import Derived.BigQuiet
import Derived.Deep.QuietTactic
import Derived.Test.YtbjohedenfindaaGreatDoorProg
import Derived.WalkKit
import Derived.WalkSpells
import Derived.WalkLawsBesides
import Derived.Lib.OwnKind
import Derived.Lib.OthersKept
namespace Go.Proofs.YtbjohedenfindaaGreatDoor
open Go.RowKit
set_option linter.unusedVariables false
set_option maxRecDepth 100000

def cellsR (l : List Rg) : List Value := l.flatMap fun r => [.int .i64 r.1, .int .i64 r.2]
theorem cellsR_len (l : List Rg) : (cellsR l).length = l.length * 2 := by
  induction l with
  | nil => rfl
  | cons r t ih =>
    have e : cellsR (r :: t) = [.int .i64 r.1, .int .i64 r.2] ++ cellsR t := by simp [cellsR]
    rw [e, List.length_append, ih]; simp; omega
theorem cellsR_append (a b : List Rg) : cellsR (a ++ b) = cellsR a ++ cellsR b := by simp [cellsR]
theorem cellsR_get : ∀ (l : List Rg) (j : Nat), j < l.length → (cellsR l)[j * 2]? = some (.int .i64 (l.getD j (0, 0)).1) ∧ (cellsR l)[j * 2 + 1]? = some (.int .i64 (l.getD j (0, 0)).2)
  | [], j, h => by simp at h
  | r :: t, 0, _ => by simp [cellsR]
  | r :: t, j + 1, h => by
    have ih := cellsR_get t j (by simpa using h)
    have e : cellsR (r :: t) = [.int .i64 r.1, .int .i64 r.2] ++ cellsR t := by simp [cellsR]
    have e1 : (j + 1) * 2 = 2 + j * 2 := by omega
    rw [e, e1, List.getElem?_append_right (by simp), Nat.add_assoc, List.getElem?_append_right (by simp)]
    simpa using ih

/-- a slice of ranges that the call made -/
def OwnR (w : World) (B : Nat) (v : Value) (l : List Rg) : Prop := w.ownsRow B 101 2 v l.length (cellsR l)

theorem OwnR.rngs {w : World} {B : Nat} {v : Value} {l : List Rg} (h : OwnR w B v l) : Rngs w v l := by
  have hl := h.lt
  unfold OwnR at h
  rcases h.2 with ⟨rfl, h0⟩ | ⟨g, cap, cur, rfl, _⟩
  · exact Or.inl ⟨List.eq_nil_of_length_eq_zero h0, _, _, rfl⟩
  · refine Or.inr ⟨g, 0, cap, rfl, (hl g rfl).2, fun j hj => ?_⟩
    have c0 := h.cellAt (j * 2) (by omega)
    have c1 := h.cellAt (j * 2 + 1) (by omega)
    have hg := cellsR_get l j hj
    rw [hg.1] at c0
    rw [hg.2] at c1
    exact ⟨by simpa using c0, by simpa using c1⟩

theorem Tryz.infoRange : (Tryz.prog.info? 101).map (fun i => (i.zero, i.size, i.bytes)) = some (some (.agg #[.int .i64 0, .int .i64 0]), 2, 16) := by kernel_rfl

theorem getD_last (l : List Rg) (h : l ≠ []) : l.getLast? = some (l.getD (l.length - 1) (0, 0)) := by
  rw [List.getLast?_eq_getElem?]
  have : l.length - 1 < l.length := by have := List.length_pos_iff.2 h; omega
  simp [this]

/-- the last range made longer, in its place -/
theorem own_last {w : World} {B g cap : Nat} {l : List Rg} {hi : Int} (h : OwnR w B (.slice (some ⟨g, 0, none⟩) l.length cap) l) (hne : l ≠ []) :
    OwnR (w.setCell ⟨g, (l.length - 1) * 2 + 1, none⟩ (.int .i64 hi)) B (.slice (some ⟨g, 0, none⟩) l.length cap) (l.dropLast ++ [((l.getD (l.length - 1) (0, 0)).1, hi)]) := by
  have hpos := List.length_pos_iff.2 hne
  unfold OwnR at h ⊢
  have hlen : (l.dropLast ++ [((l.getD (l.length - 1) (0, 0)).1, hi)]).length = l.length := by simp; omega
  rw [hlen]
  rcases h.2 with ⟨h', _⟩ | ⟨g', cap', cur, h', hbg, hg, hnc, hcm, hcs, htake⟩
  · simp at h'
  · simp only [Value.slice.injEq, Option.some.injEq, Addr.mk.injEq, and_true, true_and] at h'
    obtain ⟨rfl, rfl⟩ := h'
    refine ⟨by rw [cellsR_len, hlen], Or.inr ⟨g, cap, cur.setIfInBounds ((l.length - 1) * 2 + 1) (.int .i64 hi), rfl, hbg, ?_, hnc, hcm, by simpa using hcs, ?_⟩⟩
    · have hlt : g < w.heap.size := (Array.getElem?_eq_some_iff.1 hg).1
      simp [World.setCell, Array.getElem?_modify, hg]
    · have hs := split_last (getD_last l hne)
      have e1 : cellsR l = cellsR l.dropLast ++ [.int .i64 (l.getD (l.length - 1) (0, 0)).1, .int .i64 (l.getD (l.length - 1) (0, 0)).2] := by
        conv => lhs; rw [hs]
        rw [cellsR_append]; simp [cellsR]
      have e2 : cellsR (l.dropLast ++ [((l.getD (l.length - 1) (0, 0)).1, hi)]) = cellsR l.dropLast ++ [.int .i64 (l.getD (l.length - 1) (0, 0)).1, .int .i64 hi] := by
        rw [cellsR_append]; simp [cellsR]
      have hdl : (cellsR l.dropLast).length = (l.length - 1) * 2 := by rw [cellsR_len]; simp
      rw [e2, Array.toList_setIfInBounds, List.take_set, htake, e1, List.set_append_right _ _ (by omega)]
      have : (l.length - 1) * 2 + 1 - (cellsR l.dropLast).length = 1 := by omega
      rw [this]
      rfl

theorem growL_in {l : List Rg} {lo hi : Int} (hne : l ≠ []) (h : (l.getD (l.length - 1) (0, 0)).2 + 1 = lo) : growL l lo hi = l.dropLast ++ [((l.getD (l.length - 1) (0, 0)).1, hi)] := by
  unfold growL; rw [getD_last l hne]; simp only; rw [if_pos h]
theorem growL_out {l : List Rg} {lo hi : Int} (hne : l ≠ []) (h : ¬ (l.getD (l.length - 1) (0, 0)).2 + 1 = lo) : growL l lo hi = l ++ [(lo, hi)] := by
  unfold growL; rw [getD_last l hne]; simp only; rw [if_neg h]

theorem own_snoc {w : World} {B n : Nat} {v : Value} {l : List Rg} {lo hi : Int} (hn : l.length = n) (h : w.ownsRow B 101 2 v (n + 1) (cellsR l ++ [.int .i64 lo, .int .i64 hi])) : OwnR w B v (l ++ [(lo, hi)]) := by
  subst hn
  unfold OwnR
  rw [cellsR_append]
  simpa [cellsR] using h

theorem grown_set {w : World} {g j : Nat} {u : Value} : w.grownBy (w.setCell ⟨g, j, none⟩ u) (some g) :=
  ⟨rfl, rfl, rfl, by simp, fun k hk hne => Below.heap_setCell w ⟨g, j, none⟩ u k (fun e => hne (by rw [e]))⟩

set_option maxHeartbeats 1000000 in
theorem grow_put (B : Nat) (a : Option Addr) (n c : Nat) (l : List Rg) (lo hi : Int) (w : World) (hn : l.length = n) (hown : w.ownsRow B 101 2 (.slice a n c) n (cellsR l)) (hB : B ≤ w.heap.size) (hlen : n ≤ 10000000)
    (hno : n = 0 ∨ ∃ g m, a = some ⟨g, 0, none⟩ ∧ n = m + 1 ∧ ∃ z : Int, w.cell? ⟨g, m * 2 + 1, none⟩ = some (.int .i64 z) ∧ -1 ≤ z ∧ z ≤ 1114112 ∧ (z + 1 == lo) = false) :
    Calls Tryz.prog 112 #[.slice a n c, .int .i64 lo, .int .i64 hi] w fun e w' => ∃ v', e = .returned v' ∧ OwnR w' B v' (l ++ [(lo, hi)]) ∧ w.grownBy w' (Value.slice a n c).ownBlock := by
  obtain ⟨i0, hi0, hz0, hz1, hz2⟩ := info_parts Tryz.infoRange
  rcases hno with rfl | ⟨g, m, rfl, rfl, z, hz, z0, z1, hne⟩
  · go_enter Tryz.func112, Tryz.ntmps112
    go_wp2_with (at_builtin; refine wpList_append_own _ rfl _ _ 33 rfl B 101 i0 (.agg #[.int .i64 0, .int .i64 0]) 2 16 Tryz.underlying33 hi0 hz0 hz1 hz2 rfl (by decide) _ _ _ rfl (hown.alloc _) ⟨w.heap.size, 0, none⟩ 1 1 [.int .i64 lo, .int .i64 hi] rfl rfl ?c1 ?c2 ?c3 ?c4 ?c5 ?_)
    case c1 =>
      intro j u hj
      match j, hj with
      | 0, hj => simp at hj; subst hj; simp [Addr.add]
      | 1, hj => simp at hj; subst hj; simp [Addr.add]
    case c2 => intro u hu; simp at hu; rcases hu with rfl | rfl <;> rfl
    case c3 => unfold maxLen; omega
    case c4 => omega
    case c5 => simp; omega
    · intro v' w1 hown' hgrow _
      have hown3 := own_snoc hn hown'
      have hg3 := (World.grownBy_alloc w _ _).trans hgrow
      clear hown' hgrow
      go_wp2
      go_ret
      exact ⟨_, rfl, hown3, hg3⟩
  · go_enter Tryz.func112, Tryz.ntmps112
    go_wp2_with (at_builtin; refine wpList_append_own _ rfl _ _ 33 rfl B 101 i0 (.agg #[.int .i64 0, .int .i64 0]) 2 16 Tryz.underlying33 hi0 hz0 hz1 hz2 rfl (by decide) _ _ _ rfl (hown.alloc _) ⟨w.heap.size, 0, none⟩ 1 1 [.int .i64 lo, .int .i64 hi] rfl rfl ?c1 ?c2 ?c3 ?c4 ?c5 ?_)
    case c1 =>
      intro j u hj
      match j, hj with
      | 0, hj => simp at hj; subst hj; simp [Addr.add]
      | 1, hj => simp at hj; subst hj; simp [Addr.add]
    case c2 => intro u hu; simp at hu; rcases hu with rfl | rfl <;> rfl
    case c3 => unfold maxLen; omega
    case c4 => omega
    case c5 => simp; omega
    · intro v' w1 hown' hgrow _
      have hown3 := own_snoc hn hown'
      have hg3 := (World.grownBy_alloc w _ _).trans hgrow
      clear hown' hgrow
      go_wp2
      go_ret
      exact ⟨_, rfl, hown3, hg3⟩

set_option maxHeartbeats 1000000 in
theorem grow_last (g m c : Nat) (lo hi z u : Int) (w : World) (hlen : m ≤ 10000000) (hz : w.cell? ⟨g, m * 2 + 1, none⟩ = some (.int .i64 z)) (hf : w.frozen? ⟨g, m * 2 + 1, none⟩ = false) (z0 : -1 ≤ z) (z1 : z ≤ 1114112) (he : (z + 1 == lo) = true) :
    Calls Tryz.prog 112 #[.slice (some ⟨g, 0, none⟩) (m + 1) c, .int .i64 lo, .int .i64 hi] w fun e w' => e = .returned (.slice (some ⟨g, 0, none⟩) (m + 1) c) ∧ w' = w.setCell ⟨g, m * 2 + 1, none⟩ (.int .i64 hi) := by
  go_enter Tryz.func112, Tryz.ntmps112
  go_wp2
  go_ret
  exact ⟨rfl, rfl⟩

theorem grow_any (B : Nat) (v : Value) (l : List Rg) (lo hi : Int) (w : World) (hown : OwnR w B v l) (hB : B ≤ w.heap.size) (hlen : l.length ≤ 10000000) (hbd : ∀ r ∈ l, 0 ≤ r.2 ∧ r.2 ≤ 1114111) :
    Calls Tryz.prog 112 #[v, .int .i64 lo, .int .i64 hi] w fun e w' => ∃ v', e = .returned v' ∧ OwnR w' B v' (growL l lo hi) ∧ w.grownBy w' v.ownBlock := by
  have hown0 := hown
  unfold OwnR at hown
  by_cases hne : l = []
  · subst hne
    rcases hown.2 with ⟨rfl, h0⟩ | ⟨g, cap, cur, rfl, _⟩
    · exact grow_put B none 0 0 [] lo hi w rfl hown hB (by omega) (Or.inl rfl)
    · exact grow_put B _ 0 cap [] lo hi w rfl hown hB (by omega) (Or.inl rfl)
  · have hpos := List.length_pos_iff.2 hne
    obtain ⟨m, hm⟩ : ∃ m, l.length = m + 1 := ⟨l.length - 1, by omega⟩
    have hm1 : l.length - 1 = m := by omega
    rcases hown.2 with ⟨rfl, h0⟩ | ⟨g, cap, cur, rfl, hbg, hg, _⟩
    · omega
    · have hc := (cellsR_get l m (by omega)).2
      have hcell := hown.cellAt (m * 2 + 1) (by omega)
      rw [hc] at hcell
      have hmem : l.getD m (0, 0) ∈ l := by have : m < l.length := by omega
                                            simp [this]
      have hb := hbd _ hmem
      have hfz : w.frozen? ⟨g, m * 2 + 1, none⟩ = false := by simp [World.frozen?, hg]
      by_cases he : (l.getD m (0, 0)).2 + 1 = lo
      · have e1 := growL_in (l := l) (lo := lo) (hi := hi) hne (by rw [hm1]; exact he)
        rw [e1, hm1]
        have := own_last (hi := hi) hown0 hne
        rw [hm1] at this
        rw [hm] at this ⊢
        refine (grow_last g m cap lo hi _ 0 w (by omega) hcell hfz (by omega) (by omega) (by rw [beq_iff_eq]; exact he)).mono ?_
        rintro e w' ⟨rfl, rfl⟩
        exact ⟨_, rfl, this, grown_set⟩
      · rw [growL_out hne (by rw [hm1]; exact he)]
        exact grow_put B _ _ cap l lo hi w rfl hown hB hlen (Or.inr ⟨g, m, rfl, hm, _, hcell, by omega, by omega, by rw [beq_eq_false_iff_ne]; exact he⟩)

end Go.Proofs.YtbjohedenfindaaGreatDoor

namespace Go.Proofs.YtbjohedenfindaaGreatDoor
open Go.RowKit
set_option linter.unusedVariables false
set_option maxRecDepth 100000

theorem wrap_k64' (n : Int) (h0 : -9223372036854775808 ≤ n) (h1 : n ≤ 9223372036854775807) : IntKind.i64.wrap n = n := by
  simp [IntKind.wrap, IntKind.bits, IntKind.signed]
  split <;> omega

theorem add_off' (g o j : Nat) : (⟨g, o, none⟩ : Addr).add j = ⟨g, o + j, none⟩ := by
  unfold Addr.add
  split <;> simp_all
theorem new_cell (W : World) (cs : Array Value) (e n j : Nat) (h : W.heap.size = n) : (W.alloc (.cells cs e)).cell? ⟨n, j, none⟩ = cs[j]? := by
  rw [World.cell?_alloc_at _ _ _ _ h.symm]

set_option maxHeartbeats 1000000 in
theorem extend_zero (B : Nat) (a : Option Addr) (c : Nat) (lo hi : Int) (w : World) (hown : w.ownsRow B 101 2 (.slice a 0 c) 0 (cellsR [])) (hB : B ≤ w.heap.size) :
    Calls Tryz.prog 135 #[.slice a 0 c, .agg #[.int .i64 lo, .int .i64 hi]] w fun e w' => ∃ v', e = .returned v' ∧ OwnR w' B v' [(lo, hi)] ∧ w.grownBy w' (Value.slice a 0 c).ownBlock := by
  obtain ⟨i0, hi0, hz0, hz1, hz2⟩ := info_parts Tryz.infoRange
  go_enter Tryz.func135, Tryz.ntmps135
  go_wp2
  go_quiet (fail)
  go_wp2_with (at_builtin; refine wpList_append_own _ rfl _ _ 33 rfl B 101 i0 (.agg #[.int .i64 0, .int .i64 0]) 2 16 Tryz.underlying33 hi0 hz0 hz1 hz2 rfl (by decide) _ 0 (cellsR []) rfl ?c0 ⟨w.heap.size + 1, 0, none⟩ 1 1 [.int .i64 lo, .int .i64 hi] rfl rfl ?c1 ?c2 ?c3 ?c4 ?c5 ?_)
  case c0 => exact (hown.alloc _).alloc _
  case c1 =>
    intro j u hj
    match j, hj with
    | 0, hj => simp at hj; subst hj; rw [add_off', new_cell _ _ _ _ _ (by show (w.alloc _).heap.size = _; simp)]; rfl
    | 1, hj => simp at hj; subst hj; rw [add_off', new_cell _ _ _ _ _ (by show (w.alloc _).heap.size = _; simp)]; rfl
  case c2 => intro u hu; simp at hu; rcases hu with rfl | rfl <;> rfl
  case c3 => unfold maxLen; omega
  case c4 => omega
  case c5 => simp; omega
  · intro v' w1 hown' hgrow _
    have hown3 := own_snoc (l := []) rfl hown'
    have hg3 := ((World.grownBy_alloc w _ _).trans (World.grownBy_alloc _ _ _)).trans (row := (Value.slice a 0 c).ownBlock) (c := w1) ⟨hgrow.os, hgrow.tape, hgrow.output, hgrow.size, hgrow.block⟩
    clear hown' hgrow
    go_wp2
    go_ret
    exact ⟨_, rfl, hown3, hg3⟩

set_option maxHeartbeats 1000000 in
theorem extend_put (B g m c : Nat) (l : List Rg) (lo hi z : Int) (w : World) (hn : l.length = m + 1) (hown : w.ownsRow B 101 2 (.slice (some ⟨g, 0, none⟩) (m + 1) c) (m + 1) (cellsR l)) (hB : B ≤ w.heap.size) (hlen : m ≤ 1000000) (hg : g < w.heap.size)
    (hz : w.cell? ⟨g, m * 2 + 1, none⟩ = some (.int .i64 z)) (z0 : -1 ≤ z) (z1 : z ≤ 1114112) (hne : (z + 1 == lo) = false) :
    Calls Tryz.prog 135 #[.slice (some ⟨g, 0, none⟩) (m + 1) c, .agg #[.int .i64 lo, .int .i64 hi]] w fun e w' => ∃ v', e = .returned v' ∧ OwnR w' B v' (l ++ [(lo, hi)]) ∧ w.grownBy w' (some g) := by
  obtain ⟨i0, hi0, hz0, hz1, hz2⟩ := info_parts Tryz.infoRange
  have hwr : IntKind.i64.wrap (z + 1) = z + 1 := wrap_k64' _ (by omega) (by omega)
  have hcb : (w.alloc (.cells #[.int .i64 lo, .int .i64 hi] 101)).cell? ⟨g, m * 2 + 1, none⟩ = some (.int .i64 z) := by
    rw [World.cell?_alloc_past _ _ _ hg]; exact hz
  go_enter Tryz.func135, Tryz.ntmps135
  go_wp2
  go_quiet (fail)
  go_wp2_with (at_builtin; refine wpList_append_own _ rfl _ _ 33 rfl B 101 i0 (.agg #[.int .i64 0, .int .i64 0]) 2 16 Tryz.underlying33 hi0 hz0 hz1 hz2 rfl (by decide) _ (m + 1) (cellsR l) rfl ?c0 ⟨w.heap.size + 1, 0, none⟩ 1 1 [.int .i64 lo, .int .i64 hi] rfl rfl ?c1 ?c2 ?c3 ?c4 ?c5 ?_)
  case c0 => exact (hown.alloc _).alloc _
  case c1 =>
    intro j u hj
    match j, hj with
    | 0, hj => simp at hj; subst hj; rw [add_off', new_cell _ _ _ _ _ (by show (w.alloc _).heap.size = _; simp)]; rfl
    | 1, hj => simp at hj; subst hj; rw [add_off', new_cell _ _ _ _ _ (by show (w.alloc _).heap.size = _; simp)]; rfl
  case c2 => intro u hu; simp at hu; rcases hu with rfl | rfl <;> rfl
  case c3 => unfold maxLen; omega
  case c4 => omega
  case c5 => simp; omega
  · intro v' w1 hown' hgrow _
    have hown3 := own_snoc hn hown'
    have hg3 := ((World.grownBy_alloc w _ _).trans (World.grownBy_alloc _ _ _)).trans (row := some g) (c := w1) ⟨hgrow.os, hgrow.tape, hgrow.output, hgrow.size, hgrow.block⟩
    clear hown' hgrow
    go_wp2
    go_ret
    exact ⟨_, rfl, hown3, hg3⟩

set_option maxHeartbeats 1000000 in
theorem extend_last (g m c : Nat) (lo hi z : Int) (w : World) (hlen : m ≤ 1000000) (hg : g < w.heap.size) (hz : w.cell? ⟨g, m * 2 + 1, none⟩ = some (.int .i64 z)) (hf : w.frozen? ⟨g, m * 2 + 1, none⟩ = false) (z0 : -1 ≤ z) (z1 : z ≤ 1114112) (he : (z + 1 == lo) = true) :
    Calls Tryz.prog 135 #[.slice (some ⟨g, 0, none⟩) (m + 1) c, .agg #[.int .i64 lo, .int .i64 hi]] w fun e w' => e = .returned (.slice (some ⟨g, 0, none⟩) (m + 1) c) ∧ ∃ n, w' = ((w.alloc (.cells #[.int .i64 lo, .int .i64 hi] 101)).drewN n).setCell ⟨g, m * 2 + 1, none⟩ (.int .i64 hi) := by
  have hwr : IntKind.i64.wrap (z + 1) = z + 1 := wrap_k64' _ (by omega) (by omega)
  have hcb : (w.alloc (.cells #[.int .i64 lo, .int .i64 hi] 101)).cell? ⟨g, m * 2 + 1, none⟩ = some (.int .i64 z) := by
    rw [World.cell?_alloc_past _ _ _ hg]; exact hz
  have hfb : (w.alloc (.cells #[.int .i64 lo, .int .i64 hi] 101)).frozen? ⟨g, m * 2 + 1, none⟩ = false := by
    rw [World.frozen?_alloc_old _ _ _ (Nat.ne_of_lt hg)]; exact hf
  go_enter Tryz.func135, Tryz.ntmps135
  go_wp2
  go_quiet (fail)
  go_wp2
  go_ret
  exact ⟨rfl, _, rfl⟩

theorem extend_any (B : Nat) (v : Value) (l : List Rg) (lo hi : Int) (w : World) (hown : OwnR w B v l) (hB : B ≤ w.heap.size) (hlen : l.length ≤ 1000000) (hbd : ∀ r ∈ l, 0 ≤ r.2 ∧ r.2 ≤ 1114111) :
    Calls Tryz.prog 135 #[v, .agg #[.int .i64 lo, .int .i64 hi]] w fun e w' => ∃ v', e = .returned v' ∧ OwnR w' B v' (growL l lo hi) ∧ w.grownBy w' v.ownBlock := by
  have hown0 := hown
  unfold OwnR at hown
  by_cases hne : l = []
  · subst hne
    rcases hown.2 with ⟨rfl, h0⟩ | ⟨g, cap, cur, rfl, _⟩
    · exact extend_zero B none 0 lo hi w hown hB
    · exact extend_zero B _ cap lo hi w hown hB
  · have hpos := List.length_pos_iff.2 hne
    obtain ⟨m, hm⟩ : ∃ m, l.length = m + 1 := ⟨l.length - 1, by omega⟩
    have hm1 : l.length - 1 = m := by omega
    have hlt := hown.lt
    rcases hown.2 with ⟨rfl, h0⟩ | ⟨g, cap, cur, rfl, hbg, hg, _⟩
    · omega
    · have hc := (cellsR_get l m (by omega)).2
      have hcell := hown.cellAt (m * 2 + 1) (by omega)
      rw [hc] at hcell
      have hgs := (hlt g rfl).2
      have hmem : l.getD m (0, 0) ∈ l := by have : m < l.length := by omega
                                            simp [this]
      have hb := hbd _ hmem
      have hfz : w.frozen? ⟨g, m * 2 + 1, none⟩ = false := by simp [World.frozen?, hg]
      by_cases he : (l.getD m (0, 0)).2 + 1 = lo
      · have e1 := growL_in (l := l) (lo := lo) (hi := hi) hne (by rw [hm1]; exact he)
        rw [e1, hm1, hm]
        refine (extend_last g m cap lo hi _ w (by omega) hgs hcell hfz (by omega) (by omega) (by rw [beq_iff_eq]; exact he)).mono ?_
        rintro e w' ⟨rfl, n, rfl⟩
        have hO : OwnR ((w.alloc (.cells #[.int .i64 lo, .int .i64 hi] 101)).drewN n) B (.slice (some ⟨g, 0, none⟩) l.length cap) l := World.ownsRow.alloc hown0 _
        have := own_last (hi := hi) hO hne
        rw [hm1] at this
        rw [hm] at this
        refine ⟨_, rfl, this, ?_⟩
        have g1 := World.grownBy_alloc w (.cells #[.int .i64 lo, .int .i64 hi] 101) (some g)
        have g2 := grown_set (w := (w.alloc (.cells #[.int .i64 lo, .int .i64 hi] 101)).drewN n) (g := g) (j := m * 2 + 1) (u := .int .i64 hi)
        exact g1.trans (row := some g) ⟨g2.os, g2.tape, g2.output, g2.size, g2.block⟩
      · rw [growL_out hne (by rw [hm1]; exact he), hm]
        rw [hm] at hown
        exact extend_put B g m cap l lo hi _ w hm hown hB (by omega) hgs hcell (by omega) (by omega) (by rw [beq_eq_false_iff_ne]; exact he)

end Go.Proofs.YtbjohedenfindaaGreatDoor

namespace Go.Proofs.YtbjohedenfindaaGreatDoor
open Go.RowKit
set_option linter.unusedVariables false
set_option maxRecDepth 100000

set_option maxHeartbeats 400000 in
theorem turn_0 (D : Nat) (d by' : Int) (w : World) (hc : w.cell? ⟨D, 0, none⟩ = some (.int .i64 d)) (hf : w.frozen? ⟨D, 0, none⟩ = false) (h0 : -1000000 ≤ d) (h1 : d ≤ 1000000) (b0 : -1 ≤ by') (b1 : by' ≤ 1) :
    Calls Tryz.prog 132 #[.int .i64 0, .int .i64 by', .pointer (some ⟨D, 0, none⟩)] w fun e w' => e = .returned (.tuple #[]) ∧ w' = w.setCell ⟨D, 0, none⟩ (.int .i64 (d + by')) := by
  go_enter Tryz.func132, Tryz.ntmps132
  go_wp2
  go_end0
  exact ⟨rfl, rfl⟩

set_option maxHeartbeats 400000 in
theorem turn_1 (D : Nat) (d by' : Int) (w : World) (hc : w.cell? ⟨D, 1, none⟩ = some (.int .i64 d)) (hf : w.frozen? ⟨D, 1, none⟩ = false) (h0 : -1000000 ≤ d) (h1 : d ≤ 1000000) (b0 : -1 ≤ by') (b1 : by' ≤ 1) :
    Calls Tryz.prog 132 #[.int .i64 1, .int .i64 by', .pointer (some ⟨D, 0, none⟩)] w fun e w' => e = .returned (.tuple #[]) ∧ w' = w.setCell ⟨D, 1, none⟩ (.int .i64 (d + by')) := by
  go_enter Tryz.func132, Tryz.ntmps132
  go_wp2
  go_end0
  exact ⟨rfl, rfl⟩

set_option maxHeartbeats 400000 in
theorem canon1_any (x y : Bool) (w : World) : Calls Tryz.prog 180 #[.bool x, .bool y] w fun e w' => e = .returned (.bool x) ∧ w' = w := by
  go_enter Tryz.func180, Tryz.ntmps180
  go_wp2
  go_ret
  exact ⟨rfl, rfl⟩
set_option maxHeartbeats 400000 in
theorem other1_any (x y : Bool) (w : World) : Calls Tryz.prog 118 #[.bool x, .bool y] w fun e w' => e = .returned (.bool (!x)) ∧ w' = w := by
  go_enter Tryz.func118, Tryz.ntmps118
  go_wp2
  go_ret
  exact ⟨rfl, rfl⟩

end Go.Proofs.YtbjohedenfindaaGreatDoor

namespace Go.Proofs.YtbjohedenfindaaGreatDoor
open Go.RowKit
set_option linter.unusedVariables false
set_option maxRecDepth 100000

/-- a function of the program that answers of two bools, and does nothing else -/
structure Wants (g : Nat) (want : Bool → Bool → Bool) : Prop where
  enter : ∀ args w, (callFunc g args).run Tryz.prog w = .ok (.enter g args) w
  calls : ∀ (x y : Bool) (W : World), Calls Tryz.prog g #[.bool x, .bool y] W fun e w' => e = .returned (.bool (want x y)) ∧ w' = W

set_option maxHeartbeats 1000000 in
theorem takeS_no (g : Nat) (want : Bool → Bool → Bool) (hw : Wants g want) (F D O : Nat) (d0 d1 lo hi : Int) (w : World)
    (cF : w.cell? ⟨F, 0, none⟩ = some (.func (.func g) #[] #[])) (c0 : w.cell? ⟨D, 0, none⟩ = some (.int .i64 d0)) (c1 : w.cell? ⟨D, 1, none⟩ = some (.int .i64 d1)) (hF : F < w.heap.size) (hD : D < w.heap.size)
    (hno : want (decide (0 < d0)) (decide (0 < d1)) = false) :
    Calls Tryz.prog 134 #[.agg #[.int .i64 lo, .int .i64 hi], .pointer (some ⟨F, 0, none⟩), .pointer (some ⟨D, 0, none⟩), .pointer (some ⟨O, 0, none⟩)] w fun e w' => e = .returned (.tuple #[]) ∧ w.grownBy w' none := by
  have eg := hw.enter
  have HW : Hid (∀ (x y : Bool) (W : World), Calls Tryz.prog g #[.bool x, .bool y] W fun e w' => e = .returned (.bool (want x y)) ∧ w' = W) := hw.calls
  clear hw
  have HN : Hid (want (decide (0 < d0)) (decide (0 < d1)) = false) := hno
  clear hno
  go_enter Tryz.func134, Tryz.ntmps134
  go_wp2_with fail
  refine (HW.out _ _ _).mono ?_
  rw [HN.out]
  rintro e w' ⟨rfl, rfl⟩
  go_wp2
  go_end0
  exact ⟨rfl, World.grownBy_alloc w _ _⟩

set_option maxHeartbeats 1000000 in
theorem takeS_yes (g : Nat) (want : Bool → Bool → Bool) (hw : Wants g want) (B F D O : Nat) (d0 d1 lo hi : Int) (v : Value) (l : List Rg) (w : World)
    (cF : w.cell? ⟨F, 0, none⟩ = some (.func (.func g) #[] #[])) (c0 : w.cell? ⟨D, 0, none⟩ = some (.int .i64 d0)) (c1 : w.cell? ⟨D, 1, none⟩ = some (.int .i64 d1)) (hF : F < w.heap.size) (hD : D < w.heap.size)
    (cO : w.heap[O]? = some (.cells #[v] 33 (0, 0))) (hO : O < w.heap.size) (hown : OwnR w B v l) (hB : B ≤ w.heap.size) (hlen : l.length ≤ 1000000) (hbd : ∀ r ∈ l, 0 ≤ r.2 ∧ r.2 ≤ 1114111)
    (hyes : want (decide (0 < d0)) (decide (0 < d1)) = true) :
    Calls Tryz.prog 134 #[.agg #[.int .i64 lo, .int .i64 hi], .pointer (some ⟨F, 0, none⟩), .pointer (some ⟨D, 0, none⟩), .pointer (some ⟨O, 0, none⟩)] w fun e w' => e = .returned (.tuple #[]) ∧ ∃ v' w1, OwnR w1 B v' (growL l lo hi) ∧ w.grownBy w1 v.ownBlock ∧ w' = w1.setCell ⟨O, 0, none⟩ v' := by
  have eg := hw.enter
  have HW : Hid (∀ (x y : Bool) (W : World), Calls Tryz.prog g #[.bool x, .bool y] W fun e w' => e = .returned (.bool (want x y)) ∧ w' = W) := hw.calls
  clear hw
  have HN : Hid (want (decide (0 < d0)) (decide (0 < d1)) = true) := hyes
  clear hyes
  have cO1 : w.cell? ⟨O, 0, none⟩ = some v := by simp [World.cell?, cO]
  have cO2 : (w.alloc (.cells #[.int .i64 lo, .int .i64 hi] 101)).cell? ⟨O, 0, none⟩ = some v := by
    rw [World.cell?_alloc_past _ _ _ hO]; exact cO1
  have hne : v.ownBlock ≠ some O := by
    intro e1
    obtain ⟨cc, fz, hc⟩ := Lib.ownsRow_kind hown O e1
    rw [cO] at hc
    simp at hc
  go_enter Tryz.func134, Tryz.ntmps134
  go_wp2_with fail
  refine (HW.out _ _ _).mono ?_
  rw [HN.out]
  rintro e w' ⟨rfl, rfl⟩
  go_wp2_with fail
  refine (extend_any B v l lo hi _ (World.ownsRow.alloc hown _) (by simp; omega) hlen hbd).mono ?_
  rintro e w1 ⟨v', rfl, hO1, hg1⟩
  have hb1 : w1.heap[O]? = some (.cells #[v] 33 (0, 0)) := by
    rw [hg1.block O (by simp; omega) (fun e => hne e.symm), Lib.alloc_old _ _ _ hO]; exact cO
  have f1 : w1.frozen? ⟨O, 0, none⟩ = false := by simp [World.frozen?, hb1]
  have f2 : w1.cell? ⟨O, 0, none⟩ = some v := by simp [World.cell?, hb1]
  have hg2 := (World.grownBy_alloc w _ _).trans hg1
  clear hg1 cO cO1 cO2
  obtain ⟨a', n', c', rfl⟩ : ∃ a n c, v' = .slice a n c := by
    rcases hO1.2 with ⟨rfl, _⟩ | ⟨g, cap, cur, rfl, _⟩
    · exact ⟨_, _, _, rfl⟩
    · exact ⟨_, _, _, rfl⟩
  go_wp2
  go_end0
  exact ⟨rfl, _, w1, hO1, hg2, rfl⟩

end Go.Proofs.YtbjohedenfindaaGreatDoor
