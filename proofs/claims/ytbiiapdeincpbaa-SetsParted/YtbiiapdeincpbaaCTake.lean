import Derived.Test.YtbiiapdeincpbaaCNew
import Derived.Test.YtbiiapdeincpbaaPExt
import Derived.Deep.RegionWith
namespace Go.Proofs.Ytbiiapdeincpbaa
open Go.RowKit
open Go.Maps (Keyed)
set_option linter.unusedVariables false
set_option maxRecDepth 100000

theorem own_slice {w : World} {B : Nat} {v : Value} {l : List Rg} (h : OwnR w B v l) : ∃ a c, v = .slice a l.length c := by
  rcases h.2 with ⟨rfl, h0⟩ | ⟨g, cap, cur, rfl, _⟩
  · exact ⟨none, 0, by rw [h0]⟩
  · exact ⟨_, _, rfl⟩

theorem after_ext {w w4 : World} {o : Obj} {k : Nat} {row : Option Nat} (h : ((w.alloc o).drewN k).grownBy w4 row) {b : Nat} (hb : b < w.heap.size) (hne : row ≠ some b) : w4.heap[b]? = w.heap[b]? := by
  rw [h.block b (by show b < (w.alloc o).heap.size; simp; omega) (fun e => hne e.symm)]
  exact Below.heap_alloc _ _ _ hb

set_option maxHeartbeats 2000000 in
theorem take_old {M Dp Nd Mp n L : Nat} {ds nodes : List Int} {ps : List Pr} {w : World} (hm : MemAt w M Dp Nd Mp n L ds nodes ps) (hL : 1 ≤ L) (B Q P C Q2 g cap m c : Nat) (lo hi r : Int) (hr : nodes.getD 1 0 = r) (vc : Value) (l : List Rg) (cur : Array Value)
    (hQ : Q < w.heap.size) (hP : P < w.heap.size) (hC : C < w.heap.size) (hg : g < w.heap.size) (hB : B ≤ w.heap.size) (hc : c < m) (hm9 : m ≤ 2000000)
    (cQ : w.cell? ⟨Q, 0, none⟩ = some (.map (some Q2))) (cP : w.cell? ⟨P, 0, none⟩ = some (.pointer (some ⟨M, 0, none⟩))) (hCb : w.heap[C]? = some (.cells #[.slice (some ⟨g, 0, none⟩) m cap] 37 (0, 0)))
    (hlook : ∀ j, (Instr.lookup 63 (.map (some Q2)) (.int .i64 r) true).run Try.prog ((w.alloc (.cells #[.int .i64 lo, .int .i64 hi] 56)).drewN j) = .ok (.tuple #[.int .i64 c, .bool true]) ((w.alloc (.cells #[.int .i64 lo, .int .i64 hi] 56)).drewN j))
    (hgb : w.heap[g]? = some (.cells cur 28 (0, 0))) (hcur : cur[c]? = some vc) (hown : OwnR w B vc l) (hlen : l.length ≤ 1000000) (hbd : ∀ r ∈ l, 0 ≤ r.2 ∧ r.2 ≤ 1114111) (hrC : vc.ownBlock ≠ some C) (hrg : vc.ownBlock ≠ some g) :
    Calls Try.prog 46 #[.agg #[.int .i64 lo, .int .i64 hi], .pointer (some ⟨Q, 0, none⟩), .pointer (some ⟨P, 0, none⟩), .pointer (some ⟨C, 0, none⟩)] w fun e w' => e = .returned (.tuple #[]) ∧ ∃ v' w1, OwnR w1 B v' (growL l lo hi) ∧ w.grownBy w1 vc.ownBlock ∧ w' = w1.setCell ⟨g, c, none⟩ v' := by
  have cQ1 : (w.alloc (.cells #[.int .i64 lo, .int .i64 hi] 56)).cell? ⟨Q, 0, none⟩ = some (.map (some Q2)) := by rw [World.cell?_alloc_past _ _ _ hQ]; exact cQ
  have cP1 : (w.alloc (.cells #[.int .i64 lo, .int .i64 hi] 56)).cell? ⟨P, 0, none⟩ = some (.pointer (some ⟨M, 0, none⟩)) := by rw [World.cell?_alloc_past _ _ _ hP]; exact cP
  have cC1 : (w.alloc (.cells #[.int .i64 lo, .int .i64 hi] 56)).cell? ⟨C, 0, none⟩ = some (.slice (some ⟨g, 0, none⟩) m cap) := by rw [World.cell?_alloc_past _ _ _ hC]; simp [World.cell?, hCb]
  have cc1 : (w.alloc (.cells #[.int .i64 lo, .int .i64 hi] 56)).cell? ⟨g, c, none⟩ = some vc := by rw [World.cell?_alloc_past _ _ _ hg]; simp [World.cell?, hgb, hcur]
  have HM : Hid (MemAt (w.alloc (.cells #[.int .i64 lo, .int .i64 hi] 56)) M Dp Nd Mp n L ds nodes ps) := hm.alloc _
  have HO : Hid (∀ j, OwnR ((w.alloc (.cells #[.int .i64 lo, .int .i64 hi] 56)).drewN j) B vc l) := fun j => World.ownsRow.alloc hown _
  have HB : Hid (∀ j, B ≤ ((w.alloc (.cells #[.int .i64 lo, .int .i64 hi] 56)).drewN j).heap.size) := fun j => by show B ≤ (w.alloc _).heap.size; simp; omega
  have HN : Hid (∀ W, MemAt W M Dp Nd Mp n L ds nodes ps → Calls Try.prog 47 #[.pointer (some ⟨M, 0, none⟩)] W fun e w' => e = .returned (.int .i64 r) ∧ w' = W) := fun W h => by rw [← hr]; exact number_any h hL
  have HAc : Hid (∀ {w4 : World} {nq : Nat}, ((w.alloc (.cells #[.int .i64 lo, .int .i64 hi] 56)).drewN (nq + 1)).grownBy w4 vc.ownBlock → w4.cell? ⟨C, 0, none⟩ = some (.slice (some ⟨g, 0, none⟩) m cap)) := fun h => by
    have := after_ext h hC hrC
    simp [World.cell?, this, hCb]
  have HAg : Hid (∀ {w4 : World} {nq : Nat}, ((w.alloc (.cells #[.int .i64 lo, .int .i64 hi] 56)).drewN (nq + 1)).grownBy w4 vc.ownBlock → w4.cell? ⟨g, c, none⟩ = some vc) := fun h => by
    have := after_ext h hg hrg
    simp [World.cell?, this, hgb, hcur]
  have HAf : Hid (∀ {w4 : World} {nq : Nat}, ((w.alloc (.cells #[.int .i64 lo, .int .i64 hi] 56)).drewN (nq + 1)).grownBy w4 vc.ownBlock → w4.frozen? ⟨g, c, none⟩ = false) := fun h => by
    have := after_ext h hg hrg
    simp [World.frozen?, this, hgb]
  obtain ⟨a', n', c', rfl⟩ : ∃ a n c, vc = .slice a n c := by
    rcases hown.2 with ⟨rfl, _⟩ | ⟨g, cap, cur, rfl, _⟩
    · exact ⟨_, _, _, rfl⟩
    · exact ⟨_, _, _, rfl⟩
  clear hm hown cQ cP hCb hgb hcur hr hrC hrg
  go_enter Try.func46, Try.ntmps46
  go_wp2
  go_quiet (exact Calls.quiet_of_same (HN.out _ (HM.out.drewN _)))
  all_goals
    go_wp2
    clear hlook HN HM cQ1 cP1
    go_region_with (go_at_call 48; refine (extend_any B (.slice a' n' c') l lo hi _ ?_ ?_ ?_ ?_).mono ?_; exact HO.out (nq + 1); exact HB.out (nq + 1); exact hlen; exact hbd; rintro e w4 ⟨v4, rfl, hO4, hg4⟩; have f1 := HAc.out hg4; have f2 := HAg.out hg4; have f3 := HAf.out hg4; rcases own_slice hO4 with ⟨a4, c4, rfl⟩)
    all_goals
      go_wp2
      go_end0
      exact ⟨rfl, _, w4, hO4, (World.grownBy_alloc w _ _).trans (row := (Value.slice a' n' c').ownBlock) ⟨hg4.os, hg4.tape, hg4.output, hg4.size, hg4.block⟩, rfl⟩
end Go.Proofs.Ytbiiapdeincpbaa
