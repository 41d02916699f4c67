import Derived.Test.YtbiiapdeincpbaaCTake
import Derived.Lib.OwnKind
namespace Go.Proofs.Ytbiiapdeincpbaa
open Go.RowKit
open Go.Maps (Keyed)
set_option linter.unusedVariables false
set_option maxRecDepth 100000

theorem Try.infoRanges : (Try.prog.info? 28).map (fun i => (i.zero, i.size, i.bytes)) = some (some (.slice none 0 0), 1, 24) := by kernel_rfl

theorem after_turn {w W3 : World} {o : Obj} {k Q2 : Nat} (h : ((w.alloc o).drewN k).mapTurned W3 Q2) {b : Nat} (hb : b < w.heap.size) (hne : b ≠ Q2) : W3.heap[b]? = w.heap[b]? := by
  rw [h.grown.block b (by show b < (w.alloc o).heap.size; simp; omega) (by simpa using hne)]
  exact Below.heap_alloc _ _ _ hb

set_option maxHeartbeats 4000000 in
theorem take_new {M Dp Nd Mp n L : Nat} {ds nodes : List Int} {ps : List Pr} {w : World} (hm : MemAt w M Dp Nd Mp n L ds nodes ps) (hL : 1 ≤ L) (B Q P C Q2 m cap : Nat) (a : Option Addr) (lo hi r : Int) (hr : nodes.getD 1 0 = r) (vs : List Value)
    (hQ : Q < w.heap.size) (hP : P < w.heap.size) (hC : C < w.heap.size) (hB : B ≤ w.heap.size) (hm9 : m ≤ 2000000)
    (cQ : w.cell? ⟨Q, 0, none⟩ = some (.map (some Q2))) (cP : w.cell? ⟨P, 0, none⟩ = some (.pointer (some ⟨M, 0, none⟩))) (hCb : w.heap[C]? = some (.cells #[.slice a m cap] 37 (0, 0))) (hCQ : C ≠ Q2)
    (hlook : ∀ j, (Instr.lookup 63 (.map (some Q2)) (.int .i64 r) true).run Try.prog ((w.alloc (.cells #[.int .i64 lo, .int .i64 hi] 56)).drewN j) = .ok (.tuple #[.int .i64 0, .bool false]) ((w.alloc (.cells #[.int .i64 lo, .int .i64 hi] 56)).drewN j))
    (hup : ∀ j, ∃ W3, (Instr.mapUpdate 63 (.map (some Q2)) (.int .i64 r) (.int .i64 m)).run Try.prog ((w.alloc (.cells #[.int .i64 lo, .int .i64 hi] 56)).drewN j) = .ok () W3 ∧ ((w.alloc (.cells #[.int .i64 lo, .int .i64 hi] 56)).drewN j).mapTurned W3 Q2)
    (hown : w.ownsRow B 28 1 (.slice a m cap) m vs) (hvC : (Value.slice a m cap).ownBlock ≠ some C) (hvQ : (Value.slice a m cap).ownBlock ≠ some Q2) (hbQ : w.heap.size ≠ Q2) :
    Calls Try.prog 46 #[.agg #[.int .i64 lo, .int .i64 hi], .pointer (some ⟨Q, 0, none⟩), .pointer (some ⟨P, 0, none⟩), .pointer (some ⟨C, 0, none⟩)] w fun e w' => e = .returned (.tuple #[]) ∧ ∃ j W3 W4 g5 cap5 w6 v6, (Instr.mapUpdate 63 (.map (some Q2)) (.int .i64 r) (.int .i64 m)).run Try.prog ((w.alloc (.cells #[.int .i64 lo, .int .i64 hi] 56)).drewN j) = .ok () W3 ∧ W4.ownsRow B 28 1 (.slice (some ⟨g5, 0, none⟩) (m + 1) cap5) (m + 1) (vs ++ [.slice none 0 0]) ∧ W3.grownBy W4 (Value.slice a m cap).ownBlock ∧ (W4.setCell ⟨C, 0, none⟩ (.slice (some ⟨g5, 0, none⟩) (m + 1) cap5)).grownBy w6 none ∧ OwnR w6 B v6 [(lo, hi)] ∧ w' = w6.setCell ⟨g5, m, none⟩ v6 := by
  obtain ⟨i0, hi0, hz0, hz1, hz2⟩ := info_parts Try.infoRanges
  have cQ1 : (w.alloc (.cells #[.int .i64 lo, .int .i64 hi] 56)).cell? ⟨Q, 0, none⟩ = some (.map (some Q2)) := by rw [World.cell?_alloc_past _ _ _ hQ]; exact cQ
  have cP1 : (w.alloc (.cells #[.int .i64 lo, .int .i64 hi] 56)).cell? ⟨P, 0, none⟩ = some (.pointer (some ⟨M, 0, none⟩)) := by rw [World.cell?_alloc_past _ _ _ hP]; exact cP
  have cC1 : (w.alloc (.cells #[.int .i64 lo, .int .i64 hi] 56)).cell? ⟨C, 0, none⟩ = some (.slice a m cap) := by rw [World.cell?_alloc_past _ _ _ hC]; simp [World.cell?, hCb]
  have HM : Hid (MemAt (w.alloc (.cells #[.int .i64 lo, .int .i64 hi] 56)) M Dp Nd Mp n L ds nodes ps) := hm.alloc _
  have HN : Hid (∀ W, MemAt W M Dp Nd Mp n L ds nodes ps → Calls Try.prog 47 #[.pointer (some ⟨M, 0, none⟩)] W fun e w' => e = .returned (.int .i64 r) ∧ w' = W) := fun W h => by rw [← hr]; exact number_any h hL
  have HUP : Hid (∀ j, ∃ W3, (Instr.mapUpdate 63 (.map (some Q2)) (.int .i64 r) (.int .i64 m)).run Try.prog ((w.alloc (.cells #[.int .i64 lo, .int .i64 hi] 56)).drewN j) = .ok () W3 ∧ W3.ownsRow B 28 1 (.slice a m cap) m vs ∧ W3.heap[C]? = some (.cells #[.slice a m cap] 37 (0, 0)) ∧ w.heap.size < W3.heap.size ∧ W3.heap[w.heap.size]? = some (.cells #[.int .i64 lo, .int .i64 hi] 56 (0, 0))) := fun j => by
    obtain ⟨W3, h1, h2⟩ := hup j
    refine ⟨W3, h1, ?_, (after_turn h2 hC hCQ).trans hCb, ?_, ?_⟩
    · have h3 : ((w.alloc (.cells #[.int .i64 lo, .int .i64 hi] 56)).drewN j).ownsRow B 28 1 (.slice a m cap) m vs := hown.alloc _
      exact h3.kept h2.grown (Or.inr hvQ)
    · have := h2.grown.size
      have h4 : ((w.alloc (.cells #[.int .i64 lo, .int .i64 hi] 56)).drewN j).heap.size = w.heap.size + 1 := by show (w.alloc _).heap.size = _; simp
      omega
    · rw [h2.grown.block w.heap.size (by show _ < (w.alloc _).heap.size; simp) (by simpa using hbQ)]
      exact heap_alloc_new w _
  clear hm hup cQ cP hCb hr hown hvQ hbQ hCQ
  go_enter Try.func46, Try.ntmps46
  go_wp2
  go_quiet (exact Calls.quiet_of_same (HN.out _ (HM.out.drewN _)))
  go_wp2
  obtain ⟨W3, hu, ho3, hC3, hs3, hb3⟩ := HUP.out (nq + 1)
  have HU : Hid ((Instr.mapUpdate 63 (.map (some Q2)) (.int .i64 r) (.int .i64 m)).run Try.prog ((w.alloc (.cells #[.int .i64 lo, .int .i64 hi] 56)).drewN (nq + 1)) = .ok () W3) := hu
  have hu1 : (Instr.mapUpdate 63 (.map (some Q2)) (.int .i64 r) (.int .i64 m)).run Try.prog ((w.alloc (.cells #[.int .i64 lo, .int .i64 hi] 56)).drewN nq).drew = .ok () W3 := hu
  clear hlook HUP
  refine (fun (rest : Hid ?G) => ?r1) ?r2
  case r1 =>
    go_region_with (go_at_call 47; refine (HN.out _ ?_).mono ?_; exact HM.out.drewN (nq + 1); rintro e w4 ⟨rfl, rfl⟩)
    all_goals exact rest.out
  case r2 =>
    unfold Hid
    clear hu hu1 HN HM cQ1 cP1 cC1
    have cC3 : W3.cell? ⟨C, 0, none⟩ = some (.slice a m cap) := by simp [World.cell?, hC3]
    have hC3s : C < W3.heap.size := by omega
    go_wp2_with (at_builtin; refine wpList_append_own _ rfl _ _ 37 rfl B 28 i0 (.slice none 0 0) 1 24 Try.underlying37 hi0 hz0 hz1 hz2 rfl (by decide) _ m vs rfl ?c0 ⟨W3.heap.size, 0, none⟩ 1 1 [.slice none 0 0] rfl rfl ?c1 ?c2 ?c3 ?c4 ?c5 ?_)
    case c0 => exact ho3.alloc _
    case c1 =>
      intro j u hj
      match j, hj with
      | 0, hj => simp at hj; subst hj; rw [add_off', new_cell _ _ _ _ _ rfl]; rfl
    case c2 => intro u hu; simp at hu; subst hu; rfl
    case c3 => unfold maxLen; omega
    case c4 => omega
    case c5 => simp; omega
    · intro v' w1 hown' hgrow _
      have hg3 : W3.grownBy w1 (Value.slice a m cap).ownBlock := (World.grownBy_alloc W3 _ _).trans hgrow
      have hnb : (Value.slice a m cap).ownBlock ≠ some w.heap.size := fun e1 => by
        obtain ⟨cc, fz, hc⟩ := Lib.ownsRow_kind ho3 _ e1
        rw [hb3] at hc
        simp at hc
      have h1C : w1.heap[C]? = some (.cells #[.slice a m cap] 37 (0, 0)) := (hg3.block C hC3s (fun e => hvC e.symm)).trans hC3
      have h1b : w1.heap[w.heap.size]? = some (.cells #[.int .i64 lo, .int .i64 hi] 56 (0, 0)) := (hg3.block _ hs3 (fun e => hnb e.symm)).trans hb3
      have hs1 := hg3.size
      obtain ⟨g5, cap5, cur5, rfl, h1g, hlt5, hcur⟩ : ∃ g5 cap5 cur5, v' = .slice (some ⟨g5, 0, none⟩) (m + 1) cap5 ∧ w1.heap[g5]? = some (.cells cur5 28 (0, 0)) ∧ g5 < w1.heap.size ∧ cur5[m]? = some (.slice none 0 0) := by
        have hlv := hown'.1
        rcases hown'.2 with ⟨_, h0⟩ | ⟨g5, cap5, cur5, rfl, _, hh, hle, _, hsz, htk⟩
        · omega
        · refine ⟨g5, cap5, cur5, rfl, hh, (Array.getElem?_eq_some_iff.1 hh).1, ?_⟩
          have hvl : vs.length = m := by simp at hlv; exact hlv
          have e2 : (cur5.toList.take ((m + 1) * 1))[m]? = some (.slice none 0 0) := by rw [htk, List.getElem?_append_right (by omega)]; simp [hvl]
          rw [List.getElem?_take_of_lt (by omega)] at e2
          simpa using e2
      have f1 : w1.cell? ⟨C, 0, none⟩ = some (.slice a m cap) := by simp [World.cell?, h1C]
      have f2 : w1.frozen? ⟨C, 0, none⟩ = false := by simp [World.frozen?, h1C]
      have hC1s : C < w1.heap.size := by omega
      have hgC : g5 ≠ C := fun e => by subst e; rw [h1C] at h1g; simp at h1g
      have hbC : w.heap.size ≠ C := by omega
      have HO5 : Hid (w1.ownsRow B 28 1 (.slice (some ⟨g5, 0, none⟩) (m + 1) cap5) (m + 1) (vs ++ [.slice none 0 0])) := hown'
      have HG3 : Hid (W3.grownBy w1 (Value.slice a m cap).ownBlock) := hg3
      clear hown' hgrow hg3 hnb hvC
      go_wp2
      generalize hW5 : w1.setCell ⟨C, 0, none⟩ (.slice (some ⟨g5, 0, none⟩) (m + 1) cap5) = W5
      have h5C : W5.heap[C]? = some (.cells #[.slice (some ⟨g5, 0, none⟩) (m + 1) cap5] 37 (0, 0)) := by rw [← hW5, heap_setC _ _ _ _ _ _ h1C]; rfl
      have h5g : W5.heap[g5]? = some (.cells cur5 28 (0, 0)) := by rw [← hW5, Below.heap_setCell _ _ _ _ hgC]; exact h1g
      have h5b : W5.heap[w.heap.size]? = some (.cells #[.int .i64 lo, .int .i64 hi] 56 (0, 0)) := by rw [← hW5, Below.heap_setCell _ _ _ _ hbC]; exact h1b
      have hs5 : W5.heap.size = w1.heap.size := by rw [← hW5]; simp
      have cC5 : W5.cell? ⟨C, 0, none⟩ = some (.slice (some ⟨g5, 0, none⟩) (m + 1) cap5) := by simp [World.cell?, h5C]
      have cg5 : W5.cell? ⟨g5, m, none⟩ = some (.slice none 0 0) := by simp [World.cell?, h5g, hcur]
      have cb0 : W5.cell? ⟨w.heap.size, 0, none⟩ = some (.int .i64 lo) := by simp [World.cell?, h5b]
      have cb1 : W5.cell? ⟨w.heap.size, 1, none⟩ = some (.int .i64 hi) := by simp [World.cell?, h5b]
      have HAc : Hid (∀ {w4 : World}, W5.drew.grownBy w4 none → w4.cell? ⟨C, 0, none⟩ = some (.slice (some ⟨g5, 0, none⟩) (m + 1) cap5)) := fun {w4} h => by
        have : w4.heap[C]? = W5.heap[C]? := h.block C (by show C < W5.heap.size; omega) (by simp)
        simp [World.cell?, this, h5C]
      have HAg : Hid (∀ {w4 : World}, W5.drew.grownBy w4 none → w4.cell? ⟨g5, m, none⟩ = some (.slice none 0 0)) := fun {w4} h => by
        have : w4.heap[g5]? = W5.heap[g5]? := h.block g5 (by show g5 < W5.heap.size; omega) (by simp)
        simp [World.cell?, this, h5g, hcur]
      have HAf : Hid (∀ {w4 : World}, W5.drew.grownBy w4 none → w4.frozen? ⟨g5, m, none⟩ = false) := fun {w4} h => by
        have : w4.heap[g5]? = W5.heap[g5]? := h.block g5 (by show g5 < W5.heap.size; omega) (by simp)
        simp [World.frozen?, this, h5g]
      have HB5 : Hid (B ≤ W5.drew.heap.size) := by show B ≤ W5.heap.size; omega
      have HON : Hid (W5.drew.ownsRow B 56 2 (.slice none 0 0) 0 (cellsR [])) := World.ownsRow_nil _ _ _ _
      have HW5 : Hid (w1.setCell ⟨C, 0, none⟩ (.slice (some ⟨g5, 0, none⟩) (m + 1) cap5) = W5) := hW5
      have hs5b : w.heap.size < W5.heap.size := by omega
      have hs5c : C < W5.heap.size := by omega
      have hs5g : g5 < W5.heap.size := by omega
      clear h5C h5g h5b hW5 hcur f1 f2 h1C h1b h1g ho3 hC3 hs3 hb3 cC3 hC3s hs1 hlt5 hC1s hgC hbC hs5
      go_region_with (go_at_call 48; refine (extend_zero B none 0 lo hi _ ?_ ?_).mono ?_; exact HON.out; exact HB5.out; rintro e w4 ⟨v4, rfl, hO4, hg4⟩; have f1 := HAc.out hg4; have f2 := HAg.out hg4; have f3 := HAf.out hg4; rcases own_slice hO4 with ⟨a4, c4, rfl⟩)
      all_goals
        go_wp2
        go_end0
        exact ⟨rfl, nq + 1, W3, w1, g5, cap5, w4, _, HU.out, HO5.out, HG3.out, by rw [HW5.out]; exact ⟨hg4.os, hg4.tape, hg4.output, hg4.size, hg4.block⟩, hO4, rfl⟩

end Go.Proofs.Ytbiiapdeincpbaa
