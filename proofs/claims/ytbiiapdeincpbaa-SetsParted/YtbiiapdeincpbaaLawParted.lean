import Derived.Test.YtbiiapdeincpbaaCClasses
import Derived.Test.YtbiiapdeincpbaaRClasses
namespace Go.Proofs.Ytbiiapdeincpbaa
open Go.RowKit
set_option linter.unusedVariables false
set_option maxRecDepth 100000

set_option maxHeartbeats 400000 in
theorem law_parted_long (a : Option Addr) (n c : Nat) (w : World) (h : 12 < n) :
    Calls Try.prog 6 #[.slice a n c] w fun e w' => e = .returned (.bool true) ∧ Below w.heap.size w w' := by
  go_enter Try.func6, Try.ntmps6
  go_wp2_with fail
  go_ret
  exact ⟨rfl, Below.refl _ _⟩

theorem ClsAt.below {w w' : World} {B : Nat} {v : Value} {cs : List (List Rg)} (h : ClsAt w B v cs) (hb : Below w.heap.size w w') : ClsAt w' B v cs :=
  h.but (but_below hb) (by simp)

theorem cls_cell {w : World} {B : Nat} {v : Value} {cs : List (List Rg)} (h : ClsAt w B v cs) {j : Nat} (hj : j < cs.length) : ∃ g cap vj, v = .slice (some ⟨g, 0, none⟩) cs.length cap ∧ g < w.heap.size ∧ w.cell? ⟨g, j, none⟩ = some vj ∧ Rngs w vj (cs.getD j []) := by
  obtain ⟨g, cap, cur, vs, rfl, _, hgb, hcur, _, hrows⟩ := cls_row h hj
  refine ⟨g, cap, _, rfl, (Array.getElem?_eq_some_iff.1 hgb).1, ?_, (hrows j hj).rngs⟩
  simp only [World.cell?, hgb]
  simpa using hcur

theorem rngs_slice2 {w : World} {v : Value} {l : List Rg} (h : Rngs w v l) : ∃ a c, v = .slice a l.length c := by
  rcases h with ⟨rfl, a, c, rfl⟩ | ⟨b, off, c, rfl, _⟩
  · exact ⟨a, c, rfl⟩
  · exact ⟨_, _, rfl⟩

set_option maxHeartbeats 2000000 in
theorem law_parted (vl : Value) (ls : List (List Rg)) (w : World) (hl : ls.length ≤ 12) (hs : SetsAt w vl ls) :
    Calls Try.prog 6 #[vl] w fun e w' => e = .returned (.bool true) ∧ Below w.heap.size w w' := by
  have HS : Hid (SetsAt w vl ls) := hs
  obtain ⟨la, lc, rfl⟩ := sets_slice hs
  clear hs
  have hl12 : ¬ (12 : Int) < (ls.length : Int) := by omega
  go_enter Try.func6, Try.ntmps6
  go_wp2
  go_loopw [3] (fun i wr => ∃ k : Nat, k ≤ ls.length ∧ i = .int .i64 k ∧ wr = w ∧ Hid (∀ l ∈ ls.take k, l.length ≤ 12)) (fun i _ => ls.length - (intOf i).toNat)
  case atStart => exact ⟨0, Nat.zero_le _, rfl, rfl, (fun l h => by simp at h)⟩
  case round =>
    obtain ⟨k, hk, rfl, hw, HL⟩ := hrel
    obtain rfl := hw.symm
    by_cases hlt : k < ls.length
    · obtain ⟨b, off, vj, rfl, hbl, hcj, hR⟩ := sets_cell HS.out hlt
      obtain ⟨ja, jc, rfl⟩ := rngs_slice2 hR
      clear hR
      by_cases hlong : 12 < (ls.getD k []).length
      · generalize (ls.getD k []).length = jl at *
        go_wp2
        go_ret
        exact ⟨rfl, Below.refl _ _⟩
      · have HL2 : Hid (∀ l ∈ ls.take (k + 1), l.length ≤ 12) := fun l h => by
          rw [List.take_succ_eq_append_getElem hlt] at h
          rcases List.mem_append.1 h with h | h
          · exact HL.out l h
          · simp at h
            have : ls.getD k [] = l := by simp [hlt, h]
            rw [← this]; omega
        generalize (ls.getD k []).length = jl at *
        go_wp2
        go_roundw
        case rel => exact ⟨k + 1, by omega, by go_num, by first | rfl | trivial, HL2⟩
        case measure => simp [intOf]; omega
    · have HLL : Hid (∀ l ∈ ls, l.length ≤ 12) := fun l h => HL.out l (by rw [List.take_of_length_le (by omega)]; exact h)
      clear HL
      go_wp2_with fail
      refine (pclasses_any (.slice la ls.length lc) ls _ hl HLL.out HS.out).mono ?_
      rintro e w1 ⟨v1, cs, rfl, hC1, hP1, hb1, hl1⟩
      have hs1 := hb1.size
      go_wp2_with fail
      refine (rclasses_any (.slice la ls.length lc) ls _ hl HLL.out (HS.out.below hb1)).mono ?_
      rintro e w2 ⟨v2, cs2, rfl, hC2, hP2, hb2, hl2⟩
      obtain rfl : cs = cs2 := part_unique hP1 hP2
      have HUL : Hid (∀ j, j < cs.length → (cs.getD j []).length ≤ 1000000) := fun j hj => upto_len2 (hP1.upto j hj) (by omega) (by omega)
      have hC3 := hC1.below hb2
      have hb3 := hb1.trans (hb2.mono hs1)
      obtain ⟨xa, xc, rfl⟩ := cls_slice hC1
      obtain ⟨ya, yc, rfl⟩ := cls_slice hC2
      have H1 : Hid (ClsAt w2 w.heap.size (.slice xa cs.length xc) cs) := hC3
      have H2 : Hid (ClsAt w2 w1.heap.size (.slice ya cs.length yc) cs) := hC2
      clear hC1 hC2 hC3 hP1 hP2 hb1 hb2 HS HLL
      go_wp2
      go_loopw [6] (fun i wr => ∃ j : Nat, j ≤ cs.length ∧ i = .int .i64 j ∧ Hid (ClsAt wr w.heap.size (.slice xa cs.length xc) cs) ∧ Hid (ClsAt wr w1.heap.size (.slice ya cs.length yc) cs) ∧ Below w.heap.size w wr) (fun i _ => cs.length - (intOf i).toNat)
      case atStart => exact ⟨0, Nat.zero_le _, rfl, H1, H2, hb3⟩
      case round =>
        obtain ⟨j, hj, rfl, K1, K2, hb4⟩ := hrel
        clear H1 H2 hb3
        by_cases hjl : j < cs.length
        · obtain ⟨g1, cap1, u1, e1, hg1, cg1, R1⟩ := cls_cell K1.out hjl
          obtain ⟨g2, cap2, u2, e2, hg2, cg2, R2⟩ := cls_cell K2.out hjl
          simp only [Value.slice.injEq, true_and] at e1 e2
          obtain ⟨rfl, rfl⟩ := e1
          obtain ⟨rfl, rfl⟩ := e2
          have HSS : Hid (∀ n, Calls Try.prog 15 #[u1, u2] (wr.drewN n) fun e w' => e = .returned (.bool true) ∧ ∃ m, w' = (wr.drewN n).drewN m) := fun n => sameset_any u1 u2 (cs.getD j []) (wr.drewN n) (HUL.out j hjl) R1 R2
          obtain ⟨ra, rc, rfl⟩ := rngs_slice2 R1
          obtain ⟨sa, sc, rfl⟩ := rngs_slice2 R2
          clear R1 R2
          generalize (cs.getD j []).length = rl at *
          go_wp2
          go_quiet (exact Calls.quiet_of (HSS.out _))
          go_wp2
          go_roundw
          case rel => exact ⟨j + 1, by omega, by go_num, K1, K2, below_drewN hb4 nq⟩
          case measure => simp [intOf]; omega
        · go_wp2
          go_ret
          exact ⟨rfl, hb4⟩

end Go.Proofs.Ytbiiapdeincpbaa
