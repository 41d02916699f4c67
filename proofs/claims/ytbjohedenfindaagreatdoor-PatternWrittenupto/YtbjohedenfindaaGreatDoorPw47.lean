/- Texts of the proof, put together: VLawC. -/
import Derived.Test.YtbjohedenfindaaGreatDoorPw46
namespace Go.Proofs.YtbjohedenfindaaGreatDoor
open Go.RowKit
set_option linter.unusedVariables false
set_option maxRecDepth 100000

set_option maxHeartbeats 1000000 in
theorem written_long {w : World} {va : Option Addr} {n c : Nat} (h : 2000 < n) : Calls Tryz.prog 4 #[.slice va n c] w fun e w' => e = .returned (.bool true) ∧ Below w.heap.size w w' := by
  have k1 : (2000 : Int) < (n : Int) := by omega
  go_enter Tryz.func4, Tryz.ntmps4
  go_wp2
  go_ret
  exact ⟨rfl, Below.refl _ _⟩

set_option maxHeartbeats 1000000 in
theorem plpattern_none {w : World} {va : Option Addr} {c : Nat} : Calls Tryz.prog 11 #[.slice va 0 c] w fun e w' => e = .returned (.pointer none) ∧ Below w.heap.size w w' := by
  go_enter Tryz.func11, Tryz.ntmps11
  go_wp2
  refine wp_loop_rounds 1 ?_
  rw [rounds_succ]
  go_wp2
  go_ret
  exact ⟨rfl, Below.refl _ _⟩
set_option maxHeartbeats 1000000 in
theorem smalltree_none {w : World} {va : Option Addr} {c : Nat} : Calls Tryz.prog 12 #[.slice va 0 c] w fun e w' => (∃ bb : Bool, e = .returned (.bool bb)) ∧ Below w.heap.size w w' := by
  go_enter Tryz.func12, Tryz.ntmps12
  go_wp2
  refine wp_loop_rounds 1 ?_
  rw [rounds_succ]
  go_wp2
  go_ret
  exact ⟨⟨_, rfl⟩, Below.refl _ _⟩

theorem law_written {W0 w : World} {a : Nat → Addr} (H : LawW W0 w a) {v : Value} {ps : List PartP} (hv : PartsR w v ps) (hk : ∀ p ∈ ps, p.set.length ≤ 1048576 ∧ p.kids.length ≤ 1048576) :
    Calls Tryz.prog 4 #[v] w fun e w' => e = .returned (.bool true) ∧ Below w.heap.size w w' := by
  obtain ⟨mk, M⟩ := mk_exists
  obtain ⟨va, c, rfl, hp⟩ := hv
  have hgm : ∀ j, j < ps.length → ps.getD j noPart ∈ ps := fun j hj => by rw [List.getD_eq_getElem?_getD, List.getElem?_eq_getElem hj]; exact List.getElem_mem hj
  by_cases hl : 2000 < ps.length
  · exact written_long hl
  · refine written_walk (ls := ps.map fun p => p.set.length) (a0 := a 0) (by omega) (by simp) (fun x hx => ?_) ?_ ?_
    · obtain ⟨p, hp', rfl⟩ := List.mem_map.1 hx
      have := (hk p hp').1
      omega
    · rcases hp with h | ⟨b, off, e, hb, hc⟩
      · exact .inl (by rw [h]; rfl)
      · refine .inr ⟨b, off, e, hb, fun j hj => ?_⟩
        rw [List.length_map] at hj
        obtain ⟨sv, kv, hP⟩ := hc j hj
        obtain ⟨sa, sc, hs⟩ := rngs_slice hP.set
        refine ⟨sa, sc, ?_⟩
        have e1 : (ps.map fun p => p.set.length).getD j 0 = (ps.getD j noPart).set.length := by simp [hj]
        rw [hP.c3, hs, e1]
    · intro h12
      by_cases hne : ps = []
      · subst hne
        refine plpattern_none.mono ?_
        rintro e w1 ⟨h1, hb1⟩
        exact ⟨none, h1, hb1, false, _, tail_no (H.below hb1) (fun w' hb => smalltree_none.mono fun e w'' ⟨q1, q2⟩ => ⟨q1, hb.trans (q2.mono hb.size)⟩) (fun w' _ => patok_nil) (fun w' _ => pok_nil w')⟩
      · rcases hp with h | ⟨b, off, rfl, hb, hc⟩
        · exact (hne h).elim
        · have hsz : ∀ p ∈ ps, p.set.length ≤ 12 ∧ p.kids.length ≤ 1048576 := fun p hp' => ⟨h12 _ (List.mem_map_of_mem hp'), (hk p hp').2⟩
          have hlen : 0 < ps.length := by
            rcases Nat.eq_zero_or_pos ps.length with h | h
            · exact (hne (List.eq_nil_of_length_eq_zero h)).elim
            · exact h
          refine (plpattern_row hb (by omega) hne (fun j hj => hsz _ (hgm j hj)) hc).mono ?_
          rintro e w1 ⟨q, h1, hb1, hT⟩
          have hM : Mod ((allRe ps).getD (ps.length - 1) ⟨0, [], 0, 0, []⟩) := by
            refine foldl_mod ps [] hsz (by simp) _ ?_
            have hlt : ps.length - 1 < (allRe ps).length := by rw [allRe_len]; omega
            rw [List.getD_eq_getElem?_getD, List.getElem?_eq_getElem hlt]
            exact List.getElem_mem hlt
          obtain ⟨bv, T, hTl⟩ := tail_tree (v := .slice (some ⟨b, off, none⟩) ps.length c) M (H.below hb1) hT hM fun w' hb2 => by
            have hb12 := hb1.trans (hb2.mono hb1.size)
            refine (smalltree_row (Nat.lt_of_lt_of_le hb hb12.size) (by omega) hlen (fun j hj => (hsz _ (hgm j hj)).2) (fun j hj => ?_)).mono fun e w'' ⟨q1, q2⟩ => ⟨q1, hb2.trans (q2.mono hb2.size)⟩
            obtain ⟨sv, kv, hP⟩ := hc j hj
            exact ⟨sv, kv, hP.below hb hb12⟩
          exact ⟨some ⟨q, 0, none⟩, h1, hb1, bv, T, hTl⟩

end Go.Proofs.YtbjohedenfindaaGreatDoor
