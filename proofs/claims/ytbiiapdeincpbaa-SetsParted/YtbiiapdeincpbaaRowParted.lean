/- The classes that the program makes of any list of sets are the document's: each point in just one, two points in one just if they lie in the same sets, each class in canonical form, in the order of their least points: the law SetsParted returns true for every list of lists of ranges. Nothing narrows it; above the law's own bounds on the lists it says true by itself. -/
import Derived.Test.YtbiiapdeincpbaaRows
import Derived.Test.YtbiiapdeincpbaaLawParted
import Derived.WalkKit
import Derived.ProofKit
import Derived.OpenShut
import Derived.ChangeOld
import Derived.Below
import Derived.Deep.SlicePairs
namespace Go.Proofs.Ytbiiapdeincpbaa
open Go.ChangeShapes Go.WideShapes Go.ChangeAt Go.RowKit
set_option linter.unusedVariables false

theorem partOwn : ownKnob Try.prog.godebug = none := by kernel_rfl
theorem partLaid : laidOutB Try.prog = true := by kernel_rfl

theorem cell_blkP {w : World} {b o : Nat} {v : Value} (h : w.cell? ⟨b, o, none⟩ = some v) : b < w.heap.size := by
  rcases Nat.lt_or_ge b w.heap.size with h' | h'
  · exact h'
  · simp [World.cell?, Array.getElem?_eq_none h'] at h

theorem rngs_of_trodP {H : Type} {enc : TypeId × Value → H} {W : World} {fuel : Nat} {a : Option Addr} {n c : Nat} {x : DataW H × List MemPlace}
    (hf : DataW.trod enc Try.prog W 0 (fun _ => true) true fuel 28 (Value.slice a n c).cells.toList = some x) : ∃ l : List Rg, l.length = n ∧ Rngs W (.slice a n c) l := by
  rcases Deep.open_slice_pairs Try.underlying28 Try.underlying56 (by kernel_rfl) rfl rfl (by kernel_rfl) (by kernel_rfl) hf with ⟨hcs, _⟩ | ⟨ad, len, cap, m, k, V0, V1, D0, D1, P0, P1, hcs, _, hl, _, hm, _, hall⟩
  · simp [Value.cells] at hcs
    obtain ⟨rfl, rfl, rfl⟩ := hcs
    exact ⟨[], rfl, Or.inl ⟨rfl, none, 0, rfl⟩⟩
  · simp [Value.cells] at hcs
    obtain ⟨rfl, rfl, rfl⟩ := hcs
    have hmn : n ≤ m := by rw [hm]; simpa using hl
    refine ⟨(List.range n).map fun i => (intOf (V0 i), intOf (V1 i)), by simp, ?_⟩
    by_cases hn : n = 0
    · subst hn
      exact Or.inl ⟨rfl, _, _, rfl⟩
    · obtain ⟨b, off, spot⟩ := ad
      have h0 := (hall 0 (by omega)).1
      have hspot : spot = none := by simpa [Addr.add] using World.cell?_spot h0
      subst hspot
      have hadd : ∀ j, (⟨b, off, none⟩ : Addr).add j = ⟨b, off + j, none⟩ := fun j => by
        unfold Addr.add
        split <;> simp_all
      refine Or.inr ⟨b, off, c, by simp, ?_, fun j hj => ?_⟩
      · rw [hadd] at h0
        exact cell_blkP h0
      · have hj' : j < n := by simpa using hj
        obtain ⟨c0, c1, t0, t1⟩ := hall j (by omega)
        obtain ⟨z0, e0, _, _⟩ := DataW.trod_int Try.underlying3 t0
        obtain ⟨z1, e1, _, _⟩ := DataW.trod_int Try.underlying3 t1
        simp at e0 e1
        rw [hadd] at c0 c1
        have g0 : ((List.range n).map fun i => (intOf (V0 i), intOf (V1 i))).getD j (0, 0) = (intOf (V0 j), intOf (V1 j)) := by simp [hj']
        rw [g0]
        rw [e0] at c0
        rw [e1] at c1
        refine ⟨by rw [e0]; simpa [intOf] using c0, ?_⟩
        rw [e1]
        have : off + (j * 2 + 1) = off + j * 2 + 1 := by omega
        rw [this] at c1
        simpa [intOf] using c1

theorem rngs_of_one {H : Type} {enc : TypeId × Value → H} {W : World} {fuel : Nat} {v : Value} {x : DataW H × List MemPlace}
    (hf : DataW.trod enc Try.prog W 0 (fun _ => true) true fuel 28 [v] = some x) : ∃ l : List Rg, Rngs W v l := by
  rcases Deep.open_slice Try.underlying28 hf with ⟨hcs, _⟩ | ⟨ad, len, cap, m, k, D, Pl, hcs, _⟩
  · simp at hcs
    subst hcs
    exact ⟨[], Or.inl ⟨rfl, none, 0, rfl⟩⟩
  · simp at hcs
    subst hcs
    obtain ⟨l, _, hR⟩ := rngs_of_trodP (a := some ad) (n := len) (c := cap) (by simpa [Value.cells] using hf)
    exact ⟨l, hR⟩

theorem sets_of_trod {H : Type} {enc : TypeId × Value → H} {W : World} {fuel : Nat} {a : Option Addr} {n c : Nat} {x : DataW H × List MemPlace}
    (hf : DataW.trod enc Try.prog W 0 (fun _ => true) true fuel 37 (Value.slice a n c).cells.toList = some x) : ∃ ls : List (List Rg), ls.length = n ∧ SetsAt W (.slice a n c) ls := by
  rcases Deep.open_slice1 Try.underlying37 (by kernel_rfl) hf with ⟨hcs, _⟩ | ⟨ad, len, cap, m, k, V, D, Pl, hcs, _, hl, _, hm, _, hall⟩
  · simp [Value.cells] at hcs
    obtain ⟨rfl, rfl, rfl⟩ := hcs
    exact ⟨[], rfl, Or.inl ⟨rfl, none, 0, rfl⟩⟩
  · simp [Value.cells] at hcs
    obtain ⟨rfl, rfl, rfl⟩ := hcs
    have hmn : n ≤ m := by rw [hm]; simpa using hl
    by_cases hn : n = 0
    · subst hn
      exact ⟨[], rfl, Or.inl ⟨rfl, _, _, rfl⟩⟩
    · have each : ∀ i, ∃ l : List Rg, i < n → Rngs W (V i) l := fun i => by
        by_cases hi : i < n
        · obtain ⟨l, hR⟩ := rngs_of_one (hall i (by omega)).2
          exact ⟨l, fun _ => hR⟩
        · exact ⟨[], fun h => absurd h hi⟩
      obtain ⟨F, hF⟩ := Classical.axiomOfChoice each
      refine ⟨(List.range n).map F, by simp, ?_⟩
      obtain ⟨b, off, spot⟩ := ad
      have h0 := (hall 0 (by omega)).1
      have hspot : spot = none := by simpa [Addr.add] using World.cell?_spot h0
      subst hspot
      have hadd : ∀ j, (⟨b, off, none⟩ : Addr).add j = ⟨b, off + j, none⟩ := fun j => by
        unfold Addr.add
        split <;> simp_all
      refine Or.inr ⟨b, off, c, by simp, ?_, fun j hj => ?_⟩
      · rw [hadd] at h0
        exact cell_blkP h0
      · have hj' : j < n := by simpa using hj
        obtain ⟨c0, _⟩ := hall j (by omega)
        rw [hadd] at c0
        have g0 : ((List.range n).map F).getD j [] = F j := by simp [hj']
        rw [g0]
        exact ⟨V j, c0, hF j hj'⟩

set_option maxRecDepth 100000 in
theorem partLifted (os : Os) (started : os.Started) (H : Type) (enc : TypeId × Value → H) :
    ReturnsInHanded {} Try.checked os 6 .any (Rows.setsPartedSpec.pre6 enc Try.prog Try.f6 Rows.setsPartedRow.domain false) (Rows.setsPartedSpec.post enc Try.prog Try.f6 false true false false) := by
  refine returnsInHanded_of_change (C := Try.checked) partOwn started (by kernel_rfl) Try.func6
    (ChangeSpec.witness6 (enc := enc) (C := Try.checked) false ⟨#[], #[.slice none 0 0], []⟩ 8 (by kernel_rfl) (by kernel_rfl) (by kernel_rfl) (by kernel_rfl)) ?_
  intro W base args ds gs before hval0 hW hcnd _
  have hval : ∀ (j : Nat) t v, Try.f6.params[j]? = some t → args[j]? = some v → Value.okWide Try.prog W .any base t v := hval0
  have hW' := hW
  obtain ⟨p, q, hA0, hV, rfl, hfz, hnd⟩ := hW
  have hA : DataW.TrodAll enc Try.prog W 0 (fun _ => true) true Try.f6.params.toList args.toList ds p := hA0
  rw [Try.params6] at hA hval
  obtain ⟨v0, vs0, d0, ds0, p0, q0, hargs, rfl, rfl, h0, r0⟩ := trodAll_cons hA
  obtain ⟨rfl, rfl, rfl⟩ := trodAll_nil r0
  obtain rfl : args = #[v0] := by cases args; simp_all
  obtain ⟨rfl, rfl⟩ := trodVars_none hV
  obtain ⟨a0, n0, c0, rfl⟩ := okWide_slice Try.underlying37 (hval 0 37 v0 rfl rfl)
  have k0 := h0
  have lt0 : ∀ x ∈ p0, x.block < W.heap.size := by obtain ⟨m, hm⟩ := k0; exact DataW.trod_lt m _ _ _ hm
  obtain ⟨ls, hls, S0⟩ : ∃ ls : List (List Rg), ls.length = n0 ∧ SetsAt W (.slice a0 n0 c0) ls := by
    obtain ⟨fuel, hf⟩ := h0
    exact sets_of_trod hf
  clear hA0 hval0
  have fin : Calls Try.prog 6 #[.slice a0 n0 c0] W fun e w' => e = .returned (.bool true) ∧ Below W.heap.size W w' := by
    by_cases hlong : 12 < n0
    · exact law_parted_long a0 n0 c0 W hlong
    · exact law_parted _ ls W (by omega) S0
  refine fin.mono fun e W' ⟨he, bel⟩ => ?_
  subst he
  exact ⟨_, rfl, _, _, _, [], _, [], hW', trodAll_mk1 (shut_bool Try.underlying4 _), (trodAll_cons_mk (Below.trod partLaid (by kernel_rfl) (of_decide_eq_true (by kernel_rfl)) k0 bel lt0) trodAll_mk0), rfl, bel.frame _, fun h => by cases h⟩

theorem setsParted_holds : Rows.SetsPartedSaid :=
  OpenClaim.holds_of_wide 6 Try.f6 rfl rfl rfl rfl rfl rfl rfl ⟨rfl, rfl, rfl, rfl, rfl⟩ rfl rfl rfl rfl rfl (by kernel_rfl) Try.func6 (by kernel_rfl)
    (of_decide_eq_true (by kernel_rfl)) (by unfold Func.isWrapper; first | (rw [if_pos (by decide +kernel)]; kernel_rfl) | (rw [if_neg (by decide +kernel)]; exact ⟨rfl, rfl⟩))
    (fun os started H enc _ => partLifted os started H enc)

end Go.Proofs.Ytbiiapdeincpbaa
