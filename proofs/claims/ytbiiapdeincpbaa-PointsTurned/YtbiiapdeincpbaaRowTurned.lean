/- The points of any text and the text of any numbers are the document's: the law PointsTurned returns true for every text and every list of numbers. Nothing narrows it; above the law's own bounds on lengths it says true by itself. -/
import Derived.Test.YtbiiapdeincpbaaRows
import Derived.Test.YtbiiapdeincpbaaLawTurned
import Derived.WalkKit
import Derived.ProofKit
import Derived.OpenShut
import Derived.ShutString
import Derived.ChangeOld
import Derived.Below
import Derived.SizedLaws
namespace Go.Proofs.Ytbiiapdeincpbaa
open Go.ChangeShapes Go.WideShapes Go.ChangeAt Go.RowKit
open Go.ChangeMaps (open_string shut_string)
set_option linter.unusedVariables false

theorem turnedOwn : ownKnob Try.prog.godebug = none := by kernel_rfl
theorem turnedLaid : laidOutB Try.prog = true := by kernel_rfl

theorem take_getD (zs : List Int) (n j : Nat) (h : j < n) (hz : j < zs.length) : (zs.take n).getD j 0 = zs.getD j 0 := by
  simp [List.getD_eq_getElem?_getD, h]

theorem cell_block {w : World} {b o : Nat} {v : Value} (h : w.cell? ⟨b, o, none⟩ = some v) : b < w.heap.size := by
  rcases Nat.lt_or_ge b w.heap.size with h' | h'
  · exact h'
  · simp [World.cell?, Array.getElem?_eq_none h'] at h

set_option maxRecDepth 100000 in
theorem turnedLifted (os : Os) (started : os.Started) (H : Type) (enc : TypeId × Value → H) :
    ReturnsInHanded {} Try.checked os 3 .any (Rows.pointsTurnedSpec.pre6 enc Try.prog Try.f3 Rows.pointsTurnedRow.domain false) (Rows.pointsTurnedSpec.post enc Try.prog Try.f3 false true false false) := by
  refine returnsInHanded_of_change_sized (C := Try.checked) turnedOwn started (by kernel_rfl) Try.func3
    (ChangeSpec.witness6 (enc := enc) (C := Try.checked) false ⟨#[], #[.string ByteArray.empty, .slice none 0 0], []⟩ 8 (by kernel_rfl) (by kernel_rfl) (by kernel_rfl) (by kernel_rfl)) ?_
  intro W base args ds gs before hval0 hW hcnd hsz0 _
  have hval : ∀ (j : Nat) t v, Try.f3.params[j]? = some t → args[j]? = some v → Value.okWide Try.prog W .any base t v := hval0
  have hsz : (DataW.weightsEach Try.prog (Try.f3.params.toList ++ Rows.pointsTurnedSpec.plain.varTypes Try.prog) (ds ++ gs)).all (· ≤ reachBytes) = true := hsz0
  have hW' := hW
  obtain ⟨p, q, hA0, hV, rfl, hfz, hnd⟩ := hW
  have hA : DataW.TrodAll enc Try.prog W 0 (fun _ => true) true Try.f3.params.toList args.toList ds p := hA0
  rw [Try.params3] at hA hval hsz
  obtain ⟨v0, vs0, d0, ds0, p0, q0, hargs, rfl, rfl, h0, r0⟩ := trodAll_cons hA
  obtain ⟨v1, vs1, d1, ds1, p1, q1, rfl, rfl, rfl, h1, r1⟩ := trodAll_cons r0
  obtain ⟨rfl, rfl, rfl⟩ := trodAll_nil r1
  obtain rfl : args = #[v0, v1] := by cases args; simp_all
  obtain ⟨rfl, rfl⟩ := trodVars_none hV
  obtain ⟨a0, rfl, rfl, rfl, w0⟩ := open_string Try.underlying9 (hval 0 9 v0 rfl rfl) h0
  obtain ⟨a1, len1, cap1, rfl⟩ := okWide_slice Try.underlying22 (hval 1 22 v1 rfl rfl)
  have k1 := h1
  have lt1 : ∀ x ∈ p1, x.block < W.heap.size := by obtain ⟨m, hm⟩ := k1; exact DataW.trod_lt m _ _ _ hm
  have hlen : a0.data.toList.length ≤ reachBytes := sized_string hsz (j := 0) (t := 9) rfl rfl
  have e2 : reachBytes = 140737488351232 := by rfl
  have hl2 : a0.size ≤ 140737488351232 := by
    have e1 : a0.data.toList.length = a0.size := by simp
    omega
  obtain ⟨zs, hz, w1⟩ : ∃ zs : List Int, zs.length ≤ 140737488351232 ∧ Ints W (.slice a1 len1 cap1) zs := by
    obtain ⟨fuel, hf⟩ := h1
    rcases open_ints Try.underlying22 Try.underlying3 (by kernel_rfl) hf with ⟨hcs, _⟩ | ⟨x, l, c, zs, hcs, _, hl, hm, hz, hd, hcell, hwz⟩
    · simp [Value.cells] at hcs
      obtain ⟨rfl, rfl, rfl⟩ := hcs
      exact ⟨[], by simp, Or.inl ⟨rfl, none, 0, rfl⟩⟩
    · simp [Value.cells] at hcs
      obtain ⟨rfl, rfl, rfl⟩ := hcs
      have hzz : zs.length = cap1 := by simpa using hz
      have hbl : (zs.take len1).length = len1 := by simp; omega
      refine ⟨zs.take len1, ?_, ?_⟩
      · have hdd : d1 = .slice (lits .i64 (zs.take len1)) (lits .i64 (zs.drop len1)) := by simpa using (congrArg Prod.fst hd)
        subst hdd
        have := sized_slice hsz (j := 1) (t := 22) (e := 3) rfl rfl Try.underlying22
        have hb8 : Try.prog.bytesOf 3 = 8 := by kernel_rfl
        rw [hb8] at this
        simp [lits] at this
        omega
      · obtain ⟨b, off, spot⟩ := x
        by_cases h00 : len1 = 0
        · subst h00
          exact Or.inl ⟨by simp, _, _, rfl⟩
        · have hc0 := hcell 0 (by omega)
          have hspot : spot = none := by simpa [Addr.add] using World.cell?_spot hc0
          subst hspot
          refine Or.inr ⟨b, off, cap1, by rw [hbl], ?_, fun j hj => ?_⟩
          · exact cell_block (by simpa [Addr.add] using hc0)
          · rw [hbl] at hj
            have := hcell j (by omega)
            rw [take_getD zs len1 j hj (by omega)]
            have ea : (⟨b, off, none⟩ : Addr).add j = ⟨b, off + j, none⟩ := by
              unfold Addr.add
              split <;> simp_all
            rw [ea] at this
            exact this
  clear hA0 hval0
  refine (law_turned a0 _ zs W hl2 hz w1).mono fun e W' ⟨he, bel⟩ => ?_
  subst he
  exact ⟨_, rfl, _, _, _, [], _, [], hW', trodAll_mk1 (shut_bool Try.underlying4 _), (trodAll_cons_mk (shut_string Try.underlying9 w0) (trodAll_cons_mk (Below.trod turnedLaid (by kernel_rfl) (of_decide_eq_true (by kernel_rfl)) k1 bel lt1) trodAll_mk0)), rfl, bel.frame _, fun h => by cases h⟩

theorem pointsTurned_holds : Rows.PointsTurnedSaid :=
  OpenClaim.holds_of_wide 3 Try.f3 rfl rfl rfl rfl rfl rfl rfl ⟨rfl, rfl, rfl, rfl, rfl⟩ rfl rfl rfl rfl rfl (by kernel_rfl) Try.func3 (by kernel_rfl)
    (of_decide_eq_true (by kernel_rfl)) (by unfold Func.isWrapper; first | (rw [if_pos (by decide +kernel)]; kernel_rfl) | (rw [if_neg (by decide +kernel)]; exact ⟨rfl, rfl⟩))
    (fun os started H enc _ => turnedLifted os started H enc)

end Go.Proofs.Ytbiiapdeincpbaa
