/- What it costs to turn any list of terminals into any other, by any costs, is as the document says: the law RepairCost returns true for every input, and each argument reads as it did. Nothing narrows it; above the law's own bounds (ten costs of a kind, forty terminals a list) it says nothing of the program. -/
import Derived.Test.YtnakafgbalkciaaRows
import Derived.Test.YtnakafgbalkciaaCLaw
import Derived.WalkKit
import Derived.ProofKit
import Derived.OpenShut
import Derived.ChangeOld
import Derived.ChangeSame
import Derived.Below
import Derived.Deep.SlicePairs
namespace Go.Proofs.Ytnakafgbalkciaa
open Go.ChangeShapes Go.WideShapes Go.ChangeAt Go.RowKit
set_option linter.unusedVariables false

theorem coOwn : ownKnob Try.prog.godebug = none := by kernel_rfl
theorem coLaid : laidOutB Try.prog = true := by kernel_rfl
theorem cell_blkC {w : World} {b o : Nat} {v : Value} (h : w.cell? ⟨b, o, none⟩ = some v) : b < w.heap.size := by
  rcases Nat.lt_or_ge b w.heap.size with h' | h'
  · exact h'
  · simp [World.cell?, Array.getElem?_eq_none h'] at h
theorem addr_addC (b off j : Nat) : (⟨b, off, none⟩ : Addr).add j = ⟨b, off + j, none⟩ := by
  unfold Addr.add
  split <;> simp_all

set_option maxRecDepth 100000 in
theorem intsC_of_one {H : Type} {enc : TypeId × Value → H} {W : World} {fuel : Nat} {v : Value} {x : DataW H × List MemPlace}
    (hf : DataW.trod enc Try.prog W 0 (fun _ => true) true fuel 22 [v] = some x) : ∃ l : List Int, IntsR W v l := by
  have hc1 : Try.prog.cellsOf 3 = 1 := by kernel_rfl
  rcases open_ints Try.underlying22 Try.underlying3 hc1 hf with ⟨hcs, _⟩ | ⟨a, len, cap, zs, hcs, _, hl, _, hzl, _, hcell, hwf⟩
  · simp at hcs
    subst hcs
    exact ⟨[], ⟨none, 0, rfl, .inl rfl⟩⟩
  · simp at hcs
    subst hcs
    have hzl' : zs.length = cap := by simpa using hzl
    have htl : (zs.take len).length = len := by rw [List.length_take]; omega
    refine ⟨zs.take len, ?_⟩
    by_cases hn : len = 0
    · subst hn
      exact ⟨some a, cap, by simp, .inl (by simp)⟩
    · obtain ⟨b, off, spot⟩ := a
      have h0 := hcell 0 (by omega)
      have hspot : spot = none := by simpa [Addr.add] using World.cell?_spot h0
      subst hspot
      refine ⟨_, cap, by rw [htl], .inr ⟨b, off, rfl, ?_, fun j hj => ?_⟩⟩
      · rw [addr_addC] at h0
        exact cell_blkC h0
      · rw [htl] at hj
        have h1 := hcell j (by omega)
        rw [addr_addC] at h1
        rw [h1]
        simp [List.getD, List.getElem?_take_of_lt hj]

theorem twoC {α : Type} : ∀ (l : List α), l.length = 2 → ∃ a b, l = [a, b] := by
  intro l h
  obtain ⟨a, l, rfl⟩ := List.exists_cons_of_length_pos (l := l) (by omega)
  obtain ⟨b, l, rfl⟩ := List.exists_cons_of_length_pos (l := l) (by simp at h; omega)
  obtain rfl : l = [] := by simpa using h
  exact ⟨a, b, rfl⟩
set_option maxRecDepth 100000 in
theorem costs_of_one {H : Type} {enc : TypeId × Value → H} {W : World} {fuel : Nat} {cl : List Value} {x : DataW H × List MemPlace} (hcl : cl.length = 2)
    (hf : DataW.trod enc Try.prog W 0 (fun _ => true) true fuel 24 cl = some x) : ∃ (put leave : List Int) (pv lv : Value), cl.toArray = #[pv, lv] ∧ IntsR W pv put ∧ IntsR W lv leave := by
  obtain ⟨xs, k, hk, hxy, _, hxl, hff⟩ := DataW.trod_struct Try.underlying24 hf
  obtain ⟨u0, u1, rfl⟩ := twoC cl hcl
  have hxl' : xs.length = 2 := hxl
  obtain ⟨y0, y1, rfl⟩ := twoC xs hxl'
  clear hf hcl hxl hxl' hxy
  have g0 := hff 0 _ rfl
  have g1 := hff 1 _ rfl
  clear hff
  have c2 : Try.prog.cellsOf 22 = 1 := by kernel_rfl
  simp [c2] at g0 g1
  obtain ⟨ls, hls1⟩ := intsC_of_one g0
  obtain ⟨ss, hss1⟩ := intsC_of_one g1
  exact ⟨ls, ss, u0, u1, rfl, hls1, hss1⟩

set_option maxHeartbeats 400000 in
set_option maxRecDepth 100000 in
theorem costLifted (os : Os) (started : os.Started) (H : Type) (enc : TypeId × Value → H) :
    ReturnsInHanded {} Try.checked os 3 .any (Rows.repairCostSpec.pre6 enc Try.prog Try.f3 Rows.repairCostRow.domain false) (Rows.repairCostSpec.post enc Try.prog Try.f3 false true false false) := by
  refine returnsInHanded_of_change (C := Try.checked) coOwn started (by kernel_rfl) Try.func3
    (ChangeSpec.witness6 (enc := enc) (C := Try.checked) false ⟨#[], #[.agg #[.slice none 0 0, .slice none 0 0], .slice none 0 0, .slice none 0 0], []⟩ 8 (by kernel_rfl) (by kernel_rfl) (by kernel_rfl) (by kernel_rfl)) ?_
  intro W base args ds gs before hval0 hW hcnd _
  have hval : ∀ (j : Nat) t v, Try.f3.params[j]? = some t → args[j]? = some v → Value.okWide Try.prog W .any base t v := hval0
  have hW' := hW
  obtain ⟨p, q, hA0, hV, rfl, hfz, hnd⟩ := hW
  have hA : DataW.TrodAll enc Try.prog W 0 (fun _ => true) true Try.f3.params.toList args.toList ds p := hA0
  rw [Try.params3] at hA hval
  obtain ⟨v0, vs0, d0, ds0, p0, q0, hargs, rfl, rfl, h0, r0⟩ := trodAll_cons hA
  obtain ⟨v1, vs1, d1, ds1, p1, q1, rfl, rfl, rfl, h1, r1⟩ := trodAll_cons r0
  obtain ⟨v2, vs2, d2, ds2, p2, q2, rfl, rfl, rfl, h2, r2⟩ := trodAll_cons r1
  obtain ⟨rfl, rfl, rfl⟩ := trodAll_nil r2
  obtain rfl : args = #[v0, v1, v2] := by cases args; simp_all
  obtain ⟨rfl, rfl⟩ := trodVars_none hV
  have k0 := h0
  have k1 := h1
  have k2 := h2
  have lt0 : ∀ x ∈ p0, x.block < W.heap.size := by obtain ⟨m, hm⟩ := k0; exact DataW.trod_lt m _ _ _ hm
  have lt1 : ∀ x ∈ p1, x.block < W.heap.size := by obtain ⟨m, hm⟩ := k1; exact DataW.trod_lt m _ _ _ hm
  have lt2 : ∀ x ∈ p2, x.block < W.heap.size := by obtain ⟨m, hm⟩ := k2; exact DataW.trod_lt m _ _ _ hm
  obtain ⟨cs, rfl, hcs⟩ := okWide_struct Try.underlying24 (hval 0 24 v0 rfl rfl)
  have hc2 : Try.prog.cellsOf 24 = 2 := by kernel_rfl
  rw [hc2] at hcs
  obtain ⟨put, leave, pv, lv, hgv, hP, hL⟩ : ∃ (put leave : List Int) (pv lv : Value), cs = #[pv, lv] ∧ IntsR W pv put ∧ IntsR W lv leave := by
    obtain ⟨fuel, hf⟩ := h0
    obtain ⟨cl⟩ := cs
    exact costs_of_one (by simpa using hcs) (by simpa [Value.cells] using hf)
  obtain ⟨a1, n1, c1, hs1⟩ := okWide_slice Try.underlying22 (hval 1 22 v1 rfl rfl)
  obtain ⟨a2, n2, c2, hs2⟩ := okWide_slice Try.underlying22 (hval 2 22 v2 rfl rfl)
  obtain ⟨fr, hF⟩ : ∃ l, IntsR W v1 l := by
    obtain ⟨fuel, hf⟩ := h1
    subst hs1
    exact intsC_of_one (by simpa [Value.cells] using hf)
  obtain ⟨to, hT⟩ : ∃ l, IntsR W v2 l := by
    obtain ⟨fuel, hf⟩ := h2
    subst hs2
    exact intsC_of_one (by simpa [Value.cells] using hf)
  clear hA0 hval0
  subst hgv
  have hLaw : Calls Try.prog 3 #[.agg #[pv, lv], v1, v2] W fun e w' => e = .returned (.bool true) ∧ Below W.heap.size W w' := claw_any put leave fr to pv lv v1 v2 W hP hL hF hT
  refine hLaw.mono fun e W' ⟨he, bel⟩ => ?_
  subst he
  exact ⟨_, rfl, _, _, _, [], _, [], hW', trodAll_mk1 (shut_bool Try.underlying4 _), (trodAll_cons_mk (Below.trod coLaid (by kernel_rfl) (of_decide_eq_true (by kernel_rfl)) k0 bel lt0) (trodAll_cons_mk (Below.trod coLaid (by kernel_rfl) (of_decide_eq_true (by kernel_rfl)) k1 bel lt1) (trodAll_cons_mk (Below.trod coLaid (by kernel_rfl) (of_decide_eq_true (by kernel_rfl)) k2 bel lt2) trodAll_mk0))), rfl, bel.frame _, fun h => by cases h⟩

theorem repairCost_holds : Rows.RepairCostSaid :=
  OpenClaim.holds_of_wide 3 Try.f3 rfl rfl rfl rfl rfl rfl rfl ⟨rfl, rfl, rfl, rfl, rfl⟩ rfl rfl rfl rfl rfl (by kernel_rfl) Try.func3 (by kernel_rfl)
    (of_decide_eq_true (by kernel_rfl)) (by unfold Func.isWrapper; first | (rw [if_pos (by decide +kernel)]; kernel_rfl) | (rw [if_neg (by decide +kernel)]; exact ⟨rfl, rfl⟩))
    (fun os started H enc _ => costLifted os started H enc)

end Go.Proofs.Ytnakafgbalkciaa
