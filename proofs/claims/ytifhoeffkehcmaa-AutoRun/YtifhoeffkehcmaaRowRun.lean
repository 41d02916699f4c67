/- Whether any automaton is valid, and by which rule any text is taken: the program answers as the document does: the law AutoRun returns true for every automaton and every text. Nothing narrows it; above the law's own bounds (2,000 states, 2,000 bytes) it says true by itself. -/
import Derived.Test.YtifhoeffkehcmaaRows
import Derived.Test.YtifhoeffkehcmaaLawRun
import Derived.WalkKit
import Derived.ProofKit
import Derived.OpenShut
import Derived.ShutString
import Derived.ChangeOld
import Derived.ChangeSame
import Derived.Below
import Derived.Deep.SlicePairs
namespace Go.Proofs.Ytifhoeffkehcmaa
open Go.ChangeShapes Go.WideShapes Go.ChangeAt Go.RowKit
open Go.ChangeMaps (open_string shut_string)
set_option linter.unusedVariables false

theorem runOwn : ownKnob Try.prog.godebug = none := by kernel_rfl
theorem runLaid : laidOutB Try.prog = true := by kernel_rfl

theorem cell_blkA {w : World} {b o : Nat} {v : Value} (h : w.cell? ⟨b, o, none⟩ = some v) : b < w.heap.size := by
  rcases Nat.lt_or_ge b w.heap.size with h' | h'
  · exact h'
  · simp [World.cell?, Array.getElem?_eq_none h'] at h
theorem addr_addA (b off j : Nat) : (⟨b, off, none⟩ : Addr).add j = ⟨b, off + j, none⟩ := by
  unfold Addr.add
  split <;> simp_all

set_option maxRecDepth 100000 in
theorem mvs_of_one {H : Type} {enc : TypeId × Value → H} {W : World} {fuel : Nat} {v : Value} {x : DataW H × List MemPlace}
    (hf : DataW.trod enc Try.prog W 0 (fun _ => true) true fuel 30 [v] = some x) : ∃ ms : List Mv, Mvs W v ms := by
  have hc3 : Try.prog.cellsOf 34 = 3 := by kernel_rfl
  rcases Deep.open_slice Try.underlying30 hf with ⟨hcs, _⟩ | ⟨a, len, cap, m, n, D, Pl, hcs, _, hl, _, hmm, _, hx⟩
  · simp at hcs
    subst hcs
    exact ⟨[], .inl ⟨rfl, none, 0, rfl⟩⟩
  · simp at hcs
    subst hcs
    have hmn : len ≤ m := by rw [hmm]; simpa using hl
    have each : ∀ i, ∃ q : Mv, i < len → W.cell? (a.add (i * 3)) = some (.int .i64 q.1) ∧ W.cell? (a.add (i * 3 + 1)) = some (.int .i64 q.2.1) ∧ W.cell? (a.add (i * 3 + 2)) = some (.int .i64 q.2.2) := fun i => by
      by_cases hi : i < len
      · obtain ⟨cs', h1, h2⟩ := hx i (by omega)
        rw [hc3] at h1
        obtain ⟨_, hlen, hcell⟩ := World.cells?_some h1
        obtain ⟨xs, k, hk, hxy, _, hxl, hff⟩ := DataW.trod_struct Try.underlying34 h2
        match xs, hxl, cs', hlen with
        | [y0, y1, y2], _, [v0, v1, v2], _ =>
          have g0 := hff 0 _ rfl
          have g1 := hff 1 _ rfl
          have g2 := hff 2 _ rfl
          have c1 : Try.prog.cellsOf 3 = 1 := by kernel_rfl
          simp [c1] at g0 g1 g2
          obtain ⟨z0, e0, _, _⟩ := DataW.trod_int Try.underlying3 g0
          obtain ⟨z1, e1, _, _⟩ := DataW.trod_int Try.underlying3 g1
          obtain ⟨z2, e2, _, _⟩ := DataW.trod_int Try.underlying3 g2
          simp at e0 e1 e2
          have d0 := hcell 0 (by omega)
          have d1 := hcell 1 (by omega)
          have d2 := hcell 2 (by omega)
          rw [Deep.add_add] at d0 d1 d2
          exact ⟨(z0, z1, z2), fun _ => ⟨by simpa [e0] using d0, by simpa [e1] using d1, by simpa [e2] using d2⟩⟩
      · exact ⟨m0, fun h => absurd h hi⟩
    obtain ⟨F, hF⟩ := Classical.axiomOfChoice each
    refine ⟨(List.range len).map F, ?_⟩
    by_cases hn : len = 0
    · subst hn
      exact .inl ⟨rfl, _, _, rfl⟩
    · obtain ⟨b, off, spot⟩ := a
      have h0 := (hF 0 (by omega)).1
      have hspot : spot = none := by simpa [Addr.add] using World.cell?_spot h0
      subst hspot
      refine .inr ⟨b, off, cap, by simp, ?_, fun j hj => ?_⟩
      · rw [addr_addA] at h0
        exact cell_blkA h0
      · have hj' : j < len := by simpa using hj
        have g0 : ((List.range len).map F).getD j m0 = F j := by simp [hj']
        rw [g0]
        obtain ⟨x0, x1, x2⟩ := hF j hj'
        rw [addr_addA] at x0 x1 x2
        exact ⟨x0, by rw [Nat.add_assoc]; exact x1, by rw [Nat.add_assoc]; exact x2⟩

theorem sts_of_one {H : Type} {enc : TypeId × Value → H} {W : World} {fuel : Nat} {v : Value} {x : DataW H × List MemPlace}
    (hf : DataW.trod enc Try.prog W 0 (fun _ => true) true fuel 22 [v] = some x) : ∃ (a : Option Addr) (n c : Nat) (l : List St), v = .slice a n c ∧ l.length = n ∧ Sts W v l := by
  rcases Deep.open_slice_pairs Try.underlying22 Try.underlying32 (by kernel_rfl) rfl rfl (by kernel_rfl) (by kernel_rfl) hf with ⟨hcs, _⟩ | ⟨a, len, cap, m, k, V0, V1, D0, D1, P0, P1, hcs, _, hl, _, hm, _, hall⟩
  · simp at hcs
    subst hcs
    exact ⟨none, 0, 0, [], rfl, rfl, .inl ⟨rfl, none, 0, rfl⟩⟩
  · simp at hcs
    subst hcs
    have hmn : len ≤ m := by rw [hm]; simpa using hl
    have each : ∀ i, ∃ q : St, i < len → W.cell? (a.add (i * 2)) = some (.int .i64 q.1) ∧ ∃ mv, W.cell? (a.add (i * 2 + 1)) = some mv ∧ Mvs W mv q.2 := fun i => by
      by_cases hi : i < len
      · obtain ⟨c0, c1, t0, t1⟩ := hall i (by omega)
        obtain ⟨z0, e0, _, _⟩ := DataW.trod_int Try.underlying3 t0
        simp at e0
        obtain ⟨ms, hM⟩ := mvs_of_one t1
        exact ⟨(z0, ms), fun _ => ⟨by rw [c0, e0], _, c1, hM⟩⟩
      · exact ⟨s0, fun h => absurd h hi⟩
    obtain ⟨F, hF⟩ := Classical.axiomOfChoice each
    refine ⟨some a, len, cap, (List.range len).map F, rfl, by simp, ?_⟩
    by_cases hn : len = 0
    · subst hn
      exact .inl ⟨rfl, _, _, rfl⟩
    · obtain ⟨b, off, spot⟩ := a
      have h0 := (hF 0 (by omega)).1
      have hspot : spot = none := by simpa [Addr.add] using World.cell?_spot h0
      subst hspot
      refine .inr ⟨b, off, cap, by simp, ?_, fun j hj => ?_⟩
      · rw [addr_addA] at h0
        exact cell_blkA h0
      · have hj' : j < len := by simpa using hj
        have g0 : ((List.range len).map F).getD j s0 = F j := by simp [hj']
        rw [g0]
        obtain ⟨x0, mv, x1, x2⟩ := hF j hj'
        rw [addr_addA] at x0 x1
        exact ⟨x0, mv, by rw [Nat.add_assoc]; exact x1, x2⟩

theorem law_run_any (a : Option Addr) (n c : Nat) (s : ByteArray) (l : List St) (w : World) (hn : l.length = n) (hv : Sts w (.slice a n c) l) :
    Calls Try.prog 3 #[.agg #[.slice a n c], .string s] w fun e w' => e = .returned (.bool true) ∧ Below w.heap.size w w' := by
  subst hn
  by_cases h1 : 2000 < l.length
  · exact law_run_long a _ c s w h1
  · by_cases h2 : 2000 < s.size
    · exact law_run_text a _ c s w (by omega) h2
    · exact law_run a c s l w (by omega) (by omega) hv

set_option maxRecDepth 100000 in
theorem runLifted (os : Os) (started : os.Started) (H : Type) (enc : TypeId × Value → H) :
    ReturnsInHanded {} Try.checked os 3 .any (Rows.autoRunSpec.pre6 enc Try.prog Try.f3 Rows.autoRunRow.domain false) (Rows.autoRunSpec.post enc Try.prog Try.f3 false true false false) := by
  refine returnsInHanded_of_change (C := Try.checked) runOwn started (by kernel_rfl) Try.func3
    (ChangeSpec.witness6 (enc := enc) (C := Try.checked) false ⟨#[], #[.agg #[.slice none 0 0], .string ByteArray.empty], []⟩ 8 (by kernel_rfl) (by kernel_rfl) (by kernel_rfl) (by kernel_rfl)) ?_
  intro W base args ds gs before hval0 hW hcnd _
  have hval : ∀ (j : Nat) t v, Try.f3.params[j]? = some t → args[j]? = some v → Value.okWide Try.prog W .any base t v := hval0
  have hW' := hW
  obtain ⟨p, q, hA0, hV, rfl, hfz, hnd⟩ := hW
  have hA : DataW.TrodAll enc Try.prog W 0 (fun _ => true) true Try.f3.params.toList args.toList ds p := hA0
  rw [Try.params3] at hA hval
  obtain ⟨v0, vs0, d0, ds0, p0, q0, hargs, rfl, rfl, h0, r0⟩ := trodAll_cons hA
  obtain ⟨v1, vs1, d1, ds1, p1, q1, rfl, rfl, rfl, h1, r1⟩ := trodAll_cons r0
  obtain ⟨rfl, rfl, rfl⟩ := trodAll_nil r1
  obtain rfl : args = #[v0, v1] := by cases args; simp_all
  obtain ⟨rfl, rfl⟩ := trodVars_none hV
  obtain ⟨a1, rfl, rfl, rfl, w1⟩ := open_string Try.underlying9 (hval 1 9 v1 rfl rfl) h1
  obtain ⟨cs, rfl, hcs⟩ := okWide_struct Try.underlying24 (hval 0 24 v0 rfl rfl)
  have hc1 : Try.prog.cellsOf 24 = 1 := by kernel_rfl
  rw [hc1] at hcs
  obtain ⟨u, rfl⟩ : ∃ u, cs = #[u] := ⟨cs[0], by apply Array.ext <;> simp_all⟩
  have k0 := h0
  have lt0 : ∀ x ∈ p0, x.block < W.heap.size := by obtain ⟨m, hm⟩ := k0; exact DataW.trod_lt m _ _ _ hm
  obtain ⟨a, n, c, l, rfl, hn, S0⟩ : ∃ (a : Option Addr) (n c : Nat) (l : List St), u = .slice a n c ∧ l.length = n ∧ Sts W u l := by
    obtain ⟨fuel, hf⟩ := h0
    obtain ⟨y0, k, _, _, hy⟩ := trod_struct1 Try.underlying24 hf
    have hcs1 : Try.prog.cellsOf 22 = 1 := by kernel_rfl
    simp only [hcs1] at hy
    exact sts_of_one (by simpa [Value.cells] using hy)
  clear hA0 hval0
  refine (law_run_any a n c a1 l W hn S0).mono fun e W' ⟨he, bel⟩ => ?_
  subst he
  exact ⟨_, rfl, _, _, _, [], _, [], hW', trodAll_mk1 (shut_bool Try.underlying4 _), (trodAll_cons_mk (Below.trod runLaid (by kernel_rfl) (of_decide_eq_true (by kernel_rfl)) k0 bel lt0) (trodAll_cons_mk (shut_string Try.underlying9 w1) trodAll_mk0)), rfl, bel.frame _, fun h => by cases h⟩

theorem autoRun_holds : Rows.AutoRunSaid :=
  OpenClaim.holds_of_wide 3 Try.f3 rfl rfl rfl rfl rfl rfl rfl ⟨rfl, rfl, rfl, rfl, rfl⟩ rfl rfl rfl rfl rfl (by kernel_rfl) Try.func3 (by kernel_rfl)
    (of_decide_eq_true (by kernel_rfl)) (by unfold Func.isWrapper; first | (rw [if_pos (by decide +kernel)]; kernel_rfl) | (rw [if_neg (by decide +kernel)]; exact ⟨rfl, rfl⟩))
    (fun os started H enc _ => runLifted os started H enc)

end Go.Proofs.Ytifhoeffkehcmaa
