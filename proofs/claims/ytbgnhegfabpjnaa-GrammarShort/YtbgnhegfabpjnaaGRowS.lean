/- How long the shortest sentences of each name of any grammar are, and the first of them, are as the document says: the law GrammarShort returns true for every grammar and every number. Nothing narrows it; above the law's own bounds (8 terminals, 8 names, 14 productions of 5 symbols) it says nothing of the program. -/
import Derived.Test.YtbgnhegfabpjnaaRows
import Derived.Test.YtbgnhegfabpjnaaGLaw
import Derived.WalkKit
import Derived.ProofKit
import Derived.OpenShut
import Derived.ChangeOld
import Derived.ChangeSame
import Derived.Below
import Derived.Deep.SlicePairs
namespace Go.Proofs.Ytbgnhegfabpjnaa
open Go.ChangeShapes Go.WideShapes Go.ChangeAt Go.RowKit
set_option linter.unusedVariables false

theorem shOwn : ownKnob Try.prog.godebug = none := by kernel_rfl
theorem shLaid : laidOutB Try.prog = true := by kernel_rfl
theorem cell_blkG {w : World} {b o : Nat} {v : Value} (h : w.cell? ⟨b, o, none⟩ = some v) : b < w.heap.size := by
  rcases Nat.lt_or_ge b w.heap.size with h' | h'
  · exact h'
  · simp [World.cell?, Array.getElem?_eq_none h'] at h
theorem addr_addG (b off j : Nat) : (⟨b, off, none⟩ : Addr).add j = ⟨b, off + j, none⟩ := by
  unfold Addr.add
  split <;> simp_all
theorem i64_of_wf {n : Int} (h : (Lit.int .i64 n).wf = true) : I64 n := by
  simp [Lit.wf, IntKind.min, IntKind.max, IntKind.signed, IntKind.bits] at h
  unfold I64
  omega

set_option maxRecDepth 100000 in
theorem ints_of_one {H : Type} {enc : TypeId × Value → H} {W : World} {fuel : Nat} {v : Value} {x : DataW H × List MemPlace}
    (hf : DataW.trod enc Try.prog W 0 (fun _ => true) true fuel 23 [v] = some x) : ∃ l : List Int, IntsR W v l ∧ ∀ z ∈ l, I64 z := by
  have hc1 : Try.prog.cellsOf 3 = 1 := by kernel_rfl
  rcases open_ints Try.underlying23 Try.underlying3 hc1 hf with ⟨hcs, _⟩ | ⟨a, len, cap, zs, hcs, _, hl, _, hzl, _, hcell, hwf⟩
  · simp at hcs
    subst hcs
    exact ⟨[], ⟨none, 0, rfl, .inl rfl⟩, fun z hz => by simp at hz⟩
  · simp at hcs
    subst hcs
    have hzl' : zs.length = cap := by simpa using hzl
    have htl : (zs.take len).length = len := by rw [List.length_take]; omega
    refine ⟨zs.take len, ?_, fun z hz => i64_of_wf (hwf z (List.mem_of_mem_take hz))⟩
    by_cases hn : len = 0
    · subst hn
      exact ⟨some a, cap, by simp, .inl (by simp)⟩
    · obtain ⟨b, off, spot⟩ := a
      have h0 := hcell 0 (by omega)
      have hspot : spot = none := by simpa [Addr.add] using World.cell?_spot h0
      subst hspot
      refine ⟨_, cap, by rw [htl], .inr ⟨b, off, rfl, ?_, fun j hj => ?_⟩⟩
      · rw [addr_addG] at h0
        exact cell_blkG h0
      · rw [htl] at hj
        have h1 := hcell j (by omega)
        rw [addr_addG] at h1
        rw [h1]
        simp [List.getD, List.getElem?_take_of_lt hj]

set_option maxRecDepth 100000 in
theorem prods_of_one {H : Type} {enc : TypeId × Value → H} {W : World} {fuel : Nat} {v : Value} {x : DataW H × List MemPlace}
    (hf : DataW.trod enc Try.prog W 0 (fun _ => true) true fuel 22 [v] = some x) : ∃ ps : List PdR, PdsM W v ps ∧ ∀ p ∈ ps, ∀ z ∈ p.right, I64 z := by
  have hc3 : Try.prog.cellsOf 33 = 3 := by kernel_rfl
  rcases Deep.open_slice Try.underlying22 hf with ⟨hcs, _⟩ | ⟨a, len, cap, m, n, D, Pl, hcs, _, hl, _, hmm, _, hx⟩
  · simp at hcs
    subst hcs
    exact ⟨[], ⟨none, 0, rfl, .inl rfl⟩, fun p hp => by simp at hp⟩
  · simp at hcs
    subst hcs
    have hmn : len ≤ m := by rw [hmm]; simpa using hl
    have each : ∀ i, ∃ q : PdR × Value, i < len → W.cell? (a.add (i * 3)) = some (.int .i64 q.1.left) ∧ W.cell? (a.add (i * 3 + 1)) = some q.2 ∧ W.cell? (a.add (i * 3 + 2)) = some (.int .i64 q.1.level) ∧ IntsR W q.2 q.1.right ∧ ∀ z ∈ q.1.right, I64 z := fun i => by
      by_cases hi : i < len
      · obtain ⟨cs', h1, h2⟩ := hx i (by omega)
        rw [hc3] at h1
        obtain ⟨_, hlen, hcell⟩ := World.cells?_some h1
        obtain ⟨xs, k, hk, hxy, _, hxl, hff⟩ := DataW.trod_struct Try.underlying33 h2
        match xs, hxl, cs', hlen with
        | [y0, y1, y2], _, [v0, v1, v2], _ =>
          have g0 := hff 0 _ rfl
          have g1 := hff 1 _ rfl
          have g2 := hff 2 _ rfl
          have c1 : Try.prog.cellsOf 3 = 1 := by kernel_rfl
          have c2 : Try.prog.cellsOf 23 = 1 := by kernel_rfl
          simp [c1, c2] at g0 g1 g2
          obtain ⟨z0, e0, _, _⟩ := DataW.trod_int Try.underlying3 g0
          obtain ⟨z2, e2, _, _⟩ := DataW.trod_int Try.underlying3 g2
          obtain ⟨l, hl1, hl2⟩ := ints_of_one g1
          simp at e0 e2
          have d0 := hcell 0 (by omega)
          have d1 := hcell 1 (by omega)
          have d2 := hcell 2 (by omega)
          rw [Deep.add_add] at d0 d1 d2
          exact ⟨(⟨z0, l, z2⟩, v1), fun _ => ⟨by simpa [e0] using d0, by simpa using d1, by simpa [e2] using d2, hl1, hl2⟩⟩
      · exact ⟨(noPd, .nilFunc), fun h => absurd h hi⟩
    obtain ⟨F, hF⟩ := Classical.axiomOfChoice each
    have hg : ∀ j, j < len → ((List.range len).map fun i => (F i).1).getD j noPd = (F j).1 := fun j hj => by simp [hj]
    refine ⟨(List.range len).map fun i => (F i).1, ?_, fun p hp => ?_⟩
    · by_cases hn : len = 0
      · subst hn
        exact ⟨some a, cap, by simp, .inl rfl⟩
      · obtain ⟨b, off, spot⟩ := a
        have h0 := (hF 0 (by omega)).1
        have hspot : spot = none := by simpa [Addr.add] using World.cell?_spot h0
        subst hspot
        refine ⟨_, cap, by simp, .inr ⟨b, off, rfl, ?_, fun j hj => ?_⟩⟩
        · rw [addr_addG] at h0
          exact cell_blkG h0
        · have hj' : j < len := by simpa using hj
          rw [hg j hj']
          obtain ⟨x0, x1, x2, x3, _⟩ := hF j hj'
          rw [addr_addG] at x0 x1 x2
          exact ⟨(F j).2, x0, by rw [Nat.add_assoc]; exact x1, by rw [Nat.add_assoc]; exact x2, x3⟩
    · obtain ⟨i, hi, rfl⟩ := List.mem_map.1 hp
      exact (hF i (List.mem_range.1 hi)).2.2.2.2

theorem six {α : Type} : ∀ (l : List α), l.length = 6 → ∃ a b c d e f, l = [a, b, c, d, e, f] := by
  intro l h
  obtain ⟨a, l, rfl⟩ := List.exists_cons_of_length_pos (l := l) (by omega)
  obtain ⟨b, l, rfl⟩ := List.exists_cons_of_length_pos (l := l) (by simp at h; omega)
  obtain ⟨c, l, rfl⟩ := List.exists_cons_of_length_pos (l := l) (by simp at h; omega)
  obtain ⟨d, l, rfl⟩ := List.exists_cons_of_length_pos (l := l) (by simp at h; omega)
  obtain ⟨e, l, rfl⟩ := List.exists_cons_of_length_pos (l := l) (by simp at h; omega)
  obtain ⟨f, l, rfl⟩ := List.exists_cons_of_length_pos (l := l) (by simp at h; omega)
  obtain rfl : l = [] := by simpa using h
  exact ⟨a, b, c, d, e, f, rfl⟩
set_option maxRecDepth 100000 in
theorem gram_of_one {H : Type} {enc : TypeId × Value → H} {W : World} {fuel : Nat} {cl : List Value} {x : DataW H × List MemPlace} (hcl : cl.length = 6)
    (hf : DataW.trod enc Try.prog W 0 (fun _ => true) true fuel 25 cl = some x) : ∃ (g : Gm) (pv lv sv : Value), cl.toArray = gvs g pv lv sv ∧ GrM W g pv lv sv ∧ WfG g := by
  obtain ⟨xs, k, hk, hxy, _, hxl, hff⟩ := DataW.trod_struct Try.underlying25 hf
  obtain ⟨u0, u1, u2, u3, u4, u5, rfl⟩ := six cl hcl
  have hxl' : xs.length = 6 := hxl
  obtain ⟨y0, y1, y2, y3, y4, y5, rfl⟩ := six xs hxl'
  clear hf hcl hxl hxl' hxy
  have g0 := hff 0 _ rfl
  have g1 := hff 1 _ rfl
  have g2 := hff 2 _ rfl
  have g3 := hff 3 _ rfl
  have g4 := hff 4 _ rfl
  have g5 := hff 5 _ rfl
  clear hff
  have c1 : Try.prog.cellsOf 3 = 1 := by kernel_rfl
  have c2 : Try.prog.cellsOf 23 = 1 := by kernel_rfl
  have c3 : Try.prog.cellsOf 22 = 1 := by kernel_rfl
  simp [c1, c2, c3] at g0 g1 g2 g3 g4 g5
  obtain ⟨z0, e0, _, _⟩ := DataW.trod_int Try.underlying3 g0
  obtain ⟨z1, e1, _, _⟩ := DataW.trod_int Try.underlying3 g1
  obtain ⟨z2, e2, _, _⟩ := DataW.trod_int Try.underlying3 g2
  obtain ⟨ps, hps1, hps2⟩ := prods_of_one g3
  obtain ⟨ls, hls1, _⟩ := ints_of_one g4
  obtain ⟨ss, hss1, _⟩ := ints_of_one g5
  simp at e0 e1 e2
  exact ⟨⟨z0, z1, z2, ps, ls, ss⟩, u3, u4, u5, by rw [e0, e1, e2]; rfl, ⟨hps1, hls1, hss1⟩, hps2⟩

theorem law_any (g : Gm) (n : Int) (hn : I64 n) (pv lv sv : Value) (w : World) (h : GrM w g pv lv sv) (hwf : WfG g) :
    Calls Try.prog 3 #[gv g pv lv sv, .int .i64 n] w fun e w' => e = .returned (.bool true) ∧ Below w.heap.size w w' := by
  cases hs : smallG g
  · exact law_big g n pv lv sv w h hs
  · cases hy : gOkB g
    · exact law_no g n pv lv sv w h hwf hs hy
    · obtain ⟨N, hN, hN1, hG, h3, ht0, ht1⟩ := gok_M g hy hwf
      obtain ⟨t, nm, s, ps, ls, ss⟩ := g
      simp only at hN hG h3 ht0 ht1
      subst hN
      exact law_yes t s N ps ls ss n hn pv lv sv w hG hN1 (fun p hp x hx => by have := h3 p hp x hx; omega) h hwf hs hy

set_option maxHeartbeats 400000 in
set_option maxRecDepth 100000 in
theorem shortLifted (os : Os) (started : os.Started) (H : Type) (enc : TypeId × Value → H) :
    ReturnsInHanded {} Try.checked os 3 .any (Rows.grammarShortSpec.pre6 enc Try.prog Try.f3 Rows.grammarShortRow.domain false) (Rows.grammarShortSpec.post enc Try.prog Try.f3 false true false false) := by
  refine returnsInHanded_of_change (C := Try.checked) shOwn started (by kernel_rfl) Try.func3
    (ChangeSpec.witness6 (enc := enc) (C := Try.checked) false ⟨#[], #[.agg #[.int .i64 0, .int .i64 0, .int .i64 0, .slice none 0 0, .slice none 0 0, .slice none 0 0], .int .i64 0], []⟩ 8 (by kernel_rfl) (by kernel_rfl) (by kernel_rfl) (by kernel_rfl)) ?_
  intro W base args ds gs before hval0 hW hcnd _
  have hval : ∀ (j : Nat) t v, Try.f3.params[j]? = some t → args[j]? = some v → Value.okWide Try.prog W .any base t v := hval0
  have hW' := hW
  obtain ⟨p, q, hA0, hV, rfl, hfz, hnd⟩ := hW
  have hA : DataW.TrodAll enc Try.prog W 0 (fun _ => true) true Try.f3.params.toList args.toList ds p := hA0
  rw [Try.params3] at hA hval
  obtain ⟨v0, vs0, d0, ds0, p0, q0, hargs, rfl, rfl, h0, r0⟩ := trodAll_cons hA
  obtain ⟨v1, vs1, d1, ds1, p1, q1, rfl, rfl, rfl, h1, r1⟩ := trodAll_cons r0
  obtain ⟨rfl, rfl, rfl⟩ := trodAll_nil r1
  obtain rfl : args = #[v0, v1] := by cases args; simp_all
  obtain ⟨rfl, rfl⟩ := trodVars_none hV
  have k1 := h1
  have lt1 : ∀ x ∈ p1, x.block < W.heap.size := by obtain ⟨m, hm⟩ := k1; exact DataW.trod_lt m _ _ _ hm
  obtain ⟨n, rfl, rfl, rfl, w1⟩ := open_int Try.underlying3 (hval 1 3 v1 rfl rfl) h1
  obtain ⟨cs, rfl, hcs⟩ := okWide_struct Try.underlying25 (hval 0 25 v0 rfl rfl)
  have hc6 : Try.prog.cellsOf 25 = 6 := by kernel_rfl
  rw [hc6] at hcs
  have k0 := h0
  have lt0 : ∀ x ∈ p0, x.block < W.heap.size := by obtain ⟨m, hm⟩ := k0; exact DataW.trod_lt m _ _ _ hm
  obtain ⟨g, pv, lv, sv, hgv, hGr, hWf⟩ : ∃ (g : Gm) (pv lv sv : Value), cs = gvs g pv lv sv ∧ GrM W g pv lv sv ∧ WfG g := by
    obtain ⟨fuel, hf⟩ := h0
    obtain ⟨cl⟩ := cs
    exact gram_of_one (by simpa using hcs) (by simpa [Value.cells] using hf)
  clear hA0 hval0
  subst hgv
  have hLaw : Calls Try.prog 3 #[.agg (gvs g pv lv sv), .int .i64 n] W fun e w' => e = .returned (.bool true) ∧ Below W.heap.size W w' := law_any g n (i64_of_wf w1) pv lv sv W hGr hWf
  refine hLaw.mono fun e W' ⟨he, bel⟩ => ?_
  subst he
  exact ⟨_, rfl, _, _, _, [], _, [], hW', trodAll_mk1 (shut_bool Try.underlying4 _), (trodAll_cons_mk (Below.trod shLaid (by kernel_rfl) (of_decide_eq_true (by kernel_rfl)) k0 bel lt0) (trodAll_cons_mk (Below.trod shLaid (by kernel_rfl) (of_decide_eq_true (by kernel_rfl)) k1 bel lt1) trodAll_mk0)), rfl, bel.frame _, fun h => by cases h⟩

theorem grammarShort_holds : Rows.GrammarShortSaid :=
  OpenClaim.holds_of_wide 3 Try.f3 rfl rfl rfl rfl rfl rfl rfl ⟨rfl, rfl, rfl, rfl, rfl⟩ rfl rfl rfl rfl rfl (by kernel_rfl) Try.func3 (by kernel_rfl)
    (of_decide_eq_true (by kernel_rfl)) (by unfold Func.isWrapper; first | (rw [if_pos (by decide +kernel)]; kernel_rfl) | (rw [if_neg (by decide +kernel)]; exact ⟨rfl, rfl⟩))
    (fun os started H enc _ => shortLifted os started H enc)

end Go.Proofs.Ytbgnhegfabpjnaa
