/- Whether any tree is one of Start with these leaves, and how it is shown, are as the document says: the law TreeTold returns true for every grammar, every list of trees and every list of terminals. Nothing narrows it but that the package's tables are as the program's text lays them (the card ties that); above the law's own bounds (8 terminals, 8 names, 14 productions of 5 symbols, 12 leaves, 60 trees in the list, 500 in the tree) it says nothing of the program. -/
import Derived.Test.YtbgklfmhmpjboaaDoorRows
import Derived.Test.YtbgklfmhmpjboaaDoorTie
import Derived.Test.YtbgklfmhmpjboaaDoorCards
import Derived.Test.YtbgklfmhmpjboaaDoorTLaw
import Derived.Deep.DeepHandedRow
import Derived.Deep.DeepWitnessRowRef
import Derived.Deep.SlicePairs
import Derived.Lib.LaidIn
import Derived.Lib.LaidU8
import Derived.Shelf.Vars
import Derived.ProofKit
import Derived.SizedLaws
import Derived.LaidLaws
import Derived.SevenTiedAt
import Derived.OpenShut
import Derived.ChangeOld
import Derived.ChangeSame
namespace Go.Proofs.YtbgklfmhmpjboaaDoor
open Go.ChangeShapes Go.WideShapes Go.ChangeAt Go.RowKit
set_option linter.unusedVariables false
set_option maxRecDepth 100000

theorem tt_own : ownKnob Tryd.prog.godebug = none := by kernel_rfl
theorem tt_laidOut : laidOutB Tryd.prog = true := by kernel_rfl
theorem cell_blkT {w : World} {b o : Nat} {v : Value} (h : w.cell? ⟨b, o, none⟩ = some v) : b < w.heap.size := by
  rcases Nat.lt_or_ge b w.heap.size with h' | h'
  · exact h'
  · simp [World.cell?, Array.getElem?_eq_none h'] at h
theorem addr_addT (b off j : Nat) : (⟨b, off, none⟩ : Addr).add j = ⟨b, off + j, none⟩ := by
  unfold Addr.add
  split <;> simp_all
theorem rng_of_wf {n : Int} (h : (Lit.int .i64 n).wf = true) : -9223372036854775808 ≤ n ∧ n ≤ 9223372036854775807 := by
  simp [Lit.wf, IntKind.min, IntKind.max, IntKind.signed, IntKind.bits] at h
  omega
/-- no weight of a datum is more than a reading may hold -/
def Light {H : Type} (t : TypeId) (d : DataW H) : Prop := ∀ n ∈ d.weights Tryd.prog t, n ≤ reachBytes
theorem weightsAll_mem {H : Type} {P : Program} {e : TypeId} {d : DataW H} {n : Nat} : ∀ {l : List (DataW H)}, d ∈ l → n ∈ d.weights P e → n ∈ DataW.weightsAll P e l
  | [], h, _ => by simp at h
  | x :: l, h, hn => by
    rw [DataW.weightsAll]
    rcases List.mem_cons.1 h with rfl | h
    · exact List.mem_append_left _ hn
    · exact List.mem_append_right _ (weightsAll_mem h hn)

theorem ints_of_oneT {H : Type} {enc : TypeId × Value → H} {W : World} {fuel : Nat} {v : Value} {x : DataW H × List MemPlace}
    (hf : DataW.trod enc Tryd.prog W 0 (fun _ => true) true fuel 23 [v] = some x) : ∃ l : List Int, IntsR W v l ∧ (∀ z ∈ l, -9223372036854775808 ≤ z ∧ z ≤ 9223372036854775807) ∧ (Light 23 x.1 → l.length * 8 ≤ 140737488351232) := by
  have hc1 : Tryd.prog.cellsOf 3 = 1 := by kernel_rfl
  have hby : Tryd.prog.bytesOf 3 = 8 := by kernel_rfl
  rcases Deep.open_slice Tryd.underlying23 hf with ⟨hcs, _⟩ | ⟨a, len, cap, m, n, D, Pl, hcs, _, hl, _, hmm, rfl, hx⟩
  · simp at hcs
    subst hcs
    exact ⟨[], ⟨none, 0, rfl, .inl rfl⟩, fun z hz => by simp at hz, fun _ => by simp⟩
  · simp at hcs
    subst hcs
    have hmn : len ≤ m := by rw [hmm]; simpa using hl
    have each : ∀ i, ∃ q : Int, i < len → W.cell? (a.add i) = some (.int .i64 q) ∧ (-9223372036854775808 ≤ q ∧ q ≤ 9223372036854775807) := fun i => by
      by_cases hi : i < len
      · obtain ⟨cs', h1, h2⟩ := hx i (by omega)
        rw [hc1] at h1
        obtain ⟨_, hlen, hcell⟩ := World.cells?_some h1
        obtain ⟨z, e, _, hz⟩ := DataW.trod_int Tryd.underlying3 h2
        subst e
        have d0 := hcell 0 (by omega)
        rw [Deep.add_add] at d0
        exact ⟨z, fun _ => ⟨by simpa using d0, rng_of_wf hz⟩⟩
      · exact ⟨0, fun h => absurd h hi⟩
    obtain ⟨F, hF⟩ := Classical.axiomOfChoice each
    refine ⟨(List.range len).map F, ⟨some a, cap, by simp, ?_⟩, ?_, ?_⟩
    · by_cases hn : len = 0
      · subst hn
        exact .inl rfl
      · obtain ⟨b, off, spot⟩ := a
        have h0 := (hF 0 (by omega)).1
        have hspot : spot = none := by simpa [Addr.add] using World.cell?_spot h0
        subst hspot
        refine .inr ⟨b, off, rfl, ?_, fun j hj => ?_⟩
        · rw [addr_addT] at h0
          exact cell_blkT h0
        · have hj' : j < len := by simpa using hj
          have g0 : ((List.range len).map F).getD j 0 = F j := by simp [hj']
          rw [g0, ← addr_addT]
          exact (hF j hj').1
    · intro z hz
      obtain ⟨i, hi, rfl⟩ := List.mem_map.1 hz
      exact (hF i (List.mem_range.1 hi)).2
    · intro hL
      have := hL (((List.range len).map D).length + ((List.range (m - len)).map fun j => D (len + j)).length |> (· * Tryd.prog.bytesOf 3)) (by simp [DataW.weights, Tryd.underlying23])
      rw [hby] at this
      simp at this ⊢
      unfold reachBytes at this
      omega

theorem twigs_of_one {H : Type} {enc : TypeId × Value → H} {W : World} {fuel : Nat} {v : Value} {x : DataW H × List MemPlace}
    (hf : DataW.trod enc Tryd.prog W 0 (fun _ => true) true fuel 26 [v] = some x) (hL : Light 26 x.1) : ∃ ps : List TwP, TwsR W v ps ∧ TwOk ps := by
  have hc3 : Tryd.prog.cellsOf 37 = 3 := by kernel_rfl
  rcases Deep.open_slice Tryd.underlying26 hf with ⟨hcs, _⟩ | ⟨a, len, cap, m, n, D, Pl, hcs, _, hl, _, hmm, rfl, hx⟩
  · simp at hcs
    subst hcs
    exact ⟨[], ⟨none, 0, rfl, .inl rfl⟩, fun p hp => by simp at hp⟩
  · simp at hcs
    subst hcs
    have hmn : len ≤ m := by rw [hmm]; simpa using hl
    have hLD : ∀ i, i < len → Light 37 (D i) := fun i hi n hn => by
      refine hL n ?_
      simp only [DataW.weights, Tryd.underlying26]
      exact List.mem_cons_of_mem _ (List.mem_append_left _ (weightsAll_mem (List.mem_map_of_mem (List.mem_range.2 hi)) hn))
    have each : ∀ i, ∃ q : TwP × Value, i < len → W.cell? (a.add (i * 3)) = some (.int .i64 q.1.prod) ∧ W.cell? (a.add (i * 3 + 1)) = some (.int .i64 q.1.tok) ∧ W.cell? (a.add (i * 3 + 2)) = some q.2 ∧ IntsR W q.2 q.1.kids ∧ q.1.kids.length * 8 ≤ 140737488351232 ∧ (-9223372036854775808 ≤ q.1.prod ∧ q.1.prod ≤ 9223372036854775807) ∧ (-9223372036854775808 ≤ q.1.tok ∧ q.1.tok ≤ 9223372036854775807) := fun i => by
      by_cases hi : i < len
      · obtain ⟨cs', h1, h2⟩ := hx i (by omega)
        rw [hc3] at h1
        obtain ⟨_, hlen, hcell⟩ := World.cells?_some h1
        obtain ⟨xs, k, hk, hxy, _, hxl, hff⟩ := DataW.trod_struct Tryd.underlying37 h2
        match xs, hxl, cs', hlen with
        | [y0, y1, y2], _, [v0, v1, v2], _ =>
          have g0 := hff 0 _ rfl
          have g1 := hff 1 _ rfl
          have g2 := hff 2 _ rfl
          have c1 : Tryd.prog.cellsOf 3 = 1 := by kernel_rfl
          have c2 : Tryd.prog.cellsOf 23 = 1 := by kernel_rfl
          simp [c1, c2] at g0 g1 g2
          obtain ⟨z0, e0, _, w0⟩ := DataW.trod_int Tryd.underlying3 g0
          obtain ⟨z1, e1, _, w1⟩ := DataW.trod_int Tryd.underlying3 g1
          obtain ⟨l, hl1, hl2, hl3⟩ := ints_of_oneT g2
          simp at e0 e1
          have d0 := hcell 0 (by omega)
          have d1 := hcell 1 (by omega)
          have d2 := hcell 2 (by omega)
          rw [Deep.add_add] at d0 d1 d2
          have hDi : D i = .agg [y0.1, y1.1, y2.1] := by
            have := congrArg Prod.fst hxy
            simpa using this
          have hLi : Light 23 y2.1 := fun n hn => by
            refine hLD i hi n ?_
            rw [hDi]
            simp only [DataW.weights, Tryd.underlying37, DataW.weightsEach, List.map_cons, List.mem_append]
            simp [DataW.weightsEach]
            exact .inr (.inr hn)
          exact ⟨(⟨z0, z1, l⟩, v2), fun _ => ⟨by simpa [e0] using d0, by simpa [e1] using d1, by simpa using d2, hl1, hl3 hLi, rng_of_wf w0, rng_of_wf w1⟩⟩
      · exact ⟨(noTw, .nilFunc), fun h => absurd h hi⟩
    obtain ⟨F, hF⟩ := Classical.axiomOfChoice each
    have hg : ∀ j, j < len → ((List.range len).map fun i => (F i).1).getD j noTw = (F j).1 := fun j hj => by simp [hj]
    refine ⟨(List.range len).map fun i => (F i).1, ?_, fun p hp => ?_⟩
    · by_cases hn : len = 0
      · subst hn
        exact ⟨some a, cap, by simp, .inl rfl⟩
      · obtain ⟨b, off, spot⟩ := a
        have h0 := (hF 0 (by omega)).1
        have hspot : spot = none := by simpa [Addr.add] using World.cell?_spot h0
        subst hspot
        refine ⟨_, cap, by simp, .inr ⟨b, off, rfl, ?_, fun j hj => ?_⟩⟩
        · rw [addr_addT] at h0
          exact cell_blkT h0
        · have hj' : j < len := by simpa using hj
          rw [hg j hj']
          obtain ⟨x0, x1, x2, x3, _⟩ := hF j hj'
          rw [addr_addT] at x0 x1 x2
          exact ⟨(F j).2, x0, by rw [Nat.add_assoc]; exact x1, by rw [Nat.add_assoc]; exact x2, x3⟩
    · obtain ⟨i, hi, rfl⟩ := List.mem_map.1 hp
      exact (hF i (List.mem_range.1 hi)).2.2.2.2

set_option maxRecDepth 100000 in
theorem prods_of_oneT {H : Type} {enc : TypeId × Value → H} {W : World} {fuel : Nat} {v : Value} {x : DataW H × List MemPlace}
    (hf : DataW.trod enc Tryd.prog W 0 (fun _ => true) true fuel 22 [v] = some x) : ∃ ps : List PdR, PdsM W v ps ∧ ∀ p ∈ ps, ∀ z ∈ p.right, I64 z := by
  have hc3 : Tryd.prog.cellsOf 35 = 3 := by kernel_rfl
  rcases Deep.open_slice Tryd.underlying22 hf with ⟨hcs, _⟩ | ⟨a, len, cap, m, n, D, Pl, hcs, _, hl, _, hmm, _, hx⟩
  · simp at hcs
    subst hcs
    exact ⟨[], ⟨none, 0, rfl, .inl rfl⟩, fun p hp => by simp at hp⟩
  · simp at hcs
    subst hcs
    have hmn : len ≤ m := by rw [hmm]; simpa using hl
    have each : ∀ i, ∃ q : PdR × Value, i < len → W.cell? (a.add (i * 3)) = some (.int .i64 q.1.left) ∧ W.cell? (a.add (i * 3 + 1)) = some q.2 ∧ W.cell? (a.add (i * 3 + 2)) = some (.int .i64 q.1.level) ∧ IntsR W q.2 q.1.right ∧ ∀ z ∈ q.1.right, I64 z := fun i => by
      by_cases hi : i < len
      · obtain ⟨cs', h1, h2⟩ := hx i (by omega)
        rw [hc3] at h1
        obtain ⟨_, hlen, hcell⟩ := World.cells?_some h1
        obtain ⟨xs, k, hk, hxy, _, hxl, hff⟩ := DataW.trod_struct Tryd.underlying35 h2
        match xs, hxl, cs', hlen with
        | [y0, y1, y2], _, [v0, v1, v2], _ =>
          have g0 := hff 0 _ rfl
          have g1 := hff 1 _ rfl
          have g2 := hff 2 _ rfl
          have c1 : Tryd.prog.cellsOf 3 = 1 := by kernel_rfl
          have c2 : Tryd.prog.cellsOf 23 = 1 := by kernel_rfl
          simp [c1, c2] at g0 g1 g2
          obtain ⟨z0, e0, _, _⟩ := DataW.trod_int Tryd.underlying3 g0
          obtain ⟨z2, e2, _, _⟩ := DataW.trod_int Tryd.underlying3 g2
          obtain ⟨l, hl1, hl2, _⟩ := ints_of_oneT g1
          simp at e0 e2
          have d0 := hcell 0 (by omega)
          have d1 := hcell 1 (by omega)
          have d2 := hcell 2 (by omega)
          rw [Deep.add_add] at d0 d1 d2
          exact ⟨(⟨z0, l, z2⟩, v1), fun _ => ⟨by simpa [e0] using d0, by simpa using d1, by simpa [e2] using d2, hl1, hl2⟩⟩
      · exact ⟨(noPd, .nilFunc), fun h => absurd h hi⟩
    obtain ⟨F, hF⟩ := Classical.axiomOfChoice each
    have hg : ∀ j, j < len → ((List.range len).map fun i => (F i).1).getD j noPd = (F j).1 := fun j hj => by simp [hj]
    refine ⟨(List.range len).map fun i => (F i).1, ?_, fun p hp => ?_⟩
    · by_cases hn : len = 0
      · subst hn
        exact ⟨some a, cap, by simp, .inl rfl⟩
      · obtain ⟨b, off, spot⟩ := a
        have h0 := (hF 0 (by omega)).1
        have hspot : spot = none := by simpa [Addr.add] using World.cell?_spot h0
        subst hspot
        refine ⟨_, cap, by simp, .inr ⟨b, off, rfl, ?_, fun j hj => ?_⟩⟩
        · rw [addr_addT] at h0
          exact cell_blkT h0
        · have hj' : j < len := by simpa using hj
          rw [hg j hj']
          obtain ⟨x0, x1, x2, x3, _⟩ := hF j hj'
          rw [addr_addT] at x0 x1 x2
          exact ⟨(F j).2, x0, by rw [Nat.add_assoc]; exact x1, by rw [Nat.add_assoc]; exact x2, x3⟩
    · obtain ⟨i, hi, rfl⟩ := List.mem_map.1 hp
      exact (hF i (List.mem_range.1 hi)).2.2.2.2

theorem sixT {α : Type} : ∀ (l : List α), l.length = 6 → ∃ a b c d e f, l = [a, b, c, d, e, f] := by
  intro l h
  obtain ⟨a, l, rfl⟩ := List.exists_cons_of_length_pos (l := l) (by omega)
  obtain ⟨b, l, rfl⟩ := List.exists_cons_of_length_pos (l := l) (by simp at h; omega)
  obtain ⟨c, l, rfl⟩ := List.exists_cons_of_length_pos (l := l) (by simp at h; omega)
  obtain ⟨d, l, rfl⟩ := List.exists_cons_of_length_pos (l := l) (by simp at h; omega)
  obtain ⟨e, l, rfl⟩ := List.exists_cons_of_length_pos (l := l) (by simp at h; omega)
  obtain ⟨f, l, rfl⟩ := List.exists_cons_of_length_pos (l := l) (by simp at h; omega)
  obtain rfl : l = [] := by simpa using h
  exact ⟨a, b, c, d, e, f, rfl⟩
set_option maxRecDepth 100000 in
theorem gram_of_oneT {H : Type} {enc : TypeId × Value → H} {W : World} {fuel : Nat} {cl : List Value} {x : DataW H × List MemPlace} (hcl : cl.length = 6)
    (hf : DataW.trod enc Tryd.prog W 0 (fun _ => true) true fuel 25 cl = some x) : ∃ (g : Gm) (pv lv sv : Value), cl.toArray = gvs g pv lv sv ∧ GrM W g pv lv sv ∧ WfG g := by
  obtain ⟨xs, k, hk, hxy, _, hxl, hff⟩ := DataW.trod_struct Tryd.underlying25 hf
  obtain ⟨u0, u1, u2, u3, u4, u5, rfl⟩ := sixT cl hcl
  have hxl' : xs.length = 6 := hxl
  obtain ⟨y0, y1, y2, y3, y4, y5, rfl⟩ := sixT xs hxl'
  clear hf hcl hxl hxl' hxy
  have g0 := hff 0 _ rfl
  have g1 := hff 1 _ rfl
  have g2 := hff 2 _ rfl
  have g3 := hff 3 _ rfl
  have g4 := hff 4 _ rfl
  have g5 := hff 5 _ rfl
  clear hff
  have c1 : Tryd.prog.cellsOf 3 = 1 := by kernel_rfl
  have c2 : Tryd.prog.cellsOf 23 = 1 := by kernel_rfl
  have c3 : Tryd.prog.cellsOf 22 = 1 := by kernel_rfl
  simp [c1, c2, c3] at g0 g1 g2 g3 g4 g5
  obtain ⟨z0, e0, _, _⟩ := DataW.trod_int Tryd.underlying3 g0
  obtain ⟨z1, e1, _, _⟩ := DataW.trod_int Tryd.underlying3 g1
  obtain ⟨z2, e2, _, _⟩ := DataW.trod_int Tryd.underlying3 g2
  obtain ⟨ps, hps1, hps2⟩ := prods_of_oneT g3
  obtain ⟨ls, hls1, _, _⟩ := ints_of_oneT g4
  obtain ⟨ss, hss1, _, _⟩ := ints_of_oneT g5
  simp at e0 e1 e2
  exact ⟨⟨z0, z1, z2, ps, ls, ss⟩, u3, u4, u5, by rw [e0, e1, e2]; rfl, ⟨hps1, hls1, hss1⟩, hps2⟩


/-- the cells of a table -/
def flatT : Nat → DataW Unit → List Value
  | 0, _ => []
  | n + 1, .lit (.int k z) => [.int k z]
  | n + 1, .agg l => l.flatMap (flatT n)
  | _, _ => []
/-- a world that meets the condition -/
def ttHeap (h : Array Obj) : Array Obj :=
  let put : Array Obj → Nat → Array Value → Array Obj := fun h k v => h.modify k fun
    | .cells _ t frozen => .cells v t frozen
    | o => o
  put (put (put h 1 (flatT 3 Rows.laid_math_bits_deBruijn32tab).toArray) 2 (flatT 3 Rows.laid_math_bits_deBruijn64tab).toArray) 0 (flatT 3 Rows.laid_internal_strconv_uint64pow10).toArray
theorem tt_met (os : Os) (args : Array Value) : laidMet Tryd.prog Rows.treeToldRow.laid (({ World.holding Tryd.prog os ⟨#[], #[], []⟩ with heap := ttHeap (World.holding Tryd.prog os ⟨#[], #[], []⟩).heap } : World).forCall (fun _ _ => 0) ⟨#[], args, []⟩).memory :=
  (LaidIn.of_run [1, 2, 0] 8 (by kernel_rfl) (by kernel_rfl) (by kernel_rfl) (by kernel_rfl)).met
theorem tt_row (os : Os) {H : Type} (enc : TypeId × Value → H) :
    (OpenSpec.ofChange Rows.treeToldSpec).preRow enc Tryd.prog Tryd.f3 Rows.treeToldRow.domain false Rows.treeToldRow.laid (({ World.holding Tryd.prog os ⟨#[], #[], []⟩ with heap := ttHeap (World.holding Tryd.prog os ⟨#[], #[], []⟩).heap } : World).forCall (fun _ _ => 0) ⟨#[], #[.agg #[.int .i64 0, .int .i64 0, .int .i64 0, .slice none 0 0, .slice none 0 0, .slice none 0 0], .slice none 0 0, .slice none 0 0], []⟩).memory #[.agg #[.int .i64 0, .int .i64 0, .int .i64 0, .slice none 0 0, .slice none 0 0, .slice none 0 0], .slice none 0 0, .slice none 0 0] := by
  have hw : (DataW.whole enc Tryd.prog (({ World.holding Tryd.prog os ⟨#[], #[], []⟩ with heap := ttHeap (World.holding Tryd.prog os ⟨#[], #[], []⟩).heap } : World).forCall (fun _ _ => 0) ⟨#[], #[.agg #[.int .i64 0, .int .i64 0, .int .i64 0, .slice none 0 0, .slice none 0 0, .slice none 0 0], .slice none 0 0, .slice none 0 0], []⟩).memory Tryd.f3.params.toList (OpenSpec.ofChange Rows.treeToldSpec).vars false #[Value.agg #[.int .i64 0, .int .i64 0, .int .i64 0, .slice none 0 0, .slice none 0 0, .slice none 0 0], Value.slice none 0 0, Value.slice none 0 0].toList 8).map (fun x => (x.1, x.2.1)) =
      some ([.agg [.lit (.int .i64 0), .lit (.int .i64 0), .lit (.int .i64 0), .nil, .nil, .nil], .nil, .nil], []) := by kernel_rfl
  obtain ⟨⟨x1, x2, x3⟩, hx, hx1⟩ := Option.map_eq_some_iff.1 hw
  simp only [Prod.mk.injEq] at hx1
  obtain ⟨rfl, rfl⟩ := hx1
  exact OpenSpec.preRow_of_cond 8 hx (by kernel_rfl) (fun k hk => by cases hk) (by kernel_rfl) (tt_met os _)

theorem tab_of_laid {W : World} (hL : laidMet Tryd.prog Rows.treeToldRow.laid W) : TabT W := by
  have h : Lib.VarReads Tryd.prog W "internal/strconv.uint64pow10" Rows.laid_internal_strconv_uint64pow10 := Lib.laidMet.reads hL (.tail _ (.tail _ (.head _)))
  have e : Rows.laid_internal_strconv_uint64pow10 (H := Unit) = Lib.tabData .u64 Lib.pow10Tab := by kernel_rfl
  rw [e] at h
  obtain ⟨g, t, cs, fuel, p, hg, hty, hvar, hd⟩ := h
  obtain rfl := Option.some.inj ((show Tryd.prog.globalNamed "internal/strconv.uint64pow10" = some 0 by kernel_rfl).symm.trans hg)
  obtain rfl := Option.some.inj ((show (Tryd.prog.globals[0]?).map (·.type) = some 73 by kernel_rfl).symm.trans hty)
  have hcs := Lib.cells_of_tab Tryd.underlying73 Tryd.underlying62 (by kernel_rfl) (by kernel_rfl) hd
  show Lib.TabIs _ _ _ _ _
  unfold Lib.TabIs
  rw [hvar, ← hcs]

theorem law_all (g : Gm) (ps : List TwP) (inp : List Int) (pv lv sv iv tv : Value) (w : World) (h : GrM w g pv lv sv) (hwf : WfG g) (hT : TwsR w tv ps) (hO : TwOk ps) (hI : IntsR w iv inp) (hTab : TabT w) :
    Calls Tryd.prog 3 #[gv g pv lv sv, tv, iv] w fun e w' => e = .returned (.bool true) ∧ Below w.heap.size w w' := by
  by_cases hfar : smallG g = false ∨ 12 < inp.length ∨ 60 < ps.length
  · obtain ⟨ia, ic, rfl⟩ := hI.slice
    obtain ⟨ta, tc, rfl⟩ := hT.slice
    exact law_far g ps inp pv lv sv ta ia tc ic w h hfar
  · have hs : smallG g = true := by
      cases hq : smallG g with
      | false => exact (hfar (.inl hq)).elim
      | true => rfl
    exact law_near g ps inp pv lv sv iv tv w h hwf hs hT hO hI (by omega) (by omega) hTab

set_option maxHeartbeats 2000000 in
theorem tt_lifted (os : Os) (started : os.Started) (H : Type) (enc : TypeId × Value → H) (F : Stop.Interp) :
    ReturnsInHanded {} Tryd.checked os 3 .any ((OpenSpec.ofChange Rows.treeToldSpec).preRow enc Tryd.prog Tryd.f3 Rows.treeToldRow.domain false Rows.treeToldRow.laid) (((OpenSpec.ofChange Rows.treeToldSpec).at F).post enc Tryd.prog Tryd.f3 false true false false) := by
  refine returnsInHanded_of_row (C := Tryd.checked) (s := OpenSpec.ofChange Rows.treeToldSpec) tt_own started (by kernel_rfl) Tryd.func3
    (witness_row_atRef (enc := enc) (C := Tryd.checked) false ({ World.holding Tryd.prog os ⟨#[], #[], []⟩ with heap := ttHeap (World.holding Tryd.prog os ⟨#[], #[], []⟩).heap } : World) #[.agg #[.int .i64 0, .int .i64 0, .int .i64 0, .slice none 0 0, .slice none 0 0, .slice none 0 0], .slice none 0 0, .slice none 0 0] rfl (by kernel_rfl) (by kernel_rfl) (by kernel_rfl) (tt_row os enc)) ?_
  intro W base args ds gs before hval0 hW hcnd0 _ hz hL hS _
  have hval : ∀ (j : Nat) t v, Tryd.f3.params[j]? = some t → args[j]? = some v → Value.okWide Tryd.prog W .any base t v := hval0
  have hW' := hW
  obtain ⟨p, q, hA0, hV0, rfl, _, _⟩ := hW
  have hA : DataW.TrodAll enc Tryd.prog W 0 (fun _ => true) true Tryd.f3.params.toList args.toList ds p := hA0
  rw [Tryd.params3] at hA hval
  obtain ⟨v0, vs0, d0, ds0, p0, q0, hargs, rfl, rfl, h0, r0⟩ := trodAll_cons hA
  obtain ⟨v1, vs1, d1, ds1, p1, q1, rfl, rfl, rfl, h1, r1⟩ := trodAll_cons r0
  obtain ⟨v2, vs2, d2, ds2, p2, q2, rfl, rfl, rfl, h2, r2⟩ := trodAll_cons r1
  obtain ⟨rfl, rfl, rfl⟩ := trodAll_nil r2
  obtain rfl : args = #[v0, v1, v2] := by cases args; simp_all
  obtain ⟨rfl, rfl⟩ := trodVars_none hV0
  have hL1 : Light 26 d1 := fun n hn => by
    have := List.all_eq_true.1 hz n (DataW.weights_mem_each (j := 1) (t := 26) (d := d1) rfl rfl n hn)
    simpa using this
  obtain ⟨cs, rfl, hcs⟩ := okWide_struct Tryd.underlying25 (hval 0 25 v0 rfl rfl)
  have hc6 : Tryd.prog.cellsOf 25 = 6 := by kernel_rfl
  rw [hc6] at hcs
  obtain ⟨a1, n1, c1, rfl⟩ := okWide_slice Tryd.underlying26 (hval 1 26 v1 rfl rfl)
  obtain ⟨a2, n2, c2, rfl⟩ := okWide_slice Tryd.underlying23 (hval 2 23 v2 rfl rfl)
  have k0 := h0
  have k1 := h1
  have k2 := h2
  have lt0 : ∀ x ∈ p0, x.block < W.heap.size := by obtain ⟨m, hm⟩ := k0; exact DataW.trod_lt m _ _ _ hm
  have lt1 : ∀ x ∈ p1, x.block < W.heap.size := by obtain ⟨m, hm⟩ := k1; exact DataW.trod_lt m _ _ _ hm
  have lt2 : ∀ x ∈ p2, x.block < W.heap.size := by obtain ⟨m, hm⟩ := k2; exact DataW.trod_lt m _ _ _ hm
  obtain ⟨g, pv, lv, sv, hgv, hGr, hWf⟩ : ∃ (g : Gm) (pv lv sv : Value), cs = gvs g pv lv sv ∧ GrM W g pv lv sv ∧ WfG g := by
    obtain ⟨fuel, hf⟩ := h0
    obtain ⟨cl⟩ := cs
    exact gram_of_oneT (by simpa using hcs) (by simpa [Value.cells] using hf)
  obtain ⟨ps, hPs, hPo⟩ : ∃ ps : List TwP, TwsR W (.slice a1 n1 c1) ps ∧ TwOk ps := by
    obtain ⟨fuel, hf⟩ := h1
    exact twigs_of_one (x := (d1, p1)) (by simpa [Value.cells] using hf) hL1
  obtain ⟨inp, hIn, _, _⟩ : ∃ l : List Int, IntsR W (.slice a2 n2 c2) l ∧ (∀ z ∈ l, -9223372036854775808 ≤ z ∧ z ≤ 9223372036854775807) ∧ (Light 23 d2 → l.length * 8 ≤ 140737488351232) := by
    obtain ⟨fuel, hf⟩ := h2
    exact ints_of_oneT (x := (d2, p2)) (by simpa [Value.cells] using hf)
  clear hA0 hV0 hval0
  subst hgv
  have hLaw : Calls Tryd.prog 3 #[.agg (gvs g pv lv sv), .slice a1 n1 c1, .slice a2 n2 c2] W fun e w' => e = .returned (.bool true) ∧ Below W.heap.size W w' := law_all g ps inp pv lv sv _ _ W hGr hWf hPs hPo hIn (tab_of_laid hL)
  refine hLaw.mono fun e W' ⟨he, bel⟩ => ?_
  subst he
  exact ⟨_, rfl, _, _, _, [], _, [], hW', trodAll_mk1 (shut_bool Tryd.underlying4 _), (trodAll_cons_mk (Below.trod tt_laidOut (by kernel_rfl) (of_decide_eq_true (by kernel_rfl)) k0 bel lt0) (trodAll_cons_mk (Below.trod tt_laidOut (by kernel_rfl) (of_decide_eq_true (by kernel_rfl)) k1 bel lt1) (trodAll_cons_mk (Below.trod tt_laidOut (by kernel_rfl) (of_decide_eq_true (by kernel_rfl)) k2 bel lt2) trodAll_mk0))), rfl, bel.frame _, fun h => by cases h⟩

theorem tt_row_holds : Rows.TreeToldSaid :=
  OpenClaim.holds_of_cond 3 Tryd.f3 rfl rfl rfl rfl rfl rfl rfl ⟨rfl, rfl, rfl, rfl, rfl⟩ rfl rfl rfl rfl rfl (by kernel_rfl) Tryd.func3 (by kernel_rfl)
    (of_decide_eq_true (by kernel_rfl)) (by unfold Func.isWrapper; rw [if_neg (of_decide_eq_false (by kernel_rfl))]; exact ⟨rfl, rfl⟩)
    (fun os started H enc _ F0 => by rw [OpenClaim.pre_eq_preRow]; exact tt_lifted os started H enc F0)

theorem tt_card_holds : Rows.TreeToldCardSaid :=
  Claim7.holds_tied_plain_at .later [] _ _ _ _
    tt_row_holds (fun _ h => by cases h) (by kernel_rfl) (fun _ h => by cases h) treeTold_row_tie rfl ⟨rfl, rfl⟩ (by kernel_rfl) rfl
    (fun f fn hf hfn => by
      obtain rfl : f = 3 := Option.some.inj ((show Tryd.prog.funcNamed "grammarsmith/grammarsmithlaw2.TreeTold" = some 3 by kernel_rfl).symm.trans hf) |>.symm
      obtain rfl : fn = Tryd.f3 := (Option.some.inj (Tryd.func3.symm.trans hfn)).symm
      exact ⟨by kernel_rfl, fun j t ht => by
        rw [Tryd.params3] at ht
        have h9 : t = 25 ∨ t = 26 ∨ t = 23 := by
          rcases j with _ | _ | _ | j
          · exact .inl (by simpa using ht.symm)
          · exact .inr (.inl (by simpa using ht.symm))
          · exact .inr (.inr (by simpa using ht.symm))
          · simp at ht
        rcases h9 with rfl | rfl | rfl
        · exact (show Tryd.prog.wantsStandIn 25 = false by kernel_rfl)
        · exact (show Tryd.prog.wantsStandIn 26 = false by kernel_rfl)
        · exact (show Tryd.prog.wantsStandIn 23 = false by kernel_rfl)⟩)
    (by kernel_rfl)

end Go.Proofs.YtbgklfmhmpjboaaDoor
