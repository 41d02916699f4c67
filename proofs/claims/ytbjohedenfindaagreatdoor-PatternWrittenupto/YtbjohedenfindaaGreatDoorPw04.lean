/- Texts of the proof, put together: PState, PSortN, PEdges, Plain, PPoints. -/
import Derived.Test.YtbjohedenfindaaGreatDoorPw02
import Derived.Test.YtbjohedenfindaaGreatDoorPw03
import Derived.Shelf.SlSortCmp.NoneTotal
import Derived.Maps.AppendAt
import Derived.Lib.MapLaws
import Derived.Lib.RuneBytes
import Derived.Test.YtbjohedenfindaaGreatDoorProg
import Derived.WalkKit
import Derived.WalkSpells
import Derived.WalkLawsBesides
import Derived.Lib.OthersKept
namespace Go.Proofs.YtbjohedenfindaaGreatDoor
open Go.RowKit
set_option linter.unusedVariables false
set_option maxRecDepth 100000

/-- the memory of a sweep: the question, the depths, the answer so far, the edges -/
structure StS (W0 : World) (B0 F D O td g : Nat) (v1 : Value) (E : List Eg) (W : World) (d0 d1 : Int) (v : Value) (out : List Rg) : Prop where
  cF : W.cell? ⟨F, 0, none⟩ = some (.func (.func g) #[] #[])
  hD : W.heap[D]? = some (.cells #[.int .i64 d0, .int .i64 d1] td (0, 0))
  hO : W.heap[O]? = some (.cells #[v] 33 (0, 0))
  own : OwnR W W0.heap.size v out
  edg : EdgesAt W W0.heap.size v1 E
  bel : Below B0 W0 W

theorem EdgesAt.keep {w w' : World} {B : Nat} {v : Value} {E : List Eg} (h : EdgesAt w B v E) (hk : ∀ (k : Nat) (cur : Array Value), B ≤ k → w.heap[k]? = some (Obj.cells cur 207 (0, 0)) → w'.heap[k]? = w.heap[k]?) : EdgesAt w' B v E := by
  rcases h with h | ⟨g, c, rfl, hB, ⟨cur, hg⟩, hc⟩
  · exact Or.inl h
  · have e := hk g cur hB hg
    exact Or.inr ⟨g, c, rfl, hB, ⟨cur, by rw [e]; exact hg⟩, fun j hj c hc3 => (World.cell?_of_block (a := ⟨g, j * 3 + c, none⟩) e).trans (hc j hj c hc3)⟩

section
variable {W0 : World} {B0 F D O td g : Nat} {v1 : Value} {E : List Eg} {W : World} {d0 d1 : Int} {v : Value} {out : List Rg}

theorem StS.size (h : StS W0 B0 F D O td g v1 E W d0 d1 v out) : W0.heap.size ≤ W.heap.size := h.bel.size

/-- a world that is grown at no row, or at the answer's -/
theorem StS.grown (h : StS W0 B0 F D O td g v1 E W d0 d1 v out) {W' : World} {v' : Value} {out' : List Rg} (hg : W.grownBy W' v.ownBlock) (hF : F < W0.heap.size) (hD : D < W0.heap.size) (hO : O < W0.heap.size) (hB : B0 ≤ W0.heap.size) (ho : OwnR W' W0.heap.size v' out') :
    W'.cell? ⟨F, 0, none⟩ = some (.func (.func g) #[] #[]) ∧ W'.heap[D]? = some (.cells #[.int .i64 d0, .int .i64 d1] td (0, 0)) ∧ W'.heap[O]? = some (.cells #[v] 33 (0, 0)) ∧ EdgesAt W' W0.heap.size v1 E ∧ Below B0 W0 W' := by
  have hs := h.size
  have hlt := World.ownsRow.lt h.own
  have hne : ∀ k, k < W0.heap.size → some k ≠ v.ownBlock := fun k hk e => by have := (hlt k e.symm).1; omega
  refine ⟨(World.cell?_of_block (a := ⟨F, 0, none⟩) (hg.block F (by omega) (hne F hF))).trans h.cF, (hg.block D (by omega) (hne D hD)).trans h.hD, (hg.block O (by omega) (hne O hO)).trans h.hO, ?_, h.bel.grown hg (by omega) (fun k hk => by have := (hlt k hk).1; omega)⟩
  refine h.edg.keep (fun k cur hk hc => hg.block k (Array.getElem?_eq_some_iff.1 hc).1 (fun e => ?_))
  obtain ⟨cc, fz, hcc⟩ := Lib.ownsRow_kind h.own k e.symm
  rw [hc] at hcc
  simp at hcc

theorem StS.alloc (h : StS W0 B0 F D O td g v1 E W d0 d1 v out) (hF : F < W0.heap.size) (hD : D < W0.heap.size) (hO : O < W0.heap.size) (hB : B0 ≤ W0.heap.size) (o : Obj) : StS W0 B0 F D O td g v1 E (W.alloc o) d0 d1 v out := by
  have ho : OwnR (W.alloc o) W0.heap.size v out := World.ownsRow.alloc h.own o
  obtain ⟨a, b, c, d, e⟩ := h.grown (World.grownBy_alloc W o _) hF hD hO hB ho
  exact ⟨a, b, c, ho, d, e⟩

theorem StS.still (h : StS W0 B0 F D O td g v1 E W d0 d1 v out) {W' : World} (hg : W.grownBy W' none) (hF : F < W0.heap.size) (hD : D < W0.heap.size) (hO : O < W0.heap.size) (hB : B0 ≤ W0.heap.size) : StS W0 B0 F D O td g v1 E W' d0 d1 v out := by
  have ho : OwnR W' W0.heap.size v out := World.ownsRow.kept h.own hg (by
    cases hv : v.ownBlock with
    | none => exact Or.inl rfl
    | some k => exact Or.inr (by simp))
  have hg2 : W.grownBy W' v.ownBlock := ⟨hg.os, hg.tape, hg.output, hg.size, fun k hk _ => hg.block k hk (by simp)⟩
  obtain ⟨a, b, c, d, e⟩ := h.grown hg2 hF hD hO hB ho
  exact ⟨a, b, c, ho, d, e⟩

theorem heap_set (w : World) (b o : Nat) (cs : Array Value) (t : TypeId) (u : Value) (h : w.heap[b]? = some (.cells cs t (0, 0))) : (w.setCell ⟨b, o, none⟩ u).heap[b]? = some (.cells (cs.setIfInBounds o u) t (0, 0)) := by
  simp [World.setCell, Array.getElem?_modify, h]

theorem StS.put (h : StS W0 B0 F D O td g v1 E W d0 d1 v out) {W1 : World} {v' : Value} {out' : List Rg} (hg : W.grownBy W1 v.ownBlock) (hF : F < W0.heap.size) (hD : D < W0.heap.size) (hO : O < W0.heap.size) (hB : B0 ≤ W0.heap.size) (hBO : B0 ≤ O) (hFO : F ≠ O) (hDO : D ≠ O) (ho : OwnR W1 W0.heap.size v' out') :
    StS W0 B0 F D O td g v1 E (W1.setCell ⟨O, 0, none⟩ v') d0 d1 v' out' := by
  obtain ⟨a, b, c, d, e⟩ := h.grown hg hF hD hO hB ho
  refine ⟨?_, ?_, ?_, ownsRow_setCell_below ho hO _, d.keep (fun k cur hk hc => Below.heap_setCell _ _ _ _ (fun e => by simp at e; omega)), e.setCell (p := ⟨O, 0, none⟩) hBO _⟩
  · rw [World.cell?_of_block (Below.heap_setCell _ _ _ _ hFO)]; exact a
  · rw [Below.heap_setCell _ _ _ _ hDO]; exact b
  · rw [heap_set _ _ _ _ _ _ c]; rfl

theorem StS.turn (h : StS W0 B0 F D O td g v1 E W d0 d1 v out) (hF : F < W0.heap.size) (hD : D < W0.heap.size) (hO : O < W0.heap.size) (hBD : B0 ≤ D) (hFD : F ≠ D) (hDO : D ≠ O) (s : Nat) (u e0 e1 : Int) (he : (#[Value.int .i64 d0, Value.int .i64 d1] : Array Value).setIfInBounds s (.int .i64 u) = #[.int .i64 e0, .int .i64 e1]) :
    StS W0 B0 F D O td g v1 E (W.setCell ⟨D, s, none⟩ (.int .i64 u)) e0 e1 v out := by
  refine ⟨?_, ?_, ?_, ownsRow_setCell_below h.own hD _, h.edg.keep (fun k cur hk hc => Below.heap_setCell _ _ _ _ (fun e => by simp at e; omega)), h.bel.setCell (p := ⟨D, s, none⟩) hBD _⟩
  · rw [World.cell?_of_block (Below.heap_setCell _ _ _ _ hFD)]; exact h.cF
  · rw [heap_set _ _ _ _ _ _ h.hD, he]
  · rw [Below.heap_setCell _ _ _ _ (Ne.symm hDO)]; exact h.hO
end

theorem sumS_snoc (A : List Eg) (e : Eg) (s : Int) : sumS (A ++ [e]) s = sumS A s + if e.2.1 = s then e.2.2 else 0 := by
  unfold sumS; rw [sumBy_append]; simp [sumBy]
theorem sumS_bd (s : Int) : ∀ (A : List Eg), (∀ e ∈ A, e.2.2 = 1 ∨ e.2.2 = -1) → -(A.length : Int) ≤ sumS A s ∧ sumS A s ≤ A.length
  | [], _ => by simp [sumS, sumBy]
  | e :: t, h => by
    have ih := sumS_bd s t (fun x hx => h x (by simp [hx]))
    have he := h e (by simp)
    have e1 : sumS (e :: t) s = (if e.2.1 = s then e.2.2 else 0) + sumS t s := rfl
    rw [e1]
    simp only [List.length_cons]
    split <;> omega

end Go.Proofs.YtbjohedenfindaaGreatDoor

namespace Go.Proofs.YtbjohedenfindaaGreatDoor
open Go.Shelf Go.RowKit Go.Lib Go.Sort
set_option linter.unusedVariables false
set_option maxRecDepth 100000

theorem sort_none (a : Option Addr) (c : Nat) (fv : Value) (w : World) : Calls Tryz.prog 166 #[.slice a 0 c, fv] w fun e w' => e = .returned (.tuple #[]) ∧ w' = w := by
  have := AnyF.slices_SortFunc_none Tryz.sortEdge a c fv w
  change Calls Tryz.prog 166 _ _ _ at this
  exact this


end Go.Proofs.YtbjohedenfindaaGreatDoor

namespace Go.Proofs.YtbjohedenfindaaGreatDoor
open Go.RowKit Go.Shelf
open Go.Sort (putRow mapBlock putCells onCells HoldsK size_flatK get_flatK holdsK_grow holdsK_putRowK holdsK_ahead putRowK flatK)
set_option linter.unusedVariables false
set_option maxRecDepth 100000

theorem Tryz.infoEdge : (Tryz.prog.info? 207).map (fun i => (i.zero, i.size, i.bytes)) = some (some (.agg #[.int .i64 0, .int .i64 0, .int .i64 0]), 3, 24) := by kernel_rfl

def SetsAt (w : World) (vs : Value) (ls : List (List Rg)) : Prop :=
  (ls = [] ∧ ∃ a c, vs = .slice a 0 c) ∨ ∃ b off c, vs = .slice (some ⟨b, off, none⟩) ls.length c ∧ b < w.heap.size ∧ ∀ j, j < ls.length → ∃ vj, w.cell? ⟨b, off + j, none⟩ = some vj ∧ Rngs w vj (ls.getD j [])

theorem gen_snoc : ∀ (ls : List (List Rg)) (i : Int) (l : List Rg), gen i (ls ++ [l]) = gen i ls ++ genS (i + ls.length) l
  | [], i, l => by simp [gen]
  | x :: t, i, l => by
    have ih := gen_snoc t (i + 1) l
    have e : i + 1 + (t.length : Int) = i + ((t.length + 1 : Nat) : Int) := by omega
    simp only [List.cons_append, gen, ih, List.append_assoc, List.length_cons, e]
theorem gen_take (ls : List (List Rg)) (k : Nat) (h : k < ls.length) : gen 0 (ls.take (k + 1)) = gen 0 (ls.take k) ++ genS k (ls.getD k []) := by
  rw [List.take_succ_eq_append_getElem h, gen_snoc]
  have e1 : (0 : Int) + ((ls.take k).length : Int) = (k : Int) := by simp; omega
  rw [e1]
  simp [h]
theorem genS_take (i : Int) (l : List Rg) (j : Nat) (h : j < l.length) : genS i (l.take (j + 1)) = genS i (l.take j) ++ genR i (l.getD j (0, 0)) := by
  have e : l.getD j (0, 0) = l[j] := by simp [h]
  unfold genS
  rw [e, List.take_succ_eq_append_getElem h, List.flatMap_append]
  simp only [List.flatMap_cons, List.flatMap_nil, List.append_nil]
theorem gen_len : ∀ (ls : List (List Rg)) (i : Int) (M : Nat), (∀ l ∈ ls, l.length ≤ M) → (gen i ls).length ≤ ls.length * (2 * M)
  | [], _, _, _ => by simp [gen]
  | l :: t, i, M, h => by
    have h1 := genS_len i l
    have h2 := gen_len t (i + 1) M (fun x hx => h x (by simp [hx]))
    have h3 := h l (by simp)
    simp only [gen, List.length_append, List.length_cons, Nat.add_mul]
    omega

theorem own_two {w : World} {B n : Nat} {v : Value} {E : List Eg} {a b c d e f : Int} (hn : E.length = n) (h : w.ownsRow B 207 3 v (n + 2) (cellsE E ++ [.int .i64 a, .int .i64 b, .int .i64 c, .int .i64 d, .int .i64 e, .int .i64 f])) : OwnE w B v (E ++ [(a, b, c), (d, e, f)]) := by
  subst hn
  unfold OwnE
  rw [cellsE_append]
  simpa [cellsE, encE] using h

theorem enc_at (x : Eg) : ∀ (c : Nat), c < 3 → (encE x)[c]? = some (encE x)[c]!
  | 0, _ => rfl
  | 1, _ => rfl
  | 2, _ => rfl

theorem holds_own {w : World} {B g cap : Nat} {E : List Eg} (h : OwnE w B (.slice (some ⟨g, 0, none⟩) E.length cap) E) : HoldsK encE 3 w g 0 E.toArray := by
  unfold OwnE at h
  have hcell := h.cellAt
  rcases h.2 with ⟨h', _⟩ | ⟨g', cap', cur, h', hbg, hg, _⟩
  · simp at h'
  · simp only [Value.slice.injEq, Option.some.injEq, Addr.mk.injEq, and_true, true_and] at h'
    obtain ⟨rfl, rfl⟩ := h'
    intro j hj
    rw [size_flatK] at hj
    have hj3 : j < E.length * 3 := by simpa using hj
    have hq : j / 3 < E.length := by omega
    have hr : j % 3 < 3 := Nat.mod_lt _ (by omega)
    refine ⟨?_, by simp [World.frozen?, hg]⟩
    rw [Nat.zero_add, hcell j (by omega)]
    have e1 : j = j / 3 * 3 + j % 3 := by omega
    rw [get_flatK _ _ _ _ (by simpa using hj3)]
    conv => lhs; rw [e1]
    rw [cellsE_get E (j / 3) (j % 3) hq hr]
    have e2 : (E.toArray)[j / 3]! = E.getD (j / 3) (0, 0, 0) := by simp [hq]
    rw [e2]
    exact enc_at _ _ hr

theorem sort_own (B : Nat) (v : Value) (E : List Eg) (w : World) (hO : OwnE w B v E) (hl : E.length ≤ 100000000) :
    Calls Tryz.prog 166 #[v, .func (.func 167) #[] #[]] w fun e w' => e = .returned (.tuple #[]) ∧ ∃ E', E'.Perm E ∧ Asc E' ∧ EdgesAt w' B v E' ∧ w.grownBy w' v.ownBlock := by
  by_cases hne : E = []
  · subst hne
    have hv : ∃ a c, v = .slice a 0 c := by
      rcases hO.2 with ⟨rfl, _⟩ | ⟨g, cap, cur, rfl, _⟩
      · exact ⟨_, _, rfl⟩
      · exact ⟨_, _, rfl⟩
    obtain ⟨a, c, rfl⟩ := hv
    refine (sort_none a c _ w).mono ?_
    rintro e w' ⟨rfl, rfl⟩
    exact ⟨rfl, [], List.Perm.refl _, List.Pairwise.nil, Or.inl ⟨rfl, _, _, rfl⟩, World.grownBy.refl _ _⟩
  · have hpos := List.length_pos_iff.2 hne
    have hlt := World.ownsRow.lt hO
    rcases hO.2 with ⟨rfl, h0⟩ | ⟨g, cap, cur, rfl, hbg, hg, _⟩
    · omega
    · have hgs := (hlt g rfl).2
      have hH := holds_own hO
      have hs := sort_some g cap E.toArray w hH hgs (by simp; omega)
      simp only [List.size_toArray] at hs
      refine hs.mono ?_
      rintro e w' ⟨rfl, d', n, os, hp, hsd, rfl⟩
      have hsz : d'.size = E.length := by simpa using hp.1
      have hH2 : HoldsK encE 3 (sortWorldK encE 3 w g 0 n d' os) g 0 d' :=
        holdsK_grow _ _ _ _ _ _ _ (by simpa [putRowK, putRow, mapBlock, Sort.ahead] using hgs) (holdsK_putRowK _ _ _ _ _ _ _ (holdsK_ahead _ _ _ _ _ _ _ hH) (by simpa using hsz))
      have hblock : ∀ k, k < w.heap.size → k ≠ g → (sortWorldK encE 3 w g 0 n d' os).heap[k]? = w.heap[k]? := fun k hk hkg => by
        simp [sortWorldK, Sort.grow, putRowK, putRow, mapBlock, Sort.ahead, Array.getElem?_append, Array.getElem_modify, hk, Ne.symm hkg]
      refine ⟨rfl, d'.toList, ?_, ?_, Or.inr ⟨g, cap, by simp [hsz], hbg, ?_, fun j hj c hc => ?_⟩, ⟨rfl, rfl, rfl, by simp [sortWorldK, Sort.grow, putRowK, putRow, mapBlock, Sort.ahead], fun k hk hkr => hblock k hk (fun e => hkr (by rw [e]; rfl))⟩⟩
      · have := hp.2.2
        have e1 : d'.extract 0 E.length = d' := by rw [← hsz]; simp
        rw [e1] at this
        simpa using this
      · unfold Asc
        rw [List.pairwise_iff_getElem]
        intro i j hi hj hij
        have h1 := hsd i j (Nat.zero_le _) hij (by simp at hj; omega)
        rw [ltAt] at h1
        simp at h1 hi hj
        simp only [Array.getElem_toList]
        have e1 : d'[i]! = d'[i] := by simp [hi]
        have e2 : d'[j]! = d'[j] := by simp [hj]
        rw [e1, e2] at h1
        omega
      · refine ⟨putCells id 0 (flatK encE 3 d') cur, ?_⟩
        have hgg := (Array.getElem?_eq_some_iff.1 hg).2
        simp [sortWorldK, Sort.grow, putRowK, putRow, mapBlock, Sort.ahead, Array.getElem?_append, Array.getElem_modify, hgs, hgg, onCells]
      · have hj' : j < d'.size := by simpa using hj
        have := (hH2.cell hj' hc).1
        rw [Nat.zero_add] at this
        rw [this]
        have e1 : d'[j]! = d'.toList.getD j (0, 0, 0) := by simp [hj']
        rw [e1]
        exact (enc_at _ _ hc).symm

set_option maxHeartbeats 2000000 in
theorem edgesOf_row (b off c : Nat) (ls : List (List Rg)) (w : World) (hl : ls.length ≤ 1000) (K : Nat) (hK1 : K ≤ 400000) (hK : ls.length * (2 * K) ≤ 40000000) (hll : ∀ l ∈ ls, l.length ≤ K) (hb : b < w.heap.size) (hs : ∀ j, j < ls.length → ∃ vj, w.cell? ⟨b, off + j, none⟩ = some vj ∧ Rngs w vj (ls.getD j [])) :
    Calls Tryz.prog 151 #[.slice (some ⟨b, off, none⟩) ls.length c] w fun e w' => ∃ v' E, e = .returned v' ∧ E.Perm (gen 0 ls) ∧ Asc E ∧ EdgesAt w' w.heap.size v' E ∧ Below w.heap.size w w' := by
  obtain ⟨i0, hi0, hz0, hz1, hz2⟩ := info_parts Tryz.infoEdge
  go_enter Tryz.func151, Tryz.ntmps151
  go_wp2
  go_loopw [3, 12] (fun v i wr => ∃ k : Nat, k ≤ ls.length ∧ i = .int .i64 k ∧ OwnE wr w.heap.size v (gen 0 (ls.take k)) ∧ Below w.heap.size w wr) (fun _ i _ => ls.length - (intOf i).toNat)
  case atStart => exact ⟨0, Nat.zero_le _, rfl, World.ownsRow_nil _ _ _ _, Below.refl _ _⟩
  case round =>
    obtain ⟨k, hk, rfl, hO, hbw⟩ := hrel
    have hsz := hbw.size
    by_cases hlt : k < ls.length
    · obtain ⟨vj, hcj0, hR0⟩ := hs k hlt
      have hcj := (hbw.cell (p := ⟨b, off + k, none⟩) hb).trans hcj0
      have hml : ls.getD k [] ∈ ls := by simp [hlt]
      have hlk := hll _ hml
      have hgt := gen_take ls k hlt
      have hgl := gen_len (ls.take k) 0 K (fun l h => hll l (List.mem_of_mem_take h))
      have htk : (ls.take k).length ≤ k := List.length_take_le _ _
      have hgl2 : (gen 0 (ls.take k)).length ≤ 40000000 := by
        have h1 : (ls.take k).length * (2 * K) ≤ ls.length * (2 * K) := Nat.mul_le_mul_right _ (by omega)
        exact Nat.le_trans hgl (Nat.le_trans h1 hK)
      generalize hlj : ls.getD k [] = l at *
      have HL : Hid (ls.getD k [] = l) := hlj
      clear hlj hs hgl
      have HG : Hid (gen 0 (ls.take (k + 1)) = gen 0 (ls.take k) ++ genS k l) := hgt
      clear hgt
      generalize gen 0 (ls.take k) = E0 at *
      rcases hR0 with ⟨rfl, a, c', rfl⟩ | ⟨rb, roff, rc, rfl, hrb, hrc⟩
      · go_wp2
        refine wp_loop_rounds 1 ?_
        rw [rounds_succ]
        go_wp2
        go_roundw
        case rel => exact ⟨k + 1, by omega, by go_num, by rw [HG.out]; simpa [genS] using hO, hbw⟩
        case measure => simp [intOf]; omega
      · go_wp2
        go_loopw [3, 19] (fun v i wq => ∃ j : Nat, j ≤ l.length ∧ i = .int .i64 j ∧ OwnE wq w.heap.size v (E0 ++ genS k (l.take j)) ∧ Below w.heap.size w wq) (fun _ i _ => l.length - (intOf i).toNat)
        case atStart => exact ⟨0, Nat.zero_le _, rfl, by simpa [genS] using hO, hbw⟩
        case round =>
          obtain ⟨j, hj, rfl, hOj, hbj⟩ := hrel
          clear hO hbw hcj
          have hszj := hbj.size
          by_cases hjl : j < l.length
          · obtain ⟨c0a, c1a⟩ := hrc j hjl
            have c0 := (hbj.cell (p := ⟨rb, roff + j * 2, none⟩) hrb).trans c0a
            have c1 := (hbj.cell (p := ⟨rb, roff + j * 2 + 1, none⟩) hrb).trans c1a
            clear c0a c1a
            have hgs := genS_take k l j hjl
            have hln := genS_len k (l.take j)
            have hlt2 : (l.take j).length ≤ j := List.length_take_le _ _
            generalize hr : l.getD j (0, 0) = r at *
            have HR : Hid (l.getD j (0, 0) = r) := hr
            clear hr
            have HS : Hid (genS k (l.take (j + 1)) = genS k (l.take j) ++ genR k r) := hgs
            clear hgs
            obtain ⟨lo, hi⟩ := r
            simp only at c0 c1
            go_wp2
            go_region
            have hbA : Below w.heap.size w (wr.alloc (.cells #[.int .i64 lo, .int .i64 hi] 101)) := hbj.alloc hszj _
            have hOA : OwnE (wr.alloc (.cells #[.int .i64 lo, .int .i64 hi] 101)) w.heap.size u3 (E0 ++ genS k (l.take j)) := World.ownsRow.alloc hOj _
            have hsA := hbA.size
            have hm0 : 0 ≤ max lo 0 := by omega
            have hm1 : min hi 1114111 ≤ 1114111 := by omega
            have HRn : Hid (¬ max lo 0 ≤ min hi 1114111 → genR k (lo, hi) = []) := fun h => by unfold genR; rw [if_neg h]
            have HRy : Hid (max lo 0 ≤ min hi 1114111 → genR k (lo, hi) = [(max lo 0, (k : Int), 1), (min hi 1114111 + 1, (k : Int), -1)]) := fun h => by unfold genR; rw [if_pos h]
            clear hOj hbj hszj c0 c1
            generalize max lo 0 = xa at *
            generalize min hi 1114111 = xb at *
            generalize hWA : wr.alloc (.cells #[.int .i64 lo, .int .i64 hi] 101) = WA at *
            clear hWA
            by_cases hle : xa ≤ xb
            · have HG2 : Hid (E0 ++ genS k (l.take (j + 1)) = (E0 ++ genS k (l.take j)) ++ [(xa, (k : Int), 1), (xb + 1, (k : Int), -1)]) := by
                show _ = _
                rw [HS.out, HRy.out hle, List.append_assoc]
              have hlE : (E0 ++ genS k (l.take j)).length ≤ 41000000 := by rw [List.length_append]; omega
              clear HRn HRy HS
              go_wp2_with (at_builtin; refine wpList_append_own _ rfl _ _ 204 rfl w.heap.size 207 i0 (.agg #[.int .i64 0, .int .i64 0, .int .i64 0]) 3 24 Tryz.underlying204 hi0 hz0 hz1 hz2 rfl (by decide) _ (E0 ++ genS k (l.take j)).length (cellsE (E0 ++ genS k (l.take j))) rfl ?c0 ⟨WA.heap.size, 0, none⟩ 2 2 [.int .i64 xa, .int .i64 k, .int .i64 1, .int .i64 (xb + 1), .int .i64 k, .int .i64 (-1)] rfl rfl ?c1 ?c2 ?c3 ?c4 ?c5 ?_)
              case c0 => exact World.ownsRow.alloc hOA _
              case c1 =>
                intro i u hi2
                match i, hi2 with
                | 0, hi2 => simp at hi2; subst hi2; rw [add_off']; show (WA.alloc _).cell? ⟨WA.heap.size, _, none⟩ = _; rw [new_cell _ _ _ _ _ rfl]; rfl
                | 1, hi2 => simp at hi2; subst hi2; rw [add_off']; show (WA.alloc _).cell? ⟨WA.heap.size, _, none⟩ = _; rw [new_cell _ _ _ _ _ rfl]; rfl
                | 2, hi2 => simp at hi2; subst hi2; rw [add_off']; show (WA.alloc _).cell? ⟨WA.heap.size, _, none⟩ = _; rw [new_cell _ _ _ _ _ rfl]; rfl
                | 3, hi2 => simp at hi2; subst hi2; rw [add_off']; show (WA.alloc _).cell? ⟨WA.heap.size, _, none⟩ = _; rw [new_cell _ _ _ _ _ rfl]; rfl
                | 4, hi2 => simp at hi2; subst hi2; rw [add_off']; show (WA.alloc _).cell? ⟨WA.heap.size, _, none⟩ = _; rw [new_cell _ _ _ _ _ rfl]; rfl
                | 5, hi2 => simp at hi2; subst hi2; rw [add_off']; show (WA.alloc _).cell? ⟨WA.heap.size, _, none⟩ = _; rw [new_cell _ _ _ _ _ rfl]; rfl
              case c2 => intro u hu; simp at hu; rcases hu with rfl | rfl | rfl | rfl | rfl | rfl <;> rfl
              case c3 => unfold maxLen; omega
              case c4 => omega
              case c5 => simp; omega
              intro v' w1 hown' hgrow _
              have hO2 := own_two (E := E0 ++ genS k (l.take j)) List.length_append hown'
              have hb2 : Below w.heap.size w w1 := (hbA.alloc hsA _).grown (row := u3.ownBlock) ⟨hgrow.os, hgrow.tape, hgrow.output, hgrow.size, hgrow.block⟩ (by simp; omega) (fun q hq => (World.ownsRow.lt hOA q hq).1)
              clear hown' hgrow hOA hbA
              go_wp2
              go_roundw
              case rel => exact ⟨j + 1, by omega, by go_num, by rw [HG2.out]; exact hO2, hb2⟩
              case measure => simp [intOf]; omega
            · have HG2 : Hid (genS k (l.take (j + 1)) = genS k (l.take j)) := by
                show _ = _
                rw [HS.out, HRn.out hle, List.append_nil]
              clear HRn HRy HS
              go_wp2
              go_roundw
              case rel => exact ⟨j + 1, by omega, by go_num, by rw [HG2.out]; exact hOA, hbA.drew⟩
              case measure => simp [intOf]; omega
          · have HT : Hid (l.take j = l) := List.take_of_length_le (by omega)
            go_wp2
            go_roundw
            case rel => exact ⟨k + 1, by omega, by go_num, by rw [HG.out, ← HT.out]; exact hOj, hbj⟩
            case measure => simp [intOf]; omega
    · have HT : Hid (ls.take k = ls) := List.take_of_length_le (by omega)
      have hO2 : OwnE wr w.heap.size u3 (gen 0 ls) := by have := hO; rw [HT.out] at this; exact this
      have hgl : (gen 0 ls).length ≤ 40000000 := by
        have h1 := gen_len ls 0 K hll
        exact Nat.le_trans h1 hK
      clear hO hs hll
      go_wp2_with fail
      refine (sort_own w.heap.size u3 (gen 0 ls) wr hO2 (by omega)).mono ?_
      rintro e w1 ⟨rfl, E, hp, ha, hat, hg⟩
      have hb2 : Below w.heap.size w w1 := hbw.grown hg hsz (fun q hq => (World.ownsRow.lt hO2 q hq).1)
      clear hg hO2 hbw
      go_wp2
      go_ret
      exact ⟨_, E, rfl, hp, ha, hat, hb2⟩

end Go.Proofs.YtbjohedenfindaaGreatDoor

namespace Go.Proofs.YtbjohedenfindaaGreatDoor
open Go.Lib

/-- does the place hold a code point? -/
def okAt (s : ByteArray) (pos : Nat) : Bool := !((Utf8.decode s pos).1 == 65533 && (Utf8.decode s pos).2 == 1)

theorem dec_width (s : ByteArray) (pos : Nat) : 1 ≤ (Utf8.decode s pos).2 := by
  rw [← decodeL_drop]; exact decodeL_width _

theorem dec_rune (s : ByteArray) (pos : Nat) : (Utf8.decode s pos).1 ≤ 1114111 := by
  rw [← decodeL_drop]; exact decodeL_rune _

theorem dec_le (s : ByteArray) (pos : Nat) (h : pos < s.size) : pos + (Utf8.decode s pos).2 ≤ s.size := by
  rw [← decodeL_drop]
  have hne : s.data.toList.drop pos ≠ [] := by
    intro e
    have := congrArg List.length e
    simp at this
    have h2 : s.size = s.data.size := rfl
    omega
  have := decodeL_le _ hne
  simp at this
  have h2 : s.size = s.data.size := rfl
  omega

end Go.Proofs.YtbjohedenfindaaGreatDoor

namespace Go.Proofs.YtbjohedenfindaaGreatDoor
open Go.RowKit
set_option linter.unusedVariables false
set_option maxRecDepth 100000

theorem Tryz.infoInt : (Tryz.prog.info? 3).map (fun i => (i.zero, i.size, i.bytes)) = some (some (.int .i64 0), 1, 8) := by kernel_rfl

end Go.Proofs.YtbjohedenfindaaGreatDoor
