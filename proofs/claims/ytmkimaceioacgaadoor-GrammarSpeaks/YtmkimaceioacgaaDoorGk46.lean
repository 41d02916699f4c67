/- Texts of the proof, put together: GBhP, GUsd, GBhW, GFlC, GFlW, GExp, GExpF. -/
import Derived.Test.YtmkimaceioacgaaDoorGk37
import Derived.Test.YtmkimaceioacgaaDoorGk45
import Derived.Test.YtmkimaceioacgaaDoorGk12
import Derived.Deep.RegionWith
import Derived.Deep.DeepCutAuto
import Derived.Test.YtmkimaceioacgaaDoorGk15
import Derived.Test.YtmkimaceioacgaaDoorGk19
import Derived.Test.YtmkimaceioacgaaDoorGk43
namespace Go.Proofs.YtmkimaceioacgaaDoor
set_option linter.unusedVariables false

theorem wid_drop {f : Nat → Nat} {e : Nat → Bool} {r : List Int} (h : widS f e r) (k : Nat) : widS f e (r.drop k) := fun s hs => h s (List.mem_of_mem_drop hs)
theorem opn_bh {N : Nat} {ps : List PdR} (hG : GOkM N ps) {L : List Nat} (hL : FsOk N ps L) {p : PdR} (hp : p ∈ ps) (hk : keepP N ps p = true) (k t : Nat) : (opnS (factM L) (hgtB false (prsS ps) N) (p.right.drop (k + 1))).1.testBit t = true ↔ bhP N ps p.right k t := by
  rw [opn_bit _ _ _ _ (wid_drop (keep_wid hG hL.liv hp hk) (k + 1))]
  unfold bhP
  refine exists_congr fun j => and_congr_right fun ha => ?_
  unfold brgP
  refine or_congr_right ⟨?_, ?_⟩
  · rintro ⟨m, h1, h2⟩
    refine ⟨m, h1, (hL.bit m ?_ t).1 h2⟩
    have h3 := ha.1
    rw [List.length_drop] at h3
    have := ((hG.mem hp).2.2 (k + 1 + j) (by omega)).1
    rw [show (p.right.drop (k + 1)).getD j 0 = p.right.getD (k + 1 + j) 0 by simp [List.getD]] at h1
    omega
  · rintro ⟨m, h1, h2⟩
    refine ⟨m, h1, (hL.bit m ?_ t).2 h2⟩
    have h3 := ha.1
    rw [List.length_drop] at h3
    have := ((hG.mem hp).2.2 (k + 1 + j) (by omega)).1
    rw [show (p.right.drop (k + 1)).getD j 0 = p.right.getD (k + 1 + j) 0 by simp [List.getD]] at h1
    omega
/-- so far -/
def bhN (N T : Nat) (ps : List PdR) (s : Int) (q k n t : Nat) : Prop := ((n : Int) = s ∧ t = T ∧ hgtB true (prsS ps) N n = true) ∨ (∃ q', q' < q ∧ usdP N ps s q' ∧ ∃ k', k' < (ps.getD q' noPd).right.length ∧ nxP N ps (ps.getD q' noPd) n k' t) ∨ (usdP N ps s q ∧ ∃ k', k' < k ∧ nxP N ps (ps.getD q noPd) n k' t)
def hsP (N : Nat) (ps : List PdR) (p : PdR) (n m k : Nat) : Prop := p.left = (m : Int) ∧ -1 - p.right.getD k 0 = (n : Int) ∧ hasB false (hgtB false (prsS ps) N) (p.right.drop (k + 1)) = true
def bhR (N : Nat) (ps : List PdR) (s : Int) (q k n m : Nat) : Prop := (∃ q', q' < q ∧ usdP N ps s q' ∧ ∃ k', k' < (ps.getD q' noPd).right.length ∧ hsP N ps (ps.getD q' noPd) n m k') ∨ (usdP N ps s q ∧ ∃ k', k' < k ∧ hsP N ps (ps.getD q noPd) n m k')
theorem bh_nextG {Q : Nat → Nat → Prop} {U : Nat → Prop} {ln : Nat → Nat} (q k : Nat) (hk : U q → k = ln q) : ((∃ q', q' < q ∧ U q' ∧ ∃ k', k' < ln q' ∧ Q q' k') ∨ (U q ∧ ∃ k', k' < k ∧ Q q k')) ↔ ((∃ q', q' < q + 1 ∧ U q' ∧ ∃ k', k' < ln q' ∧ Q q' k') ∨ (U (q + 1) ∧ ∃ k', k' < 0 ∧ Q (q + 1) k')) := by
  constructor
  · rintro (⟨q', h1, h2⟩ | ⟨h1, k', h2, h3⟩)
    · exact .inl ⟨q', by omega, h2⟩
    · exact .inl ⟨q, by omega, h1, k', by rw [← hk h1]; exact h2, h3⟩
  · rintro (⟨q', h1, h2, k', h3, h4⟩ | ⟨_, k', h2, _⟩)
    · by_cases e : q' = q
      · subst e; exact .inr ⟨h2, k', by rw [hk h2]; exact h3, h4⟩
      · exact .inl ⟨q', by omega, h2, k', h3, h4⟩
    · omega
theorem bh_stepG {Q : Nat → Nat → Prop} {U : Nat → Prop} {ln : Nat → Nat} (q k : Nat) : ((∃ q', q' < q ∧ U q' ∧ ∃ k', k' < ln q' ∧ Q q' k') ∨ (U q ∧ ∃ k', k' < k + 1 ∧ Q q k')) ↔ ((∃ q', q' < q ∧ U q' ∧ ∃ k', k' < ln q' ∧ Q q' k') ∨ (U q ∧ ∃ k', k' < k ∧ Q q k')) ∨ (U q ∧ Q q k) := by
  constructor
  · rintro (h | ⟨h1, k', h2, h3⟩)
    · exact .inl (.inl h)
    · by_cases e : k' = k
      · subst e; exact .inr ⟨h1, h3⟩
      · exact .inl (.inr ⟨h1, k', by omega, h3⟩)
  · rintro ((h | ⟨h1, k', h2, h3⟩) | ⟨h1, h2⟩)
    · exact .inl h
    · exact .inr ⟨h1, k', by omega, h3⟩
    · exact .inr ⟨h1, k, by omega, h2⟩
theorem bhN_next {N T : Nat} {ps : List PdR} {s : Int} {q k : Nat} (hk : usdP N ps s q → k = (ps.getD q noPd).right.length) (n t : Nat) : bhN N T ps s q k n t ↔ bhN N T ps s (q + 1) 0 n t := or_congr_right (bh_nextG (ln := fun q => (ps.getD q noPd).right.length) (Q := fun q k => nxP N ps (ps.getD q noPd) n k t) q k hk)
theorem bhR_next {N : Nat} {ps : List PdR} {s : Int} {q k : Nat} (hk : usdP N ps s q → k = (ps.getD q noPd).right.length) (n m : Nat) : bhR N ps s q k n m ↔ bhR N ps s (q + 1) 0 n m := bh_nextG (ln := fun q => (ps.getD q noPd).right.length) (Q := fun q k => hsP N ps (ps.getD q noPd) n m k) q k hk
theorem bhN_step {N T : Nat} {ps : List PdR} {s : Int} {q k : Nat} (n t : Nat) : bhN N T ps s q (k + 1) n t ↔ bhN N T ps s q k n t ∨ (usdP N ps s q ∧ nxP N ps (ps.getD q noPd) n k t) := by
  unfold bhN
  rw [or_assoc]
  exact or_congr_right (bh_stepG (ln := fun q => (ps.getD q noPd).right.length) (Q := fun q k => nxP N ps (ps.getD q noPd) n k t) q k)
theorem bhR_step {N : Nat} {ps : List PdR} {s : Int} {q k : Nat} (n m : Nat) : bhR N ps s q (k + 1) n m ↔ bhR N ps s q k n m ∨ (usdP N ps s q ∧ hsP N ps (ps.getD q noPd) n m k) := bh_stepG (ln := fun q => (ps.getD q noPd).right.length) (Q := fun q k => hsP N ps (ps.getD q noPd) n m k) q k
/-- on the way -/
structure BhI (N T : Nat) (ps : List PdR) (s : Int) (q k : Nat) (nx : List Nat) : Prop where
  len : nx.length = N
  lt : ∀ n, factM nx n < 512
  bit : ∀ n t, n < N → ((factM nx n).testBit t = true ↔ bhN N T ps s q k n t)
theorem BhI.next {N T : Nat} {ps : List PdR} {s : Int} {q k : Nat} {nx : List Nat} (h : BhI N T ps s q k nx) (hk : usdP N ps s q → k = (ps.getD q noPd).right.length) : BhI N T ps s (q + 1) 0 nx := ⟨h.len, h.lt, fun n t hn => (h.bit n t hn).trans (bhN_next hk n t)⟩
theorem BhI.term {N T : Nat} {ps : List PdR} {s : Int} {q k : Nat} {nx : List Nat} (h : BhI N T ps s q k nx) (hk : ¬ (ps.getD q noPd).right.getD k 0 < 0) : BhI N T ps s q (k + 1) nx := ⟨h.len, h.lt, fun n t hn => by
  rw [h.bit n t hn, bhN_step]
  constructor
  · exact .inl
  · rintro (h1 | ⟨_, h1, _⟩)
    · exact h1
    · omega⟩
theorem BhI.name {N T : Nat} {ps : List PdR} {s : Int} {q k m : Nat} {nx : List Nat} (h : BhI N T ps s q k nx) (hu : usdP N ps s q) (hm : -1 - (ps.getD q noPd).right.getD k 0 = (m : Int)) (hmN : m < N) {a : Nat} (ha : a < 512) (hb : ∀ t, a.testBit t = true ↔ bhP N ps (ps.getD q noPd).right k t) : BhI N T ps s q (k + 1) (nx.set m (factM nx m ||| a)) := by
  have hf := factM_set h.len hmN (factM nx m ||| a)
  refine ⟨by rw [List.length_set]; exact h.len, fun n => ?_, fun n t hn => ?_⟩
  · rw [hf]
    split
    · exact mk_join (h.lt m) ha
    · exact h.lt n
  · rw [hf, bhN_step]
    by_cases e : n = m
    · subst e
      rw [if_pos rfl, Nat.testBit_or, Bool.or_eq_true, h.bit n t hn, hb]
      refine or_congr_right ⟨fun h1 => ⟨hu, hm, h1⟩, fun h1 => h1.2.2⟩
    · rw [if_neg e, h.bit n t hn]
      constructor
      · exact .inl
      · rintro (h1 | ⟨_, h1, _⟩)
        · exact h1
        · omega
theorem bhR_term {N : Nat} {ps : List PdR} {s : Int} {q k : Nat} (hk : ¬ (ps.getD q noPd).right.getD k 0 < 0) (n m : Nat) : bhR N ps s q k n m ↔ bhR N ps s q (k + 1) n m := by
  rw [bhR_step]
  constructor
  · exact .inl
  · rintro (h1 | ⟨_, _, h1, _⟩)
    · exact h1
    · omega
theorem bhR_no {N : Nat} {ps : List PdR} {s : Int} {q k : Nat} (ho : hasB false (hgtB false (prsS ps) N) ((ps.getD q noPd).right.drop (k + 1)) = false) (n m : Nat) : bhR N ps s q k n m ↔ bhR N ps s q (k + 1) n m := by
  rw [bhR_step]
  constructor
  · exact .inl
  · rintro (h1 | ⟨_, _, _, h1⟩)
    · exact h1
    · rw [ho] at h1; cases h1
theorem bhR_yes {N : Nat} {ps : List PdR} {s : Int} {q k lf x : Nat} (hu : usdP N ps s q) (hl : (ps.getD q noPd).left = (lf : Int)) (hx : -1 - (ps.getD q noPd).right.getD k 0 = (x : Int)) (ho : hasB false (hgtB false (prsS ps) N) ((ps.getD q noPd).right.drop (k + 1)) = true) (n m : Nat) : addR (bhR N ps s q k) x lf n m ↔ bhR N ps s q (k + 1) n m := by
  rw [bhR_step]
  unfold addR
  refine or_congr_right ⟨?_, ?_⟩
  · rintro ⟨rfl, rfl⟩; exact ⟨hu, hl, hx, ho⟩
  · rintro ⟨_, h1, h2, _⟩; exact ⟨by omega, by omega⟩
theorem BhI.start {N T : Nat} {ps : List PdR} {s : Nat} (hs : s < N) (hT : T ≤ 8) : BhI N T ps s 0 0 (if hgtB true (prsS ps) N s then (List.replicate N 0).set s (2 ^ T) else List.replicate N 0) := by
  have key : ∀ n t, bhN N T ps s 0 0 n t ↔ n = s ∧ t = T ∧ hgtB true (prsS ps) N n = true := fun n t => by
    constructor
    · rintro (⟨h1, h2, h3⟩ | ⟨q', h1, _⟩ | ⟨_, k', h1, _⟩)
      · exact ⟨by omega, h2, h3⟩
      · omega
      · omega
    · rintro ⟨h1, h2, h3⟩; exact .inl ⟨by omega, h2, h3⟩
  by_cases hl : hgtB true (prsS ps) N s = true
  · rw [if_pos hl]
    have hf := factM_set (L := List.replicate N 0) (N := N) (by simp) hs (2 ^ T)
    refine ⟨by simp, fun n => ?_, fun n t hn => ?_⟩
    · rw [hf]
      split
      · exact Nat.pow_lt_pow_right (n := 9) (by omega) (by omega)
      · rw [factM_none]; omega
    · rw [hf, key]
      by_cases e : n = s
      · rw [if_pos e, Nat.testBit_two_pow, decide_eq_true_eq, e]
        exact ⟨fun h => ⟨rfl, h.symm, hl⟩, fun h => h.2.1.symm⟩
      · rw [if_neg e, factM_none]
        constructor
        · intro h; simp at h
        · intro h; exact absurd h.1 e
  · rw [if_neg hl]
    refine ⟨by simp, fun n => by rw [factM_none]; omega, fun n t hn => ?_⟩
    rw [factM_none, key]
    constructor
    · intro h; simp at h
    · rintro ⟨h1, _, h3⟩; rw [h1] at h3; exact absurd h3 hl
theorem bhR_start {N : Nat} {ps : List PdR} {s : Int} (n m : Nat) : ¬ bhR N ps s 0 0 n m := by
  rintro (⟨q', h1, _⟩ | ⟨_, k', h1, _⟩)
  · omega
  · omega
theorem bhN_end {N T : Nat} {ps : List PdR} {s : Int} (n t : Nat) : bhN N T ps s ps.length 0 n t ↔ fwB N T ps s n t := by
  unfold bhN fwB
  refine or_congr_right ?_
  constructor
  · rintro (⟨q', h1, h2, k', h3, h4⟩ | ⟨_, k', h1, _⟩)
    · exact ⟨q', h1, h2, k', h3, h4⟩
    · omega
  · rintro ⟨q', h1, h2, k', h3, h4⟩; exact .inl ⟨q', h1, h2, k', h3, h4⟩
theorem bhR_end {N : Nat} {ps : List PdR} {s : Int} (n m : Nat) : bhR N ps s ps.length 0 n m ↔ fwR N ps s n m := by
  unfold bhR fwR
  constructor
  · rintro (⟨q', h1, h2, k', h3, h4, h5, h6⟩ | ⟨_, k', h1, _⟩)
    · exact ⟨q', h1, h2, h4, k', h3, h5, h6⟩
    · omega
  · rintro ⟨q', h1, h2, h4, k', h3, h5, h6⟩; exact .inl ⟨q', h1, h2, k', h3, h4, h5, h6⟩

end Go.Proofs.YtmkimaceioacgaaDoor

namespace Go.Proofs.YtmkimaceioacgaaDoor
open Go.RowKit
set_option linter.unusedVariables false
set_option maxRecDepth 100000

end Go.Proofs.YtmkimaceioacgaaDoor

namespace Go.Proofs.YtmkimaceioacgaaDoor
open Go.RowKit
set_option linter.unusedVariables false
set_option maxRecDepth 100000

/-- behind the first statement -/
structure BhF (w0 wx : World) (N : Nat) (ps : List PdR) (s : Int) (UB OD : Nat) (U : List Bool) (L : List Nat) (vs : List Value) : Prop where
  ur : RowB wx UB U
  ul : U.length = ps.length
  uf : ∀ i, i < ps.length → (factB U i = true ↔ usdP N ps s i)
  po : PoO wx OD (factM L) (hgtB false (prsS ps) N) ps vs ps.length
  vl : vs.length = ps.length
  fs : FsOk N ps L
  bl : Below w0.heap.size w0 wx
/-- behind the second -/
structure MkF (wc wx : World) (N NB D : Nat) : Prop where
  row : RowM wx NB (List.replicate N 0)
  lnk : LinksM wx D N (fun n => D + 1 + n) (fun _ => 0) (fun _ _ => False)
  ne : NB ≠ D
  nm : ∀ n, n < N → D + 1 + n ≠ NB
  lo : wc.heap.size ≤ NB
  ld : wc.heap.size ≤ D
  bl : Below wc.heap.size wc wx
theorem rowM_new (w : World) (N : Nat) : RowM (w.alloc (.cells (zerosL (N * 5)).toArray 76)) w.heap.size (List.replicate N 0) := by
  unfold RowM
  rw [zeros_mks]
  exact alloc_at _ _
theorem MkF.first {wc w5 : World} {N : Nat} {vs : List Value} (h : NewM w5 (wc.heap.size + 1) N N vs) (hb : Below (wc.alloc (.cells (zerosL (N * 5)).toArray 76)).heap.size (wc.alloc (.cells (zerosL (N * 5)).toArray 76)) w5) : MkF wc w5 N wc.heap.size (wc.heap.size + 1) := by
  have hs : (wc.alloc (.cells (zerosL (N * 5)).toArray 76)).heap.size = wc.heap.size + 1 := alloc_size _ _
  have hr := rowM_new wc N
  have hA := alloc_below wc (.cells (zerosL (N * 5)).toArray 76)
  exact ⟨hr.below hb, LinksM.new h, by omega, fun n _ => by omega, Nat.le_refl _, Nat.le_succ _, hA.trans (hb.mono (by omega))⟩
theorem MkF.second {wc w5 : World} {N d : Nat} {vs : List Value} (h : NewM w5 wc.heap.size N N vs) (hb : Below (wc.drewN d).heap.size (wc.drewN d) w5) : MkF wc (w5.alloc (.cells (zerosL (N * 5)).toArray 76)) N w5.heap.size wc.heap.size := by
  have hA := alloc_below w5 (.cells (zerosL (N * 5)).toArray 76)
  have h0 : Below wc.heap.size wc w5 := ⟨hb.os, hb.tape, hb.output, hb.size, hb.block⟩
  have hsz := h.size
  exact ⟨rowM_new w5 N, (LinksM.new h).below hA, by omega, fun n _ => by omega, h0.size, Nat.le_refl _, h0.trans (hA.mono h0.size)⟩
/-- in the loops -/
structure BhM (wb wr : World) (N NB D : Nat) (mp cnt : Nat → Nat) (r : Nat → Nat → Prop) (nx : List Nat) : Prop where
  row : RowM wr NB nx
  lnk : LinksM wr D N mp cnt r
  ne : NB ≠ D
  nm : ∀ n, n < N → mp n ≠ NB
  lo : wb.heap.size ≤ NB
  ld : wb.heap.size ≤ D
  lm : ∀ n, n < N → wb.heap.size ≤ mp n
  bl : Below wb.heap.size wb wr
theorem BhM.below {wb wr w' : World} {N NB D : Nat} {mp cnt : Nat → Nat} {r : Nat → Nat → Prop} {nx : List Nat} (h : BhM wb wr N NB D mp cnt r nx) (hb : Below wr.heap.size wr w') : BhM wb w' N NB D mp cnt r nx := ⟨h.row.below hb, h.lnk.below hb, h.ne, h.nm, h.lo, h.ld, h.lm, h.bl.trans (hb.mono h.bl.size)⟩
theorem BhM.iff {wb wr : World} {N NB D : Nat} {mp cnt : Nat → Nat} {r r' : Nat → Nat → Prop} {nx : List Nat} (h : BhM wb wr N NB D mp cnt r nx) (hr : ∀ n k, r n k ↔ r' n k) : BhM wb wr N NB D mp cnt r' nx := ⟨h.row, h.lnk.iff hr, h.ne, h.nm, h.lo, h.ld, h.lm, h.bl⟩
theorem BhM.fill {wb wr : World} {N NB D : Nat} {mp cnt : Nat → Nat} {r : Nat → Nat → Prop} {nx : List Nat} (h : BhM wb wr N NB D mp cnt r nx) {j : Nat} (hj : j < nx.length) (m : Nat) : BhM wb (fillO wr NB (j * 5) m) N NB D mp cnt r (nx.set j m) :=
  ⟨h.row.fill hj m, h.lnk.grown (fillO_grown wr NB (j * 5) m) h.ne h.nm, h.ne, h.nm, h.lo, h.ld, h.lm, fillO_below h.bl h.lo _ _⟩
theorem BhM.add {wb wr w' : World} {N NB D : Nat} {mp cnt cnt' : Nat → Nat} {r r' : Nat → Nat → Prop} {nx : List Nat} (h : BhM wb wr N NB D mp cnt r nx) {f : Nat} (hf : f < N) (hg : wr.grownBy w' (some (mp f))) (hl : LinksM w' D N mp cnt' r') : BhM wb w' N NB D mp cnt' r' nx :=
  ⟨h.row.grown hg (fun e => h.nm f hf (Option.some.inj e)), hl, h.ne, h.nm, h.lo, h.ld, h.lm, h.bl.trans (grown_below hg (h.lm f hf) h.bl.size)⟩

end Go.Proofs.YtmkimaceioacgaaDoor

namespace Go.Proofs.YtmkimaceioacgaaDoor
open Go.RowKit
open Go.Maps (Keyed)
set_option linter.unusedVariables false
set_option maxRecDepth 100000

/-- a row of sets in a variable -/
structure VarM (w : World) (A B N : Nat) (L : List Nat) : Prop where
  lt : A < w.heap.size
  cell : w.cell? ⟨A, 0, none⟩ = some (.slice (some ⟨B, 0, none⟩) N N)
  row : RowM w B L
theorem VarM.below {w w' : World} {A B N : Nat} {L : List Nat} (h : VarM w A B N L) (hb : Below w.heap.size w w') : VarM w' A B N L :=
  ⟨Nat.lt_of_lt_of_le h.lt hb.size, (hb.cell (p := ⟨A, 0, none⟩) h.lt).trans h.cell, h.row.below hb⟩
/-- a set on its way: these of the hosts are gone through -/
structure HsI (r : Nat → Nat → Prop) (f : Nat → Nat) (n a : Nat) (left : Lit → Bool) (m : Nat) : Prop where
  lt : m < 512
  own : ∀ i, a.testBit i = true → m.testBit i = true
  sound : ∀ i, m.testBit i = true → a.testBit i = true ∨ ∃ k, r n k ∧ (f k).testBit i = true
  done : ∀ k, r n k → left (.int .i64 (k : Int)) = false → ∀ i, (f k).testBit i = true → m.testBit i = true
theorem HsI.start (r : Nat → Nat → Prop) (f : Nat → Nat) (n a : Nat) (left : Lit → Bool) (ha : a < 512) (hl : ∀ k, r n k → left (.int .i64 (k : Int)) = true) : HsI r f n a left a :=
  ⟨ha, fun _ h => h, fun _ h => .inl h, fun k hk h => by rw [hl k hk] at h; cases h⟩
theorem HsI.step {r : Nat → Nat → Prop} {f : Nat → Nat} {n a : Nat} {left : Lit → Bool} {m : Nat} (h : HsI r f n a left m) {q : Nat} (hq : r n q) (hf : f q < 512) : HsI r f n a (fun z => left z && !z.sameKey (.int .i64 (q : Int))) (m ||| f q) := by
  refine ⟨mk_join h.lt hf, fun i hi => ?_, fun i hi => ?_, fun k hk hl i hi => ?_⟩
  · rw [Nat.testBit_or, h.own i hi]; rfl
  · rw [Nat.testBit_or, Bool.or_eq_true] at hi
    rcases hi with hi | hi
    · exact h.sound i hi
    · exact .inr ⟨q, hq, hi⟩
  · by_cases e : k = q
    · subst e
      rw [Nat.testBit_or, hi, Bool.or_true]
    · have h3 : ¬ (k : Int) = (q : Int) := by omega
      have h4 : left (.int .i64 (k : Int)) = false := by simpa [Lit.sameKey, h3] using hl
      rw [Nat.testBit_or, h.done k hk h4 i hi]; rfl
theorem HsI.final {r : Nat → Nat → Prop} {f : Nat → Nat} {n a : Nat} {left : Lit → Bool} {m : Nat} (h : HsI r f n a left m) (hl : ∀ k, left k = false) {R : Nat} (hR : ∀ i, R.testBit i = true ↔ a.testBit i = true ∨ ∃ k, r n k ∧ (f k).testBit i = true) : m = R := by
  apply Nat.eq_of_testBit_eq
  intro i
  rw [Bool.eq_iff_iff, hR]
  constructor
  · exact h.sound i
  · rintro (h1 | ⟨k, hk, h1⟩)
    · exact h.own i h1
    · exact h.done k hk (hl _) i h1

end Go.Proofs.YtmkimaceioacgaaDoor

namespace Go.Proofs.YtmkimaceioacgaaDoor
open Go.RowKit
set_option linter.unusedVariables false
set_option maxRecDepth 100000

end Go.Proofs.YtmkimaceioacgaaDoor

namespace Go.Proofs.YtmkimaceioacgaaDoor
open Go.RowKit
set_option linter.unusedVariables false
set_option maxRecDepth 100000

set_option maxHeartbeats 2000000 in
theorem plives_no (g : Gm) (pv lv sv : Value) (w : World) (h : GrM w g pv lv sv) (hwf : WfG g) (hno : gOkB g = false) :
    Calls Tryd.prog 9 #[gv g pv lv sv] w fun e w' => e = .returned (.slice none 0 0) ∧ Below w.heap.size w w' := by
  have hB0 := boxG_below w g pv lv sv
  have hB2 := boxG_box w g pv lv sv
  have hC := pok_any g pv lv sv (boxG w g pv lv sv) (h.below hB0) hwf
  rw [hno] at hC
  obtain ⟨q0, q1, q2, q3, q4, q5, q6⟩ := hB2
  unfold boxG gv gvs at hC
  unfold boxG gvs at hB0 q0 q1 q2 q3 q4 q5 q6
  unfold gv gvs
  go_enter Tryd.func9, Tryd.ntmps9
  go_wp2_with fail
  refine hC.mono ?_
  rintro e w2 ⟨rfl, hb2⟩
  have hb := hB0.trans (hb2.mono hB0.size)
  clear hC q0 q1 q2 q3 q4 q5 q6
  go_wp2
  go_ret
  exact ⟨rfl, hb⟩

set_option maxHeartbeats 2000000 in
theorem plives_yes (t s : Int) (N : Nat) (ps : List PdR) (ls ss : List Int) (pv lv sv : Value) (w : World) (hG : GOkM N ps) (h : GrM w ⟨t, N, s, ps, ls, ss⟩ pv lv sv) (hwf : WfG ⟨t, N, s, ps, ls, ss⟩) (hyes : gOkB ⟨t, N, s, ps, ls, ss⟩ = true) :
    Calls Tryd.prog 9 #[gv ⟨t, N, s, ps, ls, ss⟩ pv lv sv] w fun e w' => ∃ B L, e = .returned (.slice (some ⟨B, 0, none⟩) N N) ∧ RowB w' B L ∧ L.length = N ∧ (∀ n, factB L n = hgtB true (prsS ps) N n) ∧ Below w.heap.size w w' := by
  have hB0 := boxG_below w ⟨t, N, s, ps, ls, ss⟩ pv lv sv
  have hB1 := boxG_size w ⟨t, N, s, ps, ls, ss⟩ pv lv sv
  have hB2 := boxG_box w ⟨t, N, s, ps, ls, ss⟩ pv lv sv
  have hC := pok_any ⟨t, N, s, ps, ls, ss⟩ pv lv sv (boxG w ⟨t, N, s, ps, ls, ss⟩ pv lv sv) (h.below hB0) hwf
  rw [hyes] at hC
  have HL : Hid (∀ w', Below w.heap.size w w' → _) := fun w' hb => haveTrees_any true t s N ps ls ss pv lv sv w' hG (h.prods.below hb)
  have HBX : Hid (BoxG (boxG w ⟨t, N, s, ps, ls, ss⟩ pv lv sv) w.heap.size ⟨t, N, s, ps, ls, ss⟩ pv lv sv) := hB2
  obtain ⟨q0, q1, q2, q3, q4, q5, q6⟩ := hB2
  unfold boxG gv gvs at hC
  unfold boxG gvs at hB0 hB1 q0 q1 q2 q3 q4 q5 q6 HBX
  unfold gv gvs at HL ⊢
  simp only at *
  go_enter Tryd.func9, Tryd.ntmps9
  go_wp2_with fail
  refine hC.mono ?_
  rintro e w2 ⟨rfl, hb2⟩
  have hb := hB0.trans (hb2.mono hB0.size)
  rw [hB1] at hb2
  clear hC q0 q1 q2 q3 q4 q5 q6
  obtain ⟨q0, q1, q2, q3, q4, q5, q6⟩ := HBX.out.below (Nat.lt_succ_self _) hb2
  simp only at q0 q1 q2 q3 q4 q5 q6
  have hLe := HL.out w2 hb
  go_wp2_with fail
  refine hLe.mono ?_
  rintro e w3 ⟨B, L, rfl, hrow, hln, hwk, hBl, hb3⟩
  have HRw : Hid (RowB w3 B L) := hrow
  have HWk : Hid (∀ n, factB L n = hgtB true (prsS ps) N n) := hwk
  have hb4 := hb.trans (hb3.mono hb.size)
  clear hrow hwk hLe q0 q1 q2 q3 q4 q5 q6
  go_wp2
  go_ret
  exact ⟨B, L, rfl, HRw.out, hln, HWk.out, hb4⟩

end Go.Proofs.YtmkimaceioacgaaDoor

namespace Go.Proofs.YtmkimaceioacgaaDoor
open Go.RowKit
set_option linter.unusedVariables false
set_option maxRecDepth 100000

set_option maxHeartbeats 2000000 in
theorem pfirst_no (g : Gm) (pv lv sv : Value) (w : World) (h : GrM w g pv lv sv) (hwf : WfG g) (hno : gOkB g = false) :
    Calls Tryd.prog 10 #[gv g pv lv sv] w fun e w' => e = .returned (.slice none 0 0) ∧ Below w.heap.size w w' := by
  have hB0 := boxG_below w g pv lv sv
  have hB2 := boxG_box w g pv lv sv
  have hC := pok_any g pv lv sv (boxG w g pv lv sv) (h.below hB0) hwf
  rw [hno] at hC
  obtain ⟨q0, q1, q2, q3, q4, q5, q6⟩ := hB2
  unfold boxG gv gvs at hC
  unfold boxG gvs at hB0 q0 q1 q2 q3 q4 q5 q6
  unfold gv gvs
  go_enter Tryd.func10, Tryd.ntmps10
  go_wp2_with fail
  refine hC.mono ?_
  rintro e w2 ⟨rfl, hb2⟩
  have hb := hB0.trans (hb2.mono hB0.size)
  clear hC q0 q1 q2 q3 q4 q5 q6
  go_wp2
  go_ret
  exact ⟨rfl, hb⟩

set_option maxHeartbeats 2000000 in
theorem pfirst_yes (T s N : Nat) (ps : List PdR) (ls ss : List Int) (pv lv sv : Value) (w : World) (hN1 : 1 ≤ N) (hN8 : N ≤ 8) (hT8 : T ≤ 8) (hs : s < N) (hTr : TrmP T ps) (hG : GOkM N ps) (h : GrM w ⟨T, N, s, ps, ls, ss⟩ pv lv sv) (hwf : WfG ⟨T, N, s, ps, ls, ss⟩) (hyes : gOkB ⟨T, N, s, ps, ls, ss⟩ = true) (hGl : 0 < w.heap.size) (hTb : TabAt 0 Lib.deBruijn64tab w) :
    Calls Tryd.prog 10 #[gv ⟨T, N, s, ps, ls, ss⟩ pv lv sv] w fun e w' => ∃ v L, e = .returned v ∧ LssM w' v ((List.range N).map fun n => bitsZ (factM L n)) ∧ (∀ n, n < N → ∀ i, ((factM L n).testBit i = true ↔ fstP N ps n i)) ∧ Below w.heap.size w w' := by
  have hB0 := boxG_below w ⟨T, N, s, ps, ls, ss⟩ pv lv sv
  have hB1 := boxG_size w ⟨T, N, s, ps, ls, ss⟩ pv lv sv
  have hB2 := boxG_box w ⟨T, N, s, ps, ls, ss⟩ pv lv sv
  have hC := pok_any ⟨T, N, s, ps, ls, ss⟩ pv lv sv (boxG w ⟨T, N, s, ps, ls, ss⟩ pv lv sv) (h.below hB0) hwf
  rw [hyes] at hC
  have HL : Hid (∀ w', Below w.heap.size w w' → _) := fun w' (hb : Below w.heap.size w w') => firsts_any T s N ps ls ss pv lv sv w' hN1 hN8 T hT8 hTr hG (h.prods.below hb)
  have HBX : Hid (BoxG (boxG w ⟨T, N, s, ps, ls, ss⟩ pv lv sv) w.heap.size ⟨T, N, s, ps, ls, ss⟩ pv lv sv) := hB2
  have HTB : Hid (∀ w', Below w.heap.size w w' → 0 < w'.heap.size ∧ TabAt 0 Lib.deBruijn64tab w') := fun w' hb => ⟨Nat.lt_of_lt_of_le hGl hb.size, tab_below hTb hGl hb⟩
  obtain ⟨q0, q1, q2, q3, q4, q5, q6⟩ := hB2
  unfold boxG gv gvs at hC
  unfold boxG gvs at hB0 hB1 q0 q1 q2 q3 q4 q5 q6 HBX
  unfold gv gvs at HL ⊢
  simp only at *
  clear hTb hGl
  go_enter Tryd.func10, Tryd.ntmps10
  go_wp2_with fail
  refine hC.mono ?_
  rintro e w2 ⟨rfl, hb2⟩
  have hb := hB0.trans (hb2.mono hB0.size)
  rw [hB1] at hb2
  clear hC q0 q1 q2 q3 q4 q5 q6
  obtain ⟨q0, q1, q2, q3, q4, q5, q6⟩ := HBX.out.below (Nat.lt_succ_self _) hb2
  simp only at q0 q1 q2 q3 q4 q5 q6
  have hLe := HL.out w2 hb
  go_wp2_with fail
  refine hLe.mono ?_
  rintro e w3 ⟨B, L, rfl, hrow, hln, hlt, hwk, _, _, hb3⟩
  have HWk : Hid (∀ n, n < N → ∀ i, ((factM L n).testBit i = true ↔ fstP N ps n i)) := hwk
  have hb4 := hb.trans (hb3.mono hb.size)
  have hLo := listsOf_any N B L w3 (by omega) hln hlt hrow (HTB.out w3 hb4).1 (HTB.out w3 hb4).2
  clear hrow hwk hLe q0 q1 q2 q3 q4 q5 q6
  go_wp2_with fail
  refine hLo.mono ?_
  rintro e w5 ⟨v, rfl, hls, hb5⟩
  have HLS : Hid (LssM w5 v ((List.range N).map fun n => bitsZ (factM L n))) := hls
  have hb6 := hb4.trans (hb5.mono hb4.size)
  clear hls hLo hb5
  go_wp2
  go_ret
  exact ⟨v, L, rfl, HLS.out, HWk.out, hb6⟩

end Go.Proofs.YtmkimaceioacgaaDoor
