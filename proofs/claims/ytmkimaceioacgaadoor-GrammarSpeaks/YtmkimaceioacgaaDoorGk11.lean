/- Texts of the proof, put together: GOwn, GOwnW, GGok. -/
import Derived.Test.YtmkimaceioacgaaDoorGk07
import Derived.Deep.AppendLies
import Derived.Deep.RegionLaw
import Derived.Deep.RegionHeld3
namespace Go.Proofs.YtmkimaceioacgaaDoor
open Go.RowKit
set_option linter.unusedVariables false
set_option maxRecDepth 100000

/-- the productions of each name in memory -/
def OwnD (w : World) (D N : Nat) (own : Nat → List PdR) : Prop := D < w.heap.size ∧ ∀ n, n < N → ∃ v, w.cell? ⟨D, n, none⟩ = some v ∧ PdsM w v (own n)
theorem OwnD.below {w w' : World} {D N : Nat} {own : Nat → List PdR} (h : OwnD w D N own) (hb : Below w.heap.size w w') : OwnD w' D N own := by
  refine ⟨Nat.lt_of_lt_of_le h.1 hb.size, fun n hn => ?_⟩
  obtain ⟨v, h5, h6⟩ := h.2 n hn
  exact ⟨v, (hb.cell (p := ⟨D, n, none⟩) h.1).trans h5, h6.below hb⟩
theorem Tryd.infoProd : (Tryd.prog.info? 38).map (fun i => (i.zero, i.size, i.bytes)) = some (some (.agg #[.int .i64 0, .slice none 0 0, .int .i64 0]), 3, 40) := by kernel_rfl
theorem Tryd.infoProds : (Tryd.prog.info? 22).map (fun i => (i.zero, i.size, i.bytes)) = some (some (.slice none 0 0), 1, 24) := by kernel_rfl
theorem nilsS (m : Nat) : madeCells (Value.slice none 0 0).cells m = (Array.replicate m (Value.slice none 0 0)) := by
  apply Array.ext
  · simp [madeCells, Value.cells]
  · intro i h1 h2
    simp [madeCells, Value.cells, Nat.mod_one]
theorem makeProds (m : Nat) (hm : m ≤ 1000000) (W : World) : (Instr.makeSlice 58 (.int .i64 m) (.int .i64 m)).run Tryd.prog W = .ok (.slice (some ⟨W.heap.size, 0, none⟩) m m) (W.alloc (.cells (Array.replicate m (Value.slice none 0 0)) 22)) := by
  obtain ⟨i0, hi, hz0, hz1, hz2⟩ := infoParts Tryd.infoProds
  have := run_make W 58 22 i0 (.slice none 0 0) Tryd.underlying58 hi hz0 .i64 .i64 m m (by omega) (by omega) (by rw [hz2]; omega) (by omega)
  rw [this, hz1, nilsS]
  simp
/-- the cells of productions -/
def zcs (z : List (PdR × Value)) : List Value := z.flatMap fun q => [.int .i64 q.1.left, q.2, .int .i64 q.1.level]
theorem zcs_snoc (z : List (PdR × Value)) (q : PdR × Value) : zcs (z ++ [q]) = zcs z ++ [.int .i64 q.1.left, q.2, .int .i64 q.1.level] := by simp [zcs]
theorem zcs_get : ∀ (z : List (PdR × Value)) (j : Nat) (q : PdR × Value), z[j]? = some q → (zcs z)[j * 3]? = some (.int .i64 q.1.left) ∧ (zcs z)[j * 3 + 1]? = some q.2 ∧ (zcs z)[j * 3 + 2]? = some (.int .i64 q.1.level)
  | [], j, q, h => by simp at h
  | p :: z, 0, q, h => by
    obtain rfl : p = q := by simpa using h
    simp [zcs]
  | p :: z, j + 1, q, h => by
    have ih := zcs_get z j q (by simpa using h)
    have e : zcs (p :: z) = .int .i64 p.1.left :: p.2 :: .int .i64 p.1.level :: zcs z := by simp [zcs]
    rw [e]
    rw [show (j + 1) * 3 = j * 3 + 1 + 1 + 1 by omega, show j * 3 + 1 + 1 + 1 + 1 = (j * 3 + 1) + 1 + 1 + 1 by omega, show j * 3 + 1 + 1 + 1 + 2 = (j * 3 + 2) + 1 + 1 + 1 by omega]
    simpa only [List.getElem?_cons_succ] using ih
theorem zcs_len (z : List (PdR × Value)) : (zcs z).length = z.length * 3 := by
  induction z with
  | nil => rfl
  | cons p z ih => simp [zcs] at ih ⊢; omega
structure OpI (w0 w : World) (D N : Nat) (ps : List PdR) (k : Nat) (vs : List Value) (zs : Nat → List (PdR × Value)) : Prop where
  row : RowV w D 22 vs
  len : vs.length = N
  own : ∀ n, n < N → w.ownsRow (D + 1) 38 3 (vs.getD n .nilFunc) (zs n).length (zcs (zs n))
  apart : ∀ n m, n < N → m < N → n ≠ m → ∀ b, (vs.getD n .nilFunc).ownBlock = some b → (vs.getD m .nilFunc).ownBlock ≠ some b
  fst : ∀ n, n < N → (zs n).map Prod.fst = ownL (ps.take k) n
  rts : ∀ n, n < N → ∀ q ∈ zs n, IntsR w0 q.2 q.1.right
theorem ownL_take (ps : List PdR) (k : Nat) (hk : k < ps.length) (n : Nat) : ownL (ps.take (k + 1)) n = if (ps.getD k noPd).left = (n : Int) then ownL (ps.take k) n ++ [ps.getD k noPd] else ownL (ps.take k) n := by
  have e : ps.getD k noPd = ps[k] := by simp [List.getD, hk]
  rw [List.take_succ_eq_append_getElem hk, e]
  unfold ownL
  rw [List.filter_append]
  by_cases h : ps[k].left = (n : Int)
  · simp [h]
  · simp [h]
theorem OpI.zlen {w0 w : World} {D N : Nat} {ps : List PdR} {k : Nat} {vs : List Value} {zs : Nat → List (PdR × Value)} (h : OpI w0 w D N ps k vs zs) {n : Nat} (hn : n < N) : (zs n).length ≤ ps.length := by
  have := congrArg List.length (h.fst n hn)
  rw [List.length_map] at this
  rw [this]
  exact Nat.le_trans (List.length_filter_le _ _) (by rw [List.length_take]; exact Nat.min_le_right _ _)
theorem OpI.done {w0 w : World} {D N : Nat} {ps : List PdR} {k : Nat} {vs : List Value} {zs : Nat → List (PdR × Value)} (h : OpI w0 w D N ps ps.length vs zs) (hb : Below w0.heap.size w0 w) : OwnD w D N (ownL ps) := by
  refine ⟨h.row.lt, fun n hn => ⟨vs.getD n .nilFunc, ?_, ?_⟩⟩
  · rw [h.row.cell]
    have := h.len
    simp [List.getD, show n < vs.length by omega]
  · have hz := h.fst n hn
    rw [List.take_length] at hz
    have hl : (zs n).length = (ownL ps n).length := by rw [← hz, List.length_map]
    have ho := h.own n hn
    rcases ho.2 with ⟨e, h0⟩ | ⟨g, cap, cur, e, hB, hg, hcap, _⟩
    · exact ⟨none, 0, by rw [e, ← hl, h0], .inl (List.eq_nil_of_length_eq_zero (by omega))⟩
    · rw [e] at ho
      refine ⟨_, cap, by rw [e, hl], .inr ⟨g, 0, rfl, (Array.getElem?_eq_some_iff.1 hg).1, fun j hj => ?_⟩⟩
      have hjz : j < (zs n).length := by omega
      obtain ⟨q, hq⟩ : ∃ q, (zs n)[j]? = some q := ⟨(zs n)[j], by simp [hjz]⟩
      obtain ⟨c0, c1, c2⟩ := zcs_get _ _ _ hq
      have hp : (ownL ps n).getD j noPd = q.1 := by
        rw [← hz]
        simp [List.getD, hq]
      refine ⟨q.2, ?_⟩
      rw [hp, Nat.zero_add]
      exact ⟨(ho.cellAt _ (by omega)).trans c0, (ho.cellAt _ (by omega)).trans c1, (ho.cellAt _ (by omega)).trans c2, (h.rts n hn q (List.mem_of_getElem? hq)).below hb⟩
theorem OpI.below {w0 w w' : World} {D N : Nat} {ps : List PdR} {k : Nat} {vs : List Value} {zs : Nat → List (PdR × Value)} (h : OpI w0 w D N ps k vs zs) (hb : Below w.heap.size w w') : OpI w0 w' D N ps k vs zs :=
  ⟨(hb.block D h.row.lt).trans h.row, h.len, fun n hn => (h.own n hn).kept (row := none) ⟨hb.os, hb.tape, hb.output, hb.size, fun k hk _ => hb.block k hk⟩ (by cases hq : (vs.getD n Value.nilFunc).ownBlock <;> simp), h.apart, h.fst, h.rts⟩
theorem getD_set_ne {α : Type} (l : List α) (i j : Nat) (x d : α) (h : i ≠ j) : (l.set i x).getD j d = l.getD j d := by simp [List.getD, List.getElem?_set_ne h]
theorem getD_set_eq {α : Type} (l : List α) (i : Nat) (x d : α) (h : i < l.length) : (l.set i x).getD i d = x := by simp [List.getD, h]
/-- one production more -/
theorem OpI.step {w0 w3 w5 : World} {D N k lf g cap : Nat} {ps : List PdR} {vs : List Value} {zs : Nat → List (PdR × Value)} {rv : Value} {o : Obj} (h : OpI w0 w3 D N ps k vs zs) (hk : k < ps.length) (hlf : lf < N) (hl : (ps.getD k noPd).left = (lf : Int)) (hr : IntsR w0 rv (ps.getD k noPd).right)
    (hown : w5.ownsRow (D + 1) 38 3 (.slice (some ⟨g, 0, none⟩) ((zs lf).length + 1) cap) ((zs lf).length + 1) (zcs (zs lf) ++ [.int .i64 (ps.getD k noPd).left, rv, .int .i64 (ps.getD k noPd).level])) (hg : (w3.alloc o).grownBy w5 (vs.getD lf .nilFunc).ownBlock) (hat : (vs.getD lf .nilFunc).ownBlock = some g ∨ g = w3.heap.size + 1) :
    OpI w0 (w5.setCell ⟨D, lf, none⟩ (.slice (some ⟨g, 0, none⟩) ((zs lf).length + 1) cap)) D N ps (k + 1) (vs.set lf (.slice (some ⟨g, 0, none⟩) ((zs lf).length + 1) cap)) (fun n => if n = lf then zs lf ++ [(ps.getD k noPd, rv)] else zs n) := by
  have hDl := h.row.lt
  have hol : ∀ n, n < N → ∀ b, (vs.getD n .nilFunc).ownBlock = some b → D + 1 ≤ b ∧ b < w3.heap.size := fun n hn b hb => (h.own n hn).lt b hb
  have hs : w3.heap.size + 1 ≤ w5.heap.size := by have := hg.size; simpa using this
  have hbl : ∀ b, b < w3.heap.size → (vs.getD lf .nilFunc).ownBlock ≠ some b → w5.heap[b]? = w3.heap[b]? := fun b hb hne => (hg.block b (by simp; omega) (fun e => hne e.symm)).trans (Below.heap_alloc w3 o b hb)
  have hset : ∀ b, b ≠ D → (w5.setCell ⟨D, lf, none⟩ (.slice (some ⟨g, 0, none⟩) ((zs lf).length + 1) cap)).heap[b]? = w5.heap[b]? := fun b hb => Below.heap_setCell _ _ _ _ (by simpa using hb)
  have hDne : (vs.getD lf .nilFunc).ownBlock ≠ some D := fun e => by have := hol lf hlf D e; omega
  have hrow5 : RowV w5 D 22 vs := (hbl D hDl hDne).trans h.row
  have hgD : g ≠ D := by
    rcases hat with e | e
    · have := hol lf hlf g e; omega
    · omega
  refine ⟨hrow5.set lf _, by simp [h.len], fun n hn => ?_, fun n m hn hm hnm b hb => ?_, fun n hn => ?_, fun n hn q hq => ?_⟩
  · by_cases e : n = lf
    · subst e
      rw [getD_set_eq _ _ _ _ (by rw [h.len]; exact hn)]
      simp only [if_true, List.length_append, List.length_cons, List.length_nil, zcs_snoc]
      refine ⟨hown.1, ?_⟩
      rcases hown.2 with ⟨e, _⟩ | ⟨g', cap', cur, e, k1, k2, k3⟩
      · simp at e
      · simp only [Value.slice.injEq, Option.some.injEq, Addr.mk.injEq, and_true, true_and] at e
        obtain ⟨rfl, rfl⟩ := e
        exact .inr ⟨g, cap, cur, rfl, k1, (hset g hgD).trans k2, k3⟩
    · rw [getD_set_ne _ _ _ _ _ (Ne.symm e)]
      simp only [if_neg e]
      have ho := h.own n hn
      refine ⟨ho.1, ?_⟩
      rcases ho.2 with h0 | ⟨g', cap', cur, e', k1, k2, k3⟩
      · exact .inl h0
      · refine .inr ⟨g', cap', cur, e', k1, ?_, k3⟩
        have hb1 : (vs.getD n .nilFunc).ownBlock = some g' := by rw [e']; rfl
        rw [hset g' (by omega), hbl g' (Array.getElem?_eq_some_iff.1 k2).1 (fun e2 => h.apart n lf hn hlf e g' hb1 e2)]
        exact k2
  · have key : ∀ n', n' < N → n' ≠ lf → ∀ b, (vs.getD n' .nilFunc).ownBlock = some b → g ≠ b := fun n' hn' hne b hb e => by
      rcases hat with h1 | h1
      · exact h.apart n' lf hn' hlf hne b hb (by rw [h1, e])
      · have := hol n' hn' b hb; omega
    by_cases e1 : n = lf
    · subst e1
      rw [getD_set_eq _ _ _ _ (by rw [h.len]; exact hn)] at hb
      rw [getD_set_ne _ _ _ _ _ hnm]
      have hb' : g = b := by simpa [Value.ownBlock] using hb
      intro e2
      exact key m hm (Ne.symm hnm) b e2 hb'
    · rw [getD_set_ne _ _ _ _ _ (Ne.symm e1)] at hb
      by_cases e2 : m = lf
      · subst e2
        rw [getD_set_eq _ _ _ _ (by rw [h.len]; exact hm)]
        intro e3
        exact key n hn e1 b hb (by simpa [Value.ownBlock] using e3)
      · rw [getD_set_ne _ _ _ _ _ (Ne.symm e2)]
        exact h.apart n m hn hm hnm b hb
  · rw [ownL_take ps k hk n, hl]
    by_cases e : n = lf
    · subst e; simp [h.fst n hn]
    · show List.map Prod.fst (if n = lf then _ else zs n) = _
      rw [if_neg e, if_neg (by omega)]; exact h.fst n hn
  · by_cases e : n = lf
    · subst e
      simp only [if_true] at hq
      rcases List.mem_append.1 hq with hq | hq
      · exact h.rts n hn q hq
      · obtain rfl : q = (ps.getD k noPd, rv) := by simpa using hq
        exact hr
    · simp only [if_neg e] at hq
      exact h.rts n hn q hq

end Go.Proofs.YtmkimaceioacgaaDoor

namespace Go.Proofs.YtmkimaceioacgaaDoor
open Go.RowKit
set_option linter.unusedVariables false
set_option maxRecDepth 100000

set_option maxHeartbeats 8000000 in
theorem ownProds_any (t s : Int) (N : Nat) (ps : List PdR) (ls ss : List Int) (pv lv sv : Value) (w : World) (hN : N ≤ 300) (hps : ps.length ≤ 400) (hok : ∀ m, m < ps.length → 0 ≤ (ps.getD m noPd).left ∧ (ps.getD m noPd).left < N) (h : PdsM w pv ps) :
    Calls Tryd.prog 30 #[gv ⟨t, N, s, ps, ls, ss⟩ pv lv sv] w fun e w' => e = .returned (.slice (some ⟨w.heap.size + 1, 0, none⟩) N N) ∧ OwnD w' (w.heap.size + 1) N (ownL ps) ∧ Below w.heap.size w w' := by
  obtain ⟨i0, hi0, hz0, hz1, hz2⟩ := infoParts Tryd.infoProd
  have hB0 := boxG_below w ⟨t, N, s, ps, ls, ss⟩ pv lv sv
  have hB1 := boxG_size w ⟨t, N, s, ps, ls, ss⟩ pv lv sv
  have hB2 := boxG_box w ⟨t, N, s, ps, ls, ss⟩ pv lv sv
  obtain ⟨pa, pc, rfl⟩ := h.slice
  have HP : Hid (PdsM w (.slice pa ps.length pc) ps) := h
  have HOK : Hid (∀ m, m < ps.length → 0 ≤ (ps.getD m noPd).left ∧ (ps.getD m noPd).left < N) := hok
  clear h hok
  have hmk := makeProds N (by omega) (boxG w ⟨t, N, s, ps, ls, ss⟩ (.slice pa ps.length pc) lv sv)
  have hA0 := alloc_below (boxG w ⟨t, N, s, ps, ls, ss⟩ (.slice pa ps.length pc) lv sv) (.cells (Array.replicate N (Value.slice none 0 0)) 22)
  have HI0 : Hid (OpI w ((boxG w ⟨t, N, s, ps, ls, ss⟩ (.slice pa ps.length pc) lv sv).alloc (.cells (Array.replicate N (Value.slice none 0 0)) 22)) (w.heap.size + 1) N ps 0 (List.replicate N (Value.slice none 0 0)) (fun _ => [])) := by
    have hg : ∀ n, n < N → (List.replicate N (Value.slice none 0 0)).getD n .nilFunc = .slice none 0 0 := fun n hn => by simp [List.getD, hn]
    refine ⟨?_, by simp, fun n hn => ?_, fun n m hn hm hnm b hb => ?_, fun n hn => by simp [ownL], fun n hn q hq => by simp at hq⟩
    · show ((boxG w _ _ lv sv).heap.push _)[w.heap.size + 1]? = some (.cells (List.replicate N (Value.slice none 0 0)).toArray 22 (0, 0))
      rw [List.toArray_replicate, ← hB1]
      exact Array.getElem?_push_size
    · rw [hg n hn]; exact ⟨rfl, .inl ⟨rfl, rfl⟩⟩
    · rw [hg n hn] at hb; simp [Value.ownBlock] at hb
  rw [hB1] at hmk hA0
  unfold boxG gvs at hB0 hB1 hB2 hmk hA0 HI0
  unfold gv gvs
  simp only at *
  obtain ⟨q0, q1, q2, q3, q4, q5, q6⟩ := hB2
  have HBX : Hid (BoxG (w.alloc (.cells #[.int .i64 t, .int .i64 N, .int .i64 s, .slice pa ps.length pc, lv, sv] 25)) w.heap.size ⟨t, N, s, ps, ls, ss⟩ (.slice pa ps.length pc) lv sv) := ⟨q0, q1, q2, q3, q4, q5, q6⟩
  simp only at q0 q1 q2 q3 q4 q5 q6
  go_enter Tryd.func30, Tryd.ntmps30
  go_wp2
  clear q0 q1 q2 q3 q4 q5 q6 HBX
  clear hmk
  generalize w.alloc (.cells #[.int .i64 t, .int .i64 N, .int .i64 s, .slice pa ps.length pc, lv, sv] 25) = w0 at *
  have hb1 : Below w.heap.size w (w0.alloc (.cells (Array.replicate N (Value.slice none 0 0)) 22)) := hB0.trans (hA0.mono (Nat.le_succ _))
  generalize w0.alloc (.cells (Array.replicate N (Value.slice none 0 0)) 22) = w1 at *
  clear hA0 hB0 hB1
  go_loopw [12] (fun i wr => ∃ (k : Nat) (vs : List Value) (zs : Nat → List (PdR × Value)), k ≤ ps.length ∧ i = .int .i64 k ∧ Hid (OpI w wr (w.heap.size + 1) N ps k vs zs) ∧ Below w.heap.size w wr) (fun i _ => ps.length - (intOf i).toNat)
  case atStart => exact ⟨0, _, _, Nat.zero_le _, rfl, HI0, hb1⟩
  case round =>
    clear HI0 hb1
    obtain ⟨k, vs, zs, hk, rfl, HI, hbw⟩ := hrel
    by_cases hlt : k < ps.length
    · obtain ⟨b, off, rv, rfl, hb, hpd⟩ := HP.out.at hlt
      have hpd2 := hpd.below hb hbw
      obtain ⟨hl0, hl1⟩ := HOK.out k hlt
      have HR : Hid (IntsR w rv (ps.getD k noPd).right) := hpd.right
      obtain ⟨lf, hlf⟩ : ∃ lf : Nat, (ps.getD k noPd).left = (lf : Int) := ⟨(ps.getD k noPd).left.toNat, by omega⟩
      have hlN : lf < N := by omega
      have hzl := HI.out.zlen hlN
      obtain ⟨va, vc, hv⟩ : ∃ va vc, vs.getD lf .nilFunc = .slice va (zs lf).length vc := by
        rcases (HI.out.own lf hlN).2 with ⟨e, h0⟩ | ⟨g, cap, cur, e, _⟩
        · exact ⟨none, 0, by rw [e, h0]⟩
        · exact ⟨_, _, e⟩
      have HST : Hid (∀ w3 o w5 g cap, Below wr.heap.size wr w3 → w5.ownsRow (w.heap.size + 1 + 1) 38 3 (.slice (some ⟨g, 0, none⟩) ((zs lf).length + 1) cap) ((zs lf).length + 1) (zcs (zs lf) ++ [.int .i64 (lf : Int), rv, .int .i64 (ps.getD k noPd).level]) → (w3.alloc o).grownBy w5 (Value.slice va (zs lf).length vc).ownBlock → ((Value.slice va (zs lf).length vc).ownBlock = some g ∨ g = w3.heap.size + 1) →
          w5.cell? ⟨w.heap.size + 1, lf, none⟩ = some (.slice va (zs lf).length vc) ∧ w5.frozen? ⟨w.heap.size + 1, lf, none⟩ = false ∧ w.heap.size + 1 < w5.heap.size ∧ OpI w (w5.setCell ⟨w.heap.size + 1, lf, none⟩ (.slice (some ⟨g, 0, none⟩) ((zs lf).length + 1) cap)) (w.heap.size + 1) N ps (k + 1) (vs.set lf (.slice (some ⟨g, 0, none⟩) ((zs lf).length + 1) cap)) (fun n => if n = lf then zs lf ++ [(ps.getD k noPd, rv)] else zs n) ∧ Below w.heap.size w (w5.setCell ⟨w.heap.size + 1, lf, none⟩ (.slice (some ⟨g, 0, none⟩) ((zs lf).length + 1) cap))) := by
        intro w3 o w5 g cap h3 ho hg hat
        have hI3 := HI.out.below h3
        have hs5 : w3.heap.size + 1 ≤ w5.heap.size := by have := hg.size; simpa using this
        have hol := (hI3.own lf hlN).lt
        rw [hv] at hol
        have hDl := hI3.row.lt
        have hbl : ∀ b, b < w3.heap.size → (Value.slice va (zs lf).length vc).ownBlock ≠ some b → w5.heap[b]? = w3.heap[b]? := fun b hb hne => (hg.block b (by simp; omega) (fun e => hne e.symm)).trans (Below.heap_alloc w3 o b hb)
        have hrow : RowV w5 (w.heap.size + 1) 22 vs := (hbl _ hDl (fun e => by have := hol _ e; omega)).trans hI3.row
        refine ⟨?_, hrow.fz lf, hrow.lt, ?_, ?_⟩
        · rw [hrow.cell, ← hv]
          have := hI3.len
          simp [List.getD, show lf < vs.length by omega]
        · refine hI3.step (o := o) hlt hlN hlf HR.out (by rw [hlf]; exact ho) (by rw [hv]; exact hg) (by rw [hv]; exact hat)
        · have h4 := hbw.trans (h3.mono hbw.size)
          refine ⟨?_, ?_, ?_, by simp; have := h4.size; omega, fun c hc => ?_⟩
          · exact hg.os.trans h4.os
          · simpa using hg.tape.trans h4.tape
          · exact hg.output.trans h4.output
          · rw [Below.heap_setCell _ _ _ _ (by simp; omega), hbl c (by have := h4.size; omega) (fun e => by have := hol _ e; omega)]
            exact h4.block c hc
      have HOW : Hid (∀ w3, Below wr.heap.size wr w3 → w3.ownsRow (w.heap.size + 1 + 1) 38 3 (.slice va (zs lf).length vc) (zs lf).length (zcs (zs lf)) ∧ w3.cell? ⟨w.heap.size + 1, lf, none⟩ = some (.slice va (zs lf).length vc) ∧ w.heap.size + 1 < w3.heap.size) := fun w3 h3 => by
        have hI3 := HI.out.below h3
        refine ⟨by rw [← hv]; exact hI3.own lf hlN, ?_, hI3.row.lt⟩
        rw [hI3.row.cell, ← hv]
        have := hI3.len
        simp [List.getD, show lf < vs.length by omega]
      obtain ⟨c0, c1, c2, _⟩ := hpd2
      obtain ⟨ra, rc, hra⟩ := hpd.right.slice
      subst hra
      rw [hlf] at c0
      clear hpd HI hl0 hl1
      have hbr : b < wr.heap.size := Nat.lt_of_lt_of_le hb hbw.size
      generalize (ps.getD k noPd).level = lev at *
      generalize (ps.getD k noPd).right.length = rl at *
      generalize zs lf = z at *
      rename World => wo
      go_wp2_with fail
      clear c0 c1 c2
      have hA := alloc_below wo (.cells #[.int .i64 (lf : Int), .slice ra rl rc, .int .i64 lev] 38)
      have hAs := alloc_size wo (.cells #[.int .i64 (lf : Int), .slice ra rl rc, .int .i64 lev] 38)
      obtain ⟨f0, f1, f2⟩ := box3_cells wo (.int .i64 (lf : Int)) (.slice ra rl rc) (.int .i64 lev) 38
      generalize wo.alloc (.cells #[.int .i64 (lf : Int), .slice ra rl rc, .int .i64 lev] 38) = w3 at *
      have hdr : Below wo.heap.size wo w3.drew := hA.trans ⟨rfl, rfl, rfl, Nat.le_refl _, fun _ _ => rfl⟩
      obtain ⟨ow1, ow2, ow3⟩ := HOW.out w3.drew hdr
      have hsz3 : wo.heap.size < w3.heap.size := by omega
      have HOW2 : Hid (∀ o, (w3.drew.alloc o).ownsRow (w.heap.size + 1 + 1) 38 3 (.slice va z.length vc) z.length (zcs z)) := fun o => World.ownsRow.alloc ow1 o
      have hlow : w.heap.size + 1 + 1 ≤ w3.heap.size := ow3
      have c4 : w3.cell? ⟨w.heap.size + 1, lf, none⟩ = some (.slice va z.length vc) := ow2
      have HBOX : Hid (∀ o w5, (w3.drew.alloc o).grownBy w5 (Value.slice va z.length vc).ownBlock → w5.cell? ⟨wo.heap.size, 0, none⟩ = some (.int .i64 (lf : Int)) ∧ wo.heap.size < w5.heap.size) := fun o w5 hg => by
        have hne : (Value.slice va z.length vc).ownBlock ≠ some wo.heap.size := fun e => by
          have := ((HOW.out wo (Below.refl _ _)).1.lt _ e).2
          omega
        have hb5 : w5.heap[wo.heap.size]? = w3.heap[wo.heap.size]? := (hg.block wo.heap.size (by simp; omega) (fun e => hne e.symm)).trans (Below.heap_alloc w3.drew o wo.heap.size hsz3)
        refine ⟨?_, Nat.lt_of_lt_of_le (show wo.heap.size < (w3.drew.alloc o).heap.size by simp; omega) hg.size⟩
        simp only [World.cell?] at f0 ⊢
        rw [hb5]; exact f0
      have HST2 : Hid (∀ o w5 g cap, w5.ownsRow (w.heap.size + 1 + 1) 38 3 (.slice (some ⟨g, 0, none⟩) (z.length + 1) cap) (z.length + 1) (zcs z ++ [.int .i64 (lf : Int), .slice ra rl rc, .int .i64 lev]) → (w3.drew.alloc o).grownBy w5 (Value.slice va z.length vc).ownBlock → ((Value.slice va z.length vc).ownBlock = some g ∨ g = w3.heap.size + 1) → _) := fun o w5 g cap h1 h2 h3 => HST.out w3.drew o w5 g cap hdr h1 h2 h3
      have hlt3 : w.heap.size + 1 < w3.heap.size := ow3
      have hne5 : w.heap.size + 1 < wo.heap.size := (HOW.out wo (Below.refl _ _)).2.2
      clear ow1 ow2 ow3 HOW HST hA hdr hAs
      go_region_law (refine step_append_lies _ rfl _ _ 22 rfl (w.heap.size + 1 + 1) 38 i0 (.agg #[.int .i64 0, .slice none 0 0, .int .i64 0]) 3 40 Tryd.underlying22 hi0 hz0 hz1 hz2 rfl (by decide) (.slice va z.length vc) z.length (zcs z) rfl (HOW2.out _) ⟨w3.heap.size, 0, none⟩ 1 1 [.int .i64 (lf : Int), .slice ra rl rc, .int .i64 lev] rfl rfl (World.news_of_block (heap_alloc_new w3.drew _)) (by intro x hx; simp at hx; rcases hx with rfl | rfl | rfl <;> rfl) (by omega) (by unfold maxLen; omega) (by omega) (by simp; omega) (w3.heap.size + 1) (by simp) ?_; intro g9 cap9 w9 hown9 hg9 hat9 hlt9; have q := HST2.out _ w9 g9 cap9 hown9 hg9 hat9; obtain ⟨q1, q2, q3, q4, q5⟩ := q; have q := HBOX.out _ w9 hg9; obtain ⟨q6, q7⟩ := q)
      all_goals
        have Q4 : Hid (OpI w (w9.setCell ⟨w.heap.size + 1, lf, none⟩ (.slice (some ⟨g9, 0, none⟩) (z.length + 1) cap9)) (w.heap.size + 1) N ps (k + 1) (vs.set lf (.slice (some ⟨g9, 0, none⟩) (z.length + 1) cap9)) (fun n => if n = lf then z ++ [(ps.getD k noPd, .slice ra rl rc)] else zs n)) := q4
        clear q4 hown9 hg9 hat9 hlt9 HST2 HBOX HOW2
        go_wp2
        go_roundw
        case rel => exact ⟨k + 1, _, _, by omega, by go_num, Q4, q5⟩
        case measure => simp [intOf]; omega
    · obtain rfl : k = ps.length := by omega
      have HE : Hid (OwnD wr (w.heap.size + 1) N (ownL ps)) := HI.out.done (k := 0) hbw
      clear HI
      go_wp2
      go_ret
      exact ⟨rfl, HE.out, hbw⟩

end Go.Proofs.YtmkimaceioacgaaDoor

namespace Go.Proofs.YtmkimaceioacgaaDoor
open Go.RowKit
set_option linter.unusedVariables false
set_option maxRecDepth 100000

/-- a grammar whose productions are as they must be -/
structure GOkM (N : Nat) (ps : List PdR) : Prop where
  n : N ≤ 300
  len : ps.length ≤ 400
  pd : ∀ m, m < ps.length → PdOk N (ps.getD m noPd) ∧ ∀ j, j < (ps.getD m noPd).right.length → I64 ((ps.getD m noPd).right.getD j 0)
theorem GOkM.mem {N : Nat} {ps : List PdR} (h : GOkM N ps) {p : PdR} (hp : p ∈ ps) : PdOk N p ∧ SymsL N p.right := by
  obtain ⟨i, hi, rfl⟩ := List.mem_iff_getElem.1 hp
  have e : ps.getD i noPd = ps[i] := by simp [List.getD, hi]
  have h1 := h.pd i hi
  rw [e] at h1
  exact ⟨h1.1, h1.1.2.2.1, fun j hj => ⟨h1.1.2.2.2 j hj, h1.2 j hj⟩⟩
theorem GOkM.link {N : Nat} {ps : List PdR} (h : GOkM N ps) (n k : Nat) (hl : linkR ps ps.length n k) : k < N := by
  obtain ⟨q, hq, _, i, hi, h1, h2⟩ := hl
  have := (h.pd q hq).1.2.2.2 i hi
  omega
theorem ownL_len (ps : List PdR) (n : Nat) : (ownL ps n).length ≤ ps.length := List.length_filter_le _ _

theorem getD_memI (l : List Int) (j : Nat) (hj : j < l.length) : l.getD j 0 ∈ l := by simp [List.getD, hj]
theorem gok_M (g : Gm) (h : gOkB g = true) (hwf : WfG g) : ∃ N : Nat, g.names = N ∧ 1 ≤ N ∧ GOkM N g.prods ∧ (∀ p ∈ g.prods, ∀ x ∈ p.right, x < g.terms) ∧ 0 ≤ g.terms ∧ g.terms ≤ 300 := by
  unfold gOkB at h
  simp only [Bool.and_eq_true] at h
  obtain ⟨h1, _, _, h4⟩ := h
  have hh : HeadG g := of_decide_eq_true h1
  obtain ⟨a1, a2, a3, a4, a5, a6, a7, a8, a9⟩ := hh
  have hp : ∀ p ∈ g.prods, 0 ≤ p.left ∧ p.left < g.names ∧ p.right.length ≤ 20 ∧ ∀ x ∈ p.right, x < g.terms ∧ -g.names ≤ x := fun p hp => by
    have h5 := List.all_eq_true.1 h4 p hp
    unfold pdB at h5
    simp only [Bool.and_eq_true, decide_eq_true_eq] at h5
    obtain ⟨⟨⟨⟨⟨b1, b2⟩, b3⟩, b4⟩, b5⟩, b6⟩ := h5
    refine ⟨b1, b2, b5, fun x hx => ?_⟩
    have h7 := List.all_eq_true.1 b6 x hx
    unfold symB at h7
    simpa only [Bool.and_eq_true, decide_eq_true_eq] using h7
  refine ⟨g.names.toNat, by omega, by omega, ⟨by omega, a7, fun m hm => ?_⟩, fun p hp' x hx => ((hp p hp').2.2.2 x hx).1, a1, a2⟩
  have hmem : g.prods.getD m noPd ∈ g.prods := by simp [List.getD, hm]
  obtain ⟨c1, c2, c3, c4⟩ := hp _ hmem
  refine ⟨⟨c1, by omega, c3, fun j hj => ?_⟩, fun j hj => ?_⟩
  · have := (c4 _ (getD_memI _ j hj)).2
    omega
  · exact hwf _ hmem _ (getD_memI _ j hj)

end Go.Proofs.YtmkimaceioacgaaDoor
