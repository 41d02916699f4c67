/- Texts of the proof, put together: GRepM. -/
import Derived.Test.YtmkimaceioacgaaDoorGk13
import Derived.Test.YtmkimaceioacgaaDoorGk08
namespace Go.Proofs.YtmkimaceioacgaaDoor
open Go.RowKit
set_option linter.unusedVariables false
set_option maxRecDepth 100000

/-- copy where an element takes five cells -/
theorem copy_five (P : Program) (w : World) (dT sT ty elem : TypeId) (g o dLen dCap : Nat) (a : Addr) (sLen sCap : Nat) (cur : List Value) (t : TypeId) (cs : List Value) (m : Nat)
    (hu : P.underlying dT = some (.slice elem)) (hs : (P.info? elem).map (·.size) = some 5) (hg : w.heap[g]? = some (.cells cur.toArray t (0, 0))) (hm : m = Nat.min sLen dLen) (hn : cs.length = m * 5)
    (hsrc : ∀ j v, cs[j]? = some v → w.cell? (a.add j) = some v) (hfit : o + cs.length ≤ cur.length) (h1 : ∀ v ∈ cs, v.oneCell' = true) :
    (Builtin.copy_ #[dT, sT] ty #[.slice (some ⟨g, o, none⟩) dLen dCap, .slice (some a) sLen sCap]).run P w = .ok (goInt m) (w.setRow g (splice cur o cs).toArray) := by
  have hl := run_loadCells_list (P := P) w a cs hsrc
  have hst := run_storeCells_at P g o t cs 0 cur.toArray w hg (by simpa using hfit) h1
  cases hq : P.info? elem with
  | none => simp [hq] at hs
  | some i =>
    have hi : i.size = 5 := by simpa [hq] using hs
    simp [Builtin.copy_, run_underlying hu, Builtin.lenOf, Builtin.firstCells, sizeOf, typeInfo, hq, hi, ← hm, hl, hst, splice, ← hn]

open Go.RowKit in
theorem wpList_copy_five {P : Program} {w : World} {ops : Array Oper} {rest : List Oper} {o : Oper} {a : Act} {Q : Exit → Act → World → Prop} (hgd : o.guard = none) (d s : Operand) (dT sT : TypeId)
    (ho : o.op = .call { callee := .builtin .copy, args := #[d, s], argTypes := #[dT, sT] }) (elem : TypeId) (hu : P.underlying dT = some (.slice elem)) (hs : (P.info? elem).map (·.size) = some 5)
    (g off dLen dCap : Nat) (ad : Addr) (sLen sCap : Nat) (hd : a.eval d = .slice (some ⟨g, off, none⟩) dLen dCap) (hsv : a.eval s = .slice (some ad) sLen sCap) (cur : List Value) (t : TypeId) (cs : List Value) (m : Nat)
    (hg : w.heap[g]? = some (.cells cur.toArray t (0, 0))) (hm : m = Nat.min sLen dLen) (hn : cs.length = m * 5)
    (hsrc : ∀ j v, cs[j]? = some v → w.cell? (ad.add j) = some v) (hfit : off + cs.length ≤ cur.length) (h1 : ∀ v ∈ cs, v.oneCell' = true) (B : Nat) (w0 : World) (hb : Below B w0 w) (hB : B ≤ g)
    (h : ∀ w', Hid (w'.heap[g]? = some (.cells (splice cur off cs).toArray t (0, 0))) → Below B w0 w' → wpList P ops Q rest (a.put o.dst (goInt m)) w') : wpList P ops Q (o :: rest) a w := by
  refine wpList_plain hgd fun K hK => ?_
  have hrun := copy_five P w dT sT o.type elem g off dLen dCap ad sLen sCap cur t cs m hu hs hg hm hn hsrc hfit h1
  unfold Oper.wp
  simp [execOp, ho, resolve, invoke, builtin, hd, hsv, hrun, Result.andThen]
  exact hK _ _ (h _ (show _ = _ by simpa using setRow_heap w g _ _ t _ hg) (below_setRow hb hB _))
open Go.RowKit in
theorem step_copy_five {P : Program} {ops : Array Oper} {o : Oper} {a : Act} {w : World} {K : Act → World → Prop} {Q : Exit → Act → World → Prop} {E : Prop} (hgd : o.guard = none) (d s : Operand) (dT sT : TypeId)
    (ho : o.op = .call { callee := .builtin .copy, args := #[d, s], argTypes := #[dT, sT] }) (elem : TypeId) (hu : P.underlying dT = some (.slice elem)) (hs : (P.info? elem).map (·.size) = some 5)
    (g off dLen dCap : Nat) (ad : Addr) (sLen sCap : Nat) (hd : a.eval d = .slice (some ⟨g, off, none⟩) dLen dCap) (hsv : a.eval s = .slice (some ad) sLen sCap) (cur : List Value) (t : TypeId) (cs : List Value) (m : Nat)
    (hg : w.heap[g]? = some (.cells cur.toArray t (0, 0))) (hm : m = Nat.min sLen dLen) (hn : cs.length = m * 5)
    (hsrc : ∀ j v, cs[j]? = some v → w.cell? (ad.add j) = some v) (hfit : off + cs.length ≤ cur.length) (h1 : ∀ v ∈ cs, v.oneCell' = true) (B : Nat) (w0 : World) (hb : Below B w0 w) (hB : B ≤ g)
    (h : ∀ w', Hid (w'.heap[g]? = some (.cells (splice cur off cs).toArray t (0, 0))) → Below B w0 w' → K (a.put o.dst (goInt m)) w') :
    if Region.wanted o (yielded ops a.tmps) = true then Oper.wp P o a w K Q else E := by
  have hw : Region.wanted o (yielded ops a.tmps) = true := by simp [Region.wanted, hgd]
  rw [if_pos hw]
  have hrun := copy_five P w dT sT o.type elem g off dLen dCap ad sLen sCap cur t cs m hu hs hg hm hn hsrc hfit h1
  unfold Oper.wp
  simp [execOp, ho, resolve, invoke, builtin, hd, hsv, hrun, Result.andThen]
  exact h _ (show _ = _ by simpa using setRow_heap w g _ _ t _ hg) (below_setRow hb hB _)

def mkC (m : Nat) : List Value := [.int .u64 m, .int .u64 0, .int .u64 0, .int .u64 0, .int .u64 0]
def mksL (L : List Nat) : List Value := L.flatMap mkC
/-- a row of sets that fills a block -/
def RowM (w : World) (D : Nat) (L : List Nat) : Prop := w.heap[D]? = some (.cells (mksL L).toArray 76 (0, 0))
def zerosL (n : Nat) : List Value := List.replicate n (.int .u64 0)
theorem zeros_mks (N : Nat) : mksL (List.replicate N 0) = zerosL (N * 5) := by
  induction N with
  | zero => rfl
  | succ n ih =>
    unfold mksL at *
    rw [List.replicate_succ, List.flatMap_cons, ih]
    unfold zerosL mkC
    rw [show (n + 1) * 5 = 5 + n * 5 by omega, ← List.replicate_append_replicate]
    rfl
theorem zeros_splice (K o m : Nat) (h : o + m ≤ K) : splice (zerosL K) o (zerosL m) = zerosL K := by
  unfold splice zerosL
  rw [List.take_replicate, List.drop_replicate, List.length_replicate, List.replicate_append_replicate, List.replicate_append_replicate]
  congr 1
  omega
theorem Tryd.infoMset : (Tryd.prog.info? 76).map (fun i => (i.zero, i.size, i.bytes)) = some (some (.agg #[.int .u64 0, .int .u64 0, .int .u64 0, .int .u64 0, .int .u64 0]), 5, 40) := by kernel_rfl
theorem Tryd.infoMsetSz : (Tryd.prog.info? 76).map (·.size) = some 5 := by kernel_rfl
theorem made5 (m : Nat) : madeCells #[.int .u64 0, .int .u64 0, .int .u64 0, .int .u64 0, .int .u64 0] m = (zerosL m).toArray := by
  apply Array.ext
  · simp [madeCells, zerosL]
  · intro i h1 h2
    have : i % 5 = 0 ∨ i % 5 = 1 ∨ i % 5 = 2 ∨ i % 5 = 3 ∨ i % 5 = 4 := by omega
    rcases this with e | e | e | e | e <;> simp [madeCells, zerosL, e]
theorem makeMsets (m : Nat) (hm : m ≤ 1000000) (W : World) : (Instr.makeSlice 46 (.int .i64 m) (.int .i64 m)).run Tryd.prog W = .ok (.slice (some ⟨W.heap.size, 0, none⟩) m m) (W.alloc (.cells (zerosL (m * 5)).toArray 76)) := by
  obtain ⟨i0, hi, hz0, hz1, hz2⟩ := infoParts Tryd.infoMset
  have := run_make W 46 76 i0 (.agg #[.int .u64 0, .int .u64 0, .int .u64 0, .int .u64 0, .int .u64 0]) Tryd.underlying46 hi hz0 .i64 .i64 m m (by omega) (by omega) (by rw [hz2]; omega) (by omega)
  rw [this, hz1]
  have e : madeCells (Value.agg #[.int .u64 0, .int .u64 0, .int .u64 0, .int .u64 0, .int .u64 0]).cells ((m : Int).toNat * 5) = (zerosL (m * 5)).toArray := by
    rw [Int.toNat_natCast]
    exact made5 _
  rw [e]
  simp

set_option maxHeartbeats 2000000 in
theorem repeatM_any (b off c N : Nat) (hN1 : 1 ≤ N) (hN : N ≤ 300) (w : World) (hb : b < w.heap.size) (hc : ∀ j, j < 5 → w.cell? ⟨b, off + j, none⟩ = some (.int .u64 0)) :
    Calls Tryd.prog 68 #[.slice (some ⟨b, off, none⟩) 1 c, .int .i64 N] w fun e w' => e = .returned (.slice (some ⟨w.heap.size, 0, none⟩) N N) ∧ RowM w' w.heap.size (List.replicate N 0) ∧ Below w.heap.size w w' := by
  have hmk := makeMsets N (by omega) w
  have hmul := Tryd.bits_Mul 1 N (by omega) (by omega) w
  rw [show (1 * N / 18446744073709551616 : Nat) = 0 by omega, show (1 * N % 18446744073709551616 : Nat) = N by omega] at hmul
  have HR0 : Hid ((w.alloc (.cells (zerosL (N * 5)).toArray 76)).heap[w.heap.size]? = some (.cells (zerosL (N * 5)).toArray 76 (0, 0))) := by
    show (w.heap.push _)[w.heap.size]? = _
    rw [Array.getElem?_push_size]
  have hb0 := alloc_below w (.cells (zerosL (N * 5)).toArray 76)
  have HMIN : Hid (1 = Nat.min 1 N) := by show 1 = min 1 N; omega
  have HC : Hid (∀ j, j < 5 → w.cell? ⟨b, off + j, none⟩ = some (.int .u64 0)) := hc
  clear hc
  go_enter Tryd.func68, Tryd.ntmps68
  go_wp2_with fail
  refine hmul.mono ?_
  rintro e w1 ⟨rfl, hw1⟩
  rw [hw1]
  clear hmul hw1 w1
  go_wp2_with (refine wpList_copy_five rfl _ _ 46 46 rfl 76 Tryd.underlying46 Tryd.infoMsetSz w.heap.size 0 N N ⟨b, off, none⟩ 1 c rfl rfl (zerosL (N * 5)) 76 (zerosL 5) 1 HR0.out HMIN.out rfl ?c1 ?c2 ?c3 w.heap.size w hb0 (Nat.le_refl _) ?_)
  case c1 =>
    intro j v hj
    have hj1 : j < 5 := by have := (List.getElem?_eq_some_iff.1 hj).1; simpa [zerosL] using this
    obtain rfl : v = .int .u64 0 := List.eq_of_mem_replicate (List.mem_of_getElem? hj)
    have hadd : (⟨b, off, none⟩ : Addr).add j = ⟨b, off + j, none⟩ := by unfold Addr.add; split <;> simp_all
    rw [hadd]
    exact (Below.cell hb0 (p := ⟨b, off + j, none⟩) hb).trans (HC.out j hj1)
  case c2 => simp [zerosL]; omega
  case c3 => intro v hv; rw [List.eq_of_mem_replicate hv]; rfl
  intro w2 HG2 hB2
  have HG3 : Hid (w2.heap[w.heap.size]? = some (.cells (zerosL (N * 5)).toArray 76 (0, 0))) := by
    have := HG2.out
    rw [zeros_splice _ _ _ (by omega)] at this
    exact this
  clear HG2 HR0 hb0 hmk HMIN HC
  go_wp2
  go_loopw [8] (fun nv wr => ∃ n : Nat, n ≤ N ∧ 0 < n ∧ nv = .int .i64 n ∧ Hid (wr.heap[w.heap.size]? = some (.cells (zerosL (N * 5)).toArray 76 (0, 0))) ∧ Below w.heap.size w wr) (fun nv _ => N - (intOf nv).toNat)
  case atStart => exact ⟨1, hN1, by omega, rfl, HG3, hB2⟩
  case round =>
    clear HG3 hB2
    obtain ⟨n, hn, hn0, rfl, HG, hbw⟩ := hrel
    by_cases hlt : n < N
    · obtain ⟨m, hm⟩ : ∃ m, m = Nat.min n (N - n) := ⟨_, rfl⟩
      have hm1 : m ≤ n := by rw [hm]; exact Nat.min_le_left _ _
      have hm2 : m ≤ N - n := by rw [hm]; exact Nat.min_le_right _ _
      have hm0 : 0 < m := by rw [hm]; exact Nat.lt_min.2 ⟨hn0, by omega⟩
      have HM : Hid (m = Nat.min n (N - n)) := hm
      clear hm
      have hDlt : w.heap.size < wr.heap.size := (Array.getElem?_eq_some_iff.1 HG.out).1
      have HCL : Hid (∀ j v, (zerosL (m * 5))[j]? = some v → wr.drew.cell? ((⟨w.heap.size, 0, none⟩ : Addr).add j) = some v) := fun j v hj => by
        have hj1 : j < m * 5 := by have := (List.getElem?_eq_some_iff.1 hj).1; simpa [zerosL] using this
        obtain rfl : v = .int .u64 0 := List.eq_of_mem_replicate (List.mem_of_getElem? hj)
        have hadd : (⟨w.heap.size, 0, none⟩ : Addr).add j = ⟨w.heap.size, j, none⟩ := by unfold Addr.add; split <;> simp_all
        rw [hadd]
        show wr.cell? _ = _
        rw [cell_of_row wr w.heap.size j _ 76 (0, 0) HG.out]
        have hjN : j < N * 5 := by omega
        simp [zerosL, hjN]
      have HGD : Hid (wr.drew.heap[w.heap.size]? = some (.cells (zerosL (N * 5)).toArray 76 (0, 0))) := HG.out
      have hbd : Below w.heap.size w wr.drew := hbw.trans ⟨rfl, rfl, rfl, Nat.le_refl _, fun _ _ => rfl⟩
      have hNn : ¬ N = n := by omega
      have HW : Hid (IntKind.i64.wrap ((n : Int) + (m : Int)) = ((n + m : Nat) : Int)) := by
        show _ = _
        rw [IntKind.wrap_i64]; omega
      have HLN : Hid ((zerosL (m * 5)).length = m * 5) := by show _ = _; simp [zerosL]
      clear HG
      go_wp2
      go_region_law (refine step_copy_five rfl (.tmp 41) (.tmp 44) 46 46 rfl 76 Tryd.underlying46 Tryd.infoMsetSz w.heap.size (n * 5) (N - n) (N - n) ⟨w.heap.size, 0, none⟩ n N (by simp [Act.eval, Act.put]) (by simp [Act.eval, Act.put]) (zerosL (N * 5)) 76 (zerosL (m * 5)) m HGD.out HM.out HLN.out HCL.out (by rw [HLN.out]; simp [zerosL]; omega) (by intro v hv; rw [List.eq_of_mem_replicate hv]; rfl) w.heap.size w hbd (Nat.le_refl _) ?_; intro w4 hg4 hb4)
      all_goals
        have HG4 : Hid (w4.heap[w.heap.size]? = some (.cells (zerosL (N * 5)).toArray 76 (0, 0))) := by
          have := hg4.out
          rw [zeros_splice _ _ _ (by omega)] at this
          exact this
        clear hg4 HGD HCL
        go_simp
        go_wp2
        go_roundw
        case rel => exact ⟨n + m, by omega, by omega, by rw [HW.out], HG4, hb4⟩
        case measure => rw [HW.out]; simp [intOf]; omega
    · obtain rfl : n = N := by omega
      have HE : Hid (RowM wr w.heap.size (List.replicate n 0)) := by
        show _ = _
        rw [HG.out, zeros_mks]
      clear HG
      go_wp2
      go_ret
      exact ⟨rfl, HE.out, hbw⟩

end Go.Proofs.YtmkimaceioacgaaDoor
