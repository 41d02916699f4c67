/- Texts of the proof, put together: GRepS, GRepT. -/
import Derived.Test.YtmkimaceioacgaaDoorGk28
import Derived.Test.YtmkimaceioacgaaDoorGk24
namespace Go.Proofs.YtmkimaceioacgaaDoor
open Go.RowKit
set_option linter.unusedVariables false
set_option maxRecDepth 100000

/-- copy where an element takes two cells -/
theorem copy_two (P : Program) (w : World) (dT sT ty elem : TypeId) (g o dLen dCap : Nat) (a : Addr) (sLen sCap : Nat) (cur : List Value) (t : TypeId) (cs : List Value) (m : Nat)
    (hu : P.underlying dT = some (.slice elem)) (hs : (P.info? elem).map (·.size) = some 2) (hg : w.heap[g]? = some (.cells cur.toArray t (0, 0))) (hm : m = Nat.min sLen dLen) (hn : cs.length = m * 2)
    (hsrc : ∀ j v, cs[j]? = some v → w.cell? (a.add j) = some v) (hfit : o + cs.length ≤ cur.length) (h1 : ∀ v ∈ cs, v.oneCell' = true) :
    (Builtin.copy_ #[dT, sT] ty #[.slice (some ⟨g, o, none⟩) dLen dCap, .slice (some a) sLen sCap]).run P w = .ok (goInt m) (w.setRow g (splice cur o cs).toArray) := by
  have hl := run_loadCells_list (P := P) w a cs hsrc
  have hst := run_storeCells_at P g o t cs 0 cur.toArray w hg (by simpa using hfit) h1
  cases hq : P.info? elem with
  | none => simp [hq] at hs
  | some i =>
    have hi : i.size = 2 := by simpa [hq] using hs
    simp [Builtin.copy_, run_underlying hu, Builtin.lenOf, Builtin.firstCells, sizeOf, typeInfo, hq, hi, ← hm, hl, hst, splice, ← hn]

open Go.RowKit in
theorem wpList_copy_two {P : Program} {w : World} {ops : Array Oper} {rest : List Oper} {o : Oper} {a : Act} {Q : Exit → Act → World → Prop} (hgd : o.guard = none) (d s : Operand) (dT sT : TypeId)
    (ho : o.op = .call { callee := .builtin .copy, args := #[d, s], argTypes := #[dT, sT] }) (elem : TypeId) (hu : P.underlying dT = some (.slice elem)) (hs : (P.info? elem).map (·.size) = some 2)
    (g off dLen dCap : Nat) (ad : Addr) (sLen sCap : Nat) (hd : a.eval d = .slice (some ⟨g, off, none⟩) dLen dCap) (hsv : a.eval s = .slice (some ad) sLen sCap) (cur : List Value) (t : TypeId) (cs : List Value) (m : Nat)
    (hg : w.heap[g]? = some (.cells cur.toArray t (0, 0))) (hm : m = Nat.min sLen dLen) (hn : cs.length = m * 2)
    (hsrc : ∀ j v, cs[j]? = some v → w.cell? (ad.add j) = some v) (hfit : off + cs.length ≤ cur.length) (h1 : ∀ v ∈ cs, v.oneCell' = true) (B : Nat) (w0 : World) (hb : Below B w0 w) (hB : B ≤ g)
    (h : ∀ w', Hid (w'.heap[g]? = some (.cells (splice cur off cs).toArray t (0, 0))) → Below B w0 w' → wpList P ops Q rest (a.put o.dst (goInt m)) w') : wpList P ops Q (o :: rest) a w := by
  refine wpList_plain hgd fun K hK => ?_
  have hrun := copy_two P w dT sT o.type elem g off dLen dCap ad sLen sCap cur t cs m hu hs hg hm hn hsrc hfit h1
  unfold Oper.wp
  simp [execOp, ho, resolve, invoke, builtin, hd, hsv, hrun, Result.andThen]
  exact hK _ _ (h _ (show _ = _ by simpa using setRow_heap w g _ _ t _ hg) (below_setRow hb hB _))
open Go.RowKit in
theorem step_copy_two {P : Program} {ops : Array Oper} {o : Oper} {a : Act} {w : World} {K : Act → World → Prop} {Q : Exit → Act → World → Prop} {E : Prop} (hgd : o.guard = none) (d s : Operand) (dT sT : TypeId)
    (ho : o.op = .call { callee := .builtin .copy, args := #[d, s], argTypes := #[dT, sT] }) (elem : TypeId) (hu : P.underlying dT = some (.slice elem)) (hs : (P.info? elem).map (·.size) = some 2)
    (g off dLen dCap : Nat) (ad : Addr) (sLen sCap : Nat) (hd : a.eval d = .slice (some ⟨g, off, none⟩) dLen dCap) (hsv : a.eval s = .slice (some ad) sLen sCap) (cur : List Value) (t : TypeId) (cs : List Value) (m : Nat)
    (hg : w.heap[g]? = some (.cells cur.toArray t (0, 0))) (hm : m = Nat.min sLen dLen) (hn : cs.length = m * 2)
    (hsrc : ∀ j v, cs[j]? = some v → w.cell? (ad.add j) = some v) (hfit : off + cs.length ≤ cur.length) (h1 : ∀ v ∈ cs, v.oneCell' = true) (B : Nat) (w0 : World) (hb : Below B w0 w) (hB : B ≤ g)
    (h : ∀ w', Hid (w'.heap[g]? = some (.cells (splice cur off cs).toArray t (0, 0))) → Below B w0 w' → K (a.put o.dst (goInt m)) w') :
    if Region.wanted o (yielded ops a.tmps) = true then Oper.wp P o a w K Q else E := by
  have hw : Region.wanted o (yielded ops a.tmps) = true := by simp [Region.wanted, hgd]
  rw [if_pos hw]
  have hrun := copy_two P w dT sT o.type elem g off dLen dCap ad sLen sCap cur t cs m hu hs hg hm hn hsrc hfit h1
  unfold Oper.wp
  simp [execOp, ho, resolve, invoke, builtin, hd, hsv, hrun, Result.andThen]
  exact h _ (show _ = _ by simpa using setRow_heap w g _ _ t _ hg) (below_setRow hb hB _)
/-- the first n of N elements of two cells are these -/
def rep2 (x y z u : Value) (n N : Nat) : List Value := (List.replicate n [x, y]).flatten ++ (List.replicate (N - n) [z, u]).flatten
theorem flat_len (n : Nat) (x y : Value) : ((List.replicate n [x, y]).flatten).length = n * 2 := by
  induction n with
  | zero => rfl
  | succ n ih => rw [List.replicate_succ, List.flatten_cons, List.length_append, ih]; simp; omega
theorem rep2_len (x y z u : Value) (n N : Nat) (h : n ≤ N) : (rep2 x y z u n N).length = N * 2 := by
  unfold rep2; rw [List.length_append, flat_len, flat_len]; omega
theorem flat_add (m k : Nat) (x y : Value) : (List.replicate (m + k) [x, y]).flatten = (List.replicate m [x, y]).flatten ++ (List.replicate k [x, y]).flatten := by
  rw [← List.replicate_append_replicate, List.flatten_append]
theorem rep2_splice (x y z u : Value) (n m N : Nat) (h : n + m ≤ N) : splice (rep2 x y z u n N) (n * 2) ((List.replicate m [x, y]).flatten) = rep2 x y z u (n + m) N := by
  unfold splice rep2
  have e1 : (List.replicate (N - n) [z, u]).flatten = (List.replicate m [z, u]).flatten ++ (List.replicate (N - (n + m)) [z, u]).flatten := by
    rw [← flat_add, show m + (N - (n + m)) = N - n by omega]
  rw [List.take_append_of_le_length (by rw [flat_len]; exact Nat.le_refl _), List.take_of_length_le (by rw [flat_len]; exact Nat.le_refl _), e1, flat_len, flat_add n m, List.append_assoc]
  congr 2
  rw [← List.append_assoc, List.drop_append, List.drop_eq_nil_of_le (by rw [List.length_append, flat_len, flat_len]; exact Nat.le_refl _), List.nil_append, List.length_append, flat_len, flat_len, Nat.sub_self, List.drop_zero]
theorem flat_get (x y : Value) : ∀ (n j : Nat), j < n * 2 → ((List.replicate n [x, y]).flatten)[j]? = some (if j % 2 = 0 then x else y)
  | 0, j, h => by omega
  | n + 1, j, h => by
    rw [List.replicate_succ, List.flatten_cons]
    match j with
    | 0 => simp
    | 1 => simp
    | j + 2 =>
      have ih := flat_get x y n j (by omega)
      rw [List.getElem?_append_right (by simp)]
      simp only [List.length_cons, List.length_nil, Nat.zero_add, Nat.add_sub_cancel]
      rw [ih, show (j + 2) % 2 = j % 2 by omega]
theorem rep2_get (x y z u : Value) (n N j : Nat) (h : j < n * 2) : (rep2 x y z u n N)[j]? = some (if j % 2 = 0 then x else y) := by
  unfold rep2
  rw [List.getElem?_append_left (by rw [flat_len]; exact h)]
  exact flat_get x y n j h
theorem flat_mem (x y v : Value) (n : Nat) (h : v ∈ (List.replicate n [x, y]).flatten) : v = x ∨ v = y := by
  obtain ⟨l, hl, hv⟩ := List.mem_flatten.1 h
  rw [List.eq_of_mem_replicate hl] at hv
  simpa using hv

end Go.Proofs.YtmkimaceioacgaaDoor

namespace Go.Proofs.YtmkimaceioacgaaDoor
open Go.RowKit
set_option linter.unusedVariables false
set_option maxRecDepth 100000

theorem Tryd.infoSent : (Tryd.prog.info? 40).map (fun i => (i.zero, i.size, i.bytes)) = some (some (.agg #[.int .i64 0, .string ByteArray.empty]), 2, 24) := by kernel_rfl
theorem Tryd.infoSentSz : (Tryd.prog.info? 40).map (·.size) = some 2 := by kernel_rfl
theorem made2 (z u : Value) (x y : Value) (m : Nat) : madeCells #[z, u] m = (rep2 x y z u 0 (m / 2)).toArray ∨ m % 2 = 1 := by
  by_cases h : m % 2 = 1
  · exact .inr h
  · left
    have e1 : (madeCells #[z, u] m).size = m := by simp [madeCells]
    apply Array.ext
    · rw [e1, List.size_toArray, rep2_len _ _ _ _ _ _ (Nat.zero_le _)]
      omega
    · intro i h1 h2
      have hi : i < m := by rw [e1] at h1; exact h1
      have hg : (rep2 x y z u 0 (m / 2))[i]? = some (if i % 2 = 0 then z else u) := by
        unfold rep2
        simp only [List.replicate_zero, List.flatten_nil, List.nil_append, Nat.sub_zero]
        exact flat_get z u (m / 2) i (by omega)
      have hr : (rep2 x y z u 0 (m / 2)).toArray[i] = if i % 2 = 0 then z else u := by
        rw [List.getElem_toArray]
        exact (List.getElem?_eq_some_iff.1 hg).2
      rw [hr]
      rcases Nat.mod_two_eq_zero_or_one i with e | e
      · simp [madeCells, e]
      · simp [madeCells, e]
theorem makeSents (x y : Value) (m : Nat) (hm : m ≤ 1000000) (W : World) : (Instr.makeSlice 41 (.int .i64 m) (.int .i64 m)).run Tryd.prog W = .ok (.slice (some ⟨W.heap.size, 0, none⟩) m m) (W.alloc (.cells (rep2 x y (.int .i64 0) (.string ByteArray.empty) 0 m).toArray 40)) := by
  obtain ⟨i0, hi, hz0, hz1, hz2⟩ := infoParts Tryd.infoSent
  have := run_make W 41 40 i0 (.agg #[.int .i64 0, .string ByteArray.empty]) Tryd.underlying41 hi hz0 .i64 .i64 m m (by omega) (by omega) (by rw [hz2]; omega) (by omega)
  rw [this, hz1]
  have e : madeCells (Value.agg #[.int .i64 0, .string ByteArray.empty]).cells ((m : Int).toNat * 2) = (rep2 x y (.int .i64 0) (.string ByteArray.empty) 0 m).toArray := by
    have h1 := (made2 (.int .i64 0) (.string ByteArray.empty) x y (m * 2)).resolve_right (by omega)
    rw [show m * 2 / 2 = m by omega] at h1
    rw [Int.toNat_natCast, ← h1]
    rfl
  rw [e]
  simp

set_option maxHeartbeats 2000000 in
theorem repeatS_any (a : SF) (b off c N : Nat) (hN1 : 1 ≤ N) (hN : N ≤ 300) (w : World) (hb : b < w.heap.size) (hc0 : w.cell? ⟨b, off, none⟩ = some (.int .i64 (knF a))) (hc1 : w.cell? ⟨b, off + 1, none⟩ = some (.string (encB a))) :
    Calls Tryd.prog 54 #[.slice (some ⟨b, off, none⟩) 1 c, .int .i64 N] w fun e w' => e = .returned (.slice (some ⟨w.heap.size, 0, none⟩) N N) ∧ RowS w' w.heap.size (List.replicate N a) ∧ Below w.heap.size w w' := by
  obtain ⟨x, hx⟩ : ∃ x, x = Value.int .i64 (knF a) := ⟨_, rfl⟩
  obtain ⟨y, hy⟩ : ∃ y, y = Value.string (encB a) := ⟨_, rfl⟩
  have HX : Hid (x = Value.int .i64 (knF a)) := hx
  have HY : Hid (y = Value.string (encB a)) := hy
  have hx1 : x.oneCell' = true := by rw [hx]; rfl
  have hy1 : y.oneCell' = true := by rw [hy]; rfl
  rw [← hx] at hc0
  rw [← hy] at hc1
  clear hx hy
  obtain ⟨u, hu⟩ : ∃ u, u = Value.string ByteArray.empty := ⟨_, rfl⟩
  have hmk := makeSents x y N (by omega) w
  rw [← hu] at hmk
  clear hu
  have hmul := Tryd.bits_Mul 1 N (by omega) (by omega) w
  rw [show (1 * N / 18446744073709551616 : Nat) = 0 by omega, show (1 * N % 18446744073709551616 : Nat) = N by omega] at hmul
  have HR0 : Hid ((w.alloc (.cells (rep2 x y (.int .i64 0) u 0 N).toArray 40)).heap[w.heap.size]? = some (.cells (rep2 x y (.int .i64 0) u 0 N).toArray 40 (0, 0))) := by
    show (w.heap.push _)[w.heap.size]? = _
    rw [Array.getElem?_push_size]
  have hb0 := alloc_below w (.cells (rep2 x y (.int .i64 0) u 0 N).toArray 40)
  have HMIN : Hid (1 = Nat.min 1 N) := by show 1 = min 1 N; omega
  go_enter Tryd.func54, Tryd.ntmps54
  go_wp2_with fail
  refine hmul.mono ?_
  rintro e w1 ⟨rfl, hw1⟩
  rw [hw1]
  clear hmul hw1 w1
  go_wp2_with (refine wpList_copy_two rfl _ _ 41 41 rfl 40 Tryd.underlying41 Tryd.infoSentSz w.heap.size 0 N N ⟨b, off, none⟩ 1 c rfl rfl (rep2 x y (.int .i64 0) u 0 N) 40 ([x, y]) 1 HR0.out HMIN.out rfl ?c1 ?c2 ?c3 w.heap.size w hb0 (Nat.le_refl _) ?_)
  case c1 =>
    intro j v hj
    match j, hj with
    | 0, hj =>
      obtain rfl : x = v := by simpa using hj
      have hadd : (⟨b, off, none⟩ : Addr).add 0 = ⟨b, off, none⟩ := by unfold Addr.add; split <;> simp_all
      rw [hadd]
      exact (Below.cell hb0 (p := ⟨b, off, none⟩) hb).trans hc0
    | 1, hj =>
      obtain rfl : y = v := by simpa using hj
      have hadd : (⟨b, off, none⟩ : Addr).add 1 = ⟨b, off + 1, none⟩ := by unfold Addr.add; split <;> simp_all
      rw [hadd]
      exact (Below.cell hb0 (p := ⟨b, off + 1, none⟩) hb).trans hc1
  case c2 => rw [rep2_len _ _ _ _ _ _ (Nat.zero_le _)]; simp; omega
  case c3 => intro v hv; simp at hv; rcases hv with rfl | rfl <;> assumption
  intro w2 HG2 hB2
  have HG3 : Hid (w2.heap[w.heap.size]? = some (.cells (rep2 x y (.int .i64 0) u 1 N).toArray 40 (0, 0))) := by
    have := HG2.out
    have e := rep2_splice x y (.int .i64 0) u 0 1 N (by omega)
    rw [show ((List.replicate 1 [x, y]).flatten) = [x, y] by simp, Nat.zero_mul, Nat.zero_add] at e
    rw [e] at this
    exact this
  clear HG2 HR0 hb0 hmk HMIN
  go_wp2
  go_loopw [8] (fun nv wr => ∃ n : Nat, n ≤ N ∧ 0 < n ∧ nv = .int .i64 n ∧ Hid (wr.heap[w.heap.size]? = some (.cells (rep2 x y (.int .i64 0) u n N).toArray 40 (0, 0))) ∧ Below w.heap.size w wr) (fun nv _ => N - (intOf nv).toNat)
  case atStart => exact ⟨1, hN1, by omega, rfl, HG3, hB2⟩
  case round =>
    clear HG3 hB2
    obtain ⟨n, hn, hn0, rfl, HG, hbw⟩ := hrel
    by_cases hlt : n < N
    · obtain ⟨m, hm⟩ : ∃ m, m = Nat.min n (N - n) := ⟨_, rfl⟩
      have hm1 : m ≤ n := by rw [hm]; exact Nat.min_le_left _ _
      have hm2 : m ≤ N - n := by rw [hm]; exact Nat.min_le_right _ _
      have hm0 : 0 < m := by rw [hm]; exact Nat.lt_min.2 ⟨hn0, by omega⟩
      have HM : Hid (m = Nat.min n (N - n)) := hm
      clear hm
      have hDlt : w.heap.size < wr.heap.size := (Array.getElem?_eq_some_iff.1 HG.out).1
      have HCL : Hid (∀ j v, ((List.replicate m [x, y]).flatten)[j]? = some v → wr.drew.cell? ((⟨w.heap.size, 0, none⟩ : Addr).add j) = some v) := fun j v hj => by
        have hj1 := (List.getElem?_eq_some_iff.1 hj).1
        rw [flat_len] at hj1
        rw [flat_get x y m j hj1] at hj
        have hadd : (⟨w.heap.size, 0, none⟩ : Addr).add j = ⟨w.heap.size, j, none⟩ := by unfold Addr.add; split <;> simp_all
        rw [hadd]
        show wr.cell? _ = _
        rw [cell_of_row wr w.heap.size j _ 40 (0, 0) HG.out]
        have h9 := rep2_get x y (.int .i64 0) u n N j (by omega)
        rw [hj] at h9
        simpa using h9
      have HGD : Hid (wr.drew.heap[w.heap.size]? = some (.cells (rep2 x y (.int .i64 0) u n N).toArray 40 (0, 0))) := HG.out
      have hbd : Below w.heap.size w wr.drew := hbw.trans ⟨rfl, rfl, rfl, Nat.le_refl _, fun _ _ => rfl⟩
      have hNn : ¬ N = n := by omega
      have HW : Hid (IntKind.i64.wrap ((n : Int) + (m : Int)) = ((n + m : Nat) : Int)) := by
        show _ = _
        rw [IntKind.wrap_i64]; omega
      clear HG
      go_wp2
      go_region_law (refine step_copy_two rfl (.tmp 41) (.tmp 44) 41 41 rfl 40 Tryd.underlying41 Tryd.infoSentSz w.heap.size (n * 2) (N - n) (N - n) ⟨w.heap.size, 0, none⟩ n N (by simp [Act.eval, Act.put]) (by simp [Act.eval, Act.put]) (rep2 x y (.int .i64 0) u n N) 40 ((List.replicate m [x, y]).flatten) m HGD.out HM.out (flat_len m x y) HCL.out (by rw [rep2_len _ _ _ _ _ _ hn, flat_len]; omega) (by intro v hv; rcases flat_mem x y v m hv with rfl | rfl <;> assumption) w.heap.size w hbd (Nat.le_refl _) ?_; intro w4 hg4 hb4)
      all_goals
        have HG4 : Hid (w4.heap[w.heap.size]? = some (.cells (rep2 x y (.int .i64 0) u (n + m) N).toArray 40 (0, 0))) := by
          have := hg4.out
          rw [rep2_splice x y _ u n m N (by omega)] at this
          exact this
        clear hg4 HGD HCL
        go_simp
        go_wp2
        go_roundw
        case rel => exact ⟨n + m, by omega, by omega, by rw [HW.out], HG4, hb4⟩
        case measure => rw [HW.out]; simp [intOf]; omega
    · obtain rfl : n = N := by omega
      have HE : Hid (RowS wr w.heap.size (List.replicate n a)) := by
        show _ = _
        rw [HG.out, HX.out, HY.out]
        congr 2
        unfold rep2 sfC
        rw [Nat.sub_self]
        simp only [List.replicate_zero, List.flatten_nil, List.append_nil]
        rw [List.flatMap_def, List.map_replicate]
      clear HG
      go_wp2
      go_ret
      exact ⟨rfl, HE.out, hbw⟩

end Go.Proofs.YtmkimaceioacgaaDoor
