/- The program: a sentence again and again: the walk. -/
import Derived.Test.YtbgnhegfabpjnaaGRepS
namespace Go.Proofs.Ytbgnhegfabpjnaa
open Go.RowKit
set_option linter.unusedVariables false
set_option maxRecDepth 100000

theorem Try.infoSent : (Try.prog.info? 35).map (fun i => (i.zero, i.size, i.bytes)) = some (some (.agg #[.int .i64 0, .string ByteArray.empty]), 2, 24) := by kernel_rfl
theorem Try.infoSentSz : (Try.prog.info? 35).map (·.size) = some 2 := by kernel_rfl
theorem made2 (z u : Value) (x y : Value) (m : Nat) : madeCells #[z, u] m = (rep2 x y z u 0 (m / 2)).toArray ∨ m % 2 = 1 := by
  by_cases h : m % 2 = 1
  · exact .inr h
  · left
    have e1 : (madeCells #[z, u] m).size = m := by simp [madeCells]
    apply Array.ext
    · rw [e1, List.size_toArray, rep2_len _ _ _ _ _ _ (Nat.zero_le _)]
      omega
    · intro i h1 h2
      have hi : i < m := by rw [e1] at h1; exact h1
      have hg : (rep2 x y z u 0 (m / 2))[i]? = some (if i % 2 = 0 then z else u) := by
        unfold rep2
        simp only [List.replicate_zero, List.flatten_nil, List.nil_append, Nat.sub_zero]
        exact flat_get z u (m / 2) i (by omega)
      have hr : (rep2 x y z u 0 (m / 2)).toArray[i] = if i % 2 = 0 then z else u := by
        rw [List.getElem_toArray]
        exact (List.getElem?_eq_some_iff.1 hg).2
      rw [hr]
      rcases Nat.mod_two_eq_zero_or_one i with e | e
      · simp [madeCells, e]
      · simp [madeCells, e]
theorem makeSents (x y : Value) (m : Nat) (hm : m ≤ 1000000) (W : World) : (Instr.makeSlice 36 (.int .i64 m) (.int .i64 m)).run Try.prog W = .ok (.slice (some ⟨W.heap.size, 0, none⟩) m m) (W.alloc (.cells (rep2 x y (.int .i64 0) (.string ByteArray.empty) 0 m).toArray 35)) := by
  obtain ⟨i0, hi, hz0, hz1, hz2⟩ := infoParts Try.infoSent
  have := run_make W 36 35 i0 (.agg #[.int .i64 0, .string ByteArray.empty]) Try.underlying36 hi hz0 .i64 .i64 m m (by omega) (by omega) (by rw [hz2]; omega) (by omega)
  rw [this, hz1]
  have e : madeCells (Value.agg #[.int .i64 0, .string ByteArray.empty]).cells ((m : Int).toNat * 2) = (rep2 x y (.int .i64 0) (.string ByteArray.empty) 0 m).toArray := by
    have h1 := (made2 (.int .i64 0) (.string ByteArray.empty) x y (m * 2)).resolve_right (by omega)
    rw [show m * 2 / 2 = m by omega] at h1
    rw [Int.toNat_natCast, ← h1]
    rfl
  rw [e]
  simp

set_option maxHeartbeats 2000000 in
theorem repeatS_any (a : SF) (b off c N : Nat) (hN1 : 1 ≤ N) (hN : N ≤ 300) (w : World) (hb : b < w.heap.size) (hc0 : w.cell? ⟨b, off, none⟩ = some (.int .i64 (knF a))) (hc1 : w.cell? ⟨b, off + 1, none⟩ = some (.string (encB a))) :
    Calls Try.prog 43 #[.slice (some ⟨b, off, none⟩) 1 c, .int .i64 N] w fun e w' => e = .returned (.slice (some ⟨w.heap.size, 0, none⟩) N N) ∧ RowS w' w.heap.size (List.replicate N a) ∧ Below w.heap.size w w' := by
  obtain ⟨x, hx⟩ : ∃ x, x = Value.int .i64 (knF a) := ⟨_, rfl⟩
  obtain ⟨y, hy⟩ : ∃ y, y = Value.string (encB a) := ⟨_, rfl⟩
  have HX : Hid (x = Value.int .i64 (knF a)) := hx
  have HY : Hid (y = Value.string (encB a)) := hy
  have hx1 : x.oneCell' = true := by rw [hx]; rfl
  have hy1 : y.oneCell' = true := by rw [hy]; rfl
  rw [← hx] at hc0
  rw [← hy] at hc1
  clear hx hy
  obtain ⟨u, hu⟩ : ∃ u, u = Value.string ByteArray.empty := ⟨_, rfl⟩
  have hmk := makeSents x y N (by omega) w
  rw [← hu] at hmk
  clear hu
  have hmul := Try.bits_Mul 1 N (by omega) (by omega) w
  rw [show (1 * N / 18446744073709551616 : Nat) = 0 by omega, show (1 * N % 18446744073709551616 : Nat) = N by omega] at hmul
  have HR0 : Hid ((w.alloc (.cells (rep2 x y (.int .i64 0) u 0 N).toArray 35)).heap[w.heap.size]? = some (.cells (rep2 x y (.int .i64 0) u 0 N).toArray 35 (0, 0))) := by
    show (w.heap.push _)[w.heap.size]? = _
    rw [Array.getElem?_push_size]
  have hb0 := alloc_below w (.cells (rep2 x y (.int .i64 0) u 0 N).toArray 35)
  have HMIN : Hid (1 = Nat.min 1 N) := by show 1 = min 1 N; omega
  go_enter Try.func43, Try.ntmps43
  go_wp2_with fail
  refine hmul.mono ?_
  rintro e w1 ⟨rfl, hw1⟩
  rw [hw1]
  clear hmul hw1 w1
  go_wp2_with (refine wpList_copy_two rfl _ _ 36 36 rfl 35 Try.underlying36 Try.infoSentSz w.heap.size 0 N N ⟨b, off, none⟩ 1 c rfl rfl (rep2 x y (.int .i64 0) u 0 N) 35 ([x, y]) 1 HR0.out HMIN.out rfl ?c1 ?c2 ?c3 w.heap.size w hb0 (Nat.le_refl _) ?_)
  case c1 =>
    intro j v hj
    match j, hj with
    | 0, hj =>
      obtain rfl : x = v := by simpa using hj
      have hadd : (⟨b, off, none⟩ : Addr).add 0 = ⟨b, off, none⟩ := by unfold Addr.add; split <;> simp_all
      rw [hadd]
      exact (Below.cell hb0 (p := ⟨b, off, none⟩) hb).trans hc0
    | 1, hj =>
      obtain rfl : y = v := by simpa using hj
      have hadd : (⟨b, off, none⟩ : Addr).add 1 = ⟨b, off + 1, none⟩ := by unfold Addr.add; split <;> simp_all
      rw [hadd]
      exact (Below.cell hb0 (p := ⟨b, off + 1, none⟩) hb).trans hc1
  case c2 => rw [rep2_len _ _ _ _ _ _ (Nat.zero_le _)]; simp; omega
  case c3 => intro v hv; simp at hv; rcases hv with rfl | rfl <;> assumption
  intro w2 HG2 hB2
  have HG3 : Hid (w2.heap[w.heap.size]? = some (.cells (rep2 x y (.int .i64 0) u 1 N).toArray 35 (0, 0))) := by
    have := HG2.out
    have e := rep2_splice x y (.int .i64 0) u 0 1 N (by omega)
    rw [show ((List.replicate 1 [x, y]).flatten) = [x, y] by simp, Nat.zero_mul, Nat.zero_add] at e
    rw [e] at this
    exact this
  clear HG2 HR0 hb0 hmk HMIN
  go_wp2
  go_loopw [8] (fun nv wr => ∃ n : Nat, n ≤ N ∧ 0 < n ∧ nv = .int .i64 n ∧ Hid (wr.heap[w.heap.size]? = some (.cells (rep2 x y (.int .i64 0) u n N).toArray 35 (0, 0))) ∧ Below w.heap.size w wr) (fun nv _ => N - (intOf nv).toNat)
  case atStart => exact ⟨1, hN1, by omega, rfl, HG3, hB2⟩
  case round =>
    clear HG3 hB2
    obtain ⟨n, hn, hn0, rfl, HG, hbw⟩ := hrel
    by_cases hlt : n < N
    · obtain ⟨m, hm⟩ : ∃ m, m = Nat.min n (N - n) := ⟨_, rfl⟩
      have hm1 : m ≤ n := by rw [hm]; exact Nat.min_le_left _ _
      have hm2 : m ≤ N - n := by rw [hm]; exact Nat.min_le_right _ _
      have hm0 : 0 < m := by rw [hm]; exact Nat.lt_min.2 ⟨hn0, by omega⟩
      have HM : Hid (m = Nat.min n (N - n)) := hm
      clear hm
      have hDlt : w.heap.size < wr.heap.size := (Array.getElem?_eq_some_iff.1 HG.out).1
      have HCL : Hid (∀ j v, ((List.replicate m [x, y]).flatten)[j]? = some v → wr.drew.cell? ((⟨w.heap.size, 0, none⟩ : Addr).add j) = some v) := fun j v hj => by
        have hj1 := (List.getElem?_eq_some_iff.1 hj).1
        rw [flat_len] at hj1
        rw [flat_get x y m j hj1] at hj
        have hadd : (⟨w.heap.size, 0, none⟩ : Addr).add j = ⟨w.heap.size, j, none⟩ := by unfold Addr.add; split <;> simp_all
        rw [hadd]
        show wr.cell? _ = _
        rw [cell_of_row wr w.heap.size j _ 35 (0, 0) HG.out]
        have h9 := rep2_get x y (.int .i64 0) u n N j (by omega)
        rw [hj] at h9
        simpa using h9
      have HGD : Hid (wr.drew.heap[w.heap.size]? = some (.cells (rep2 x y (.int .i64 0) u n N).toArray 35 (0, 0))) := HG.out
      have hbd : Below w.heap.size w wr.drew := hbw.trans ⟨rfl, rfl, rfl, Nat.le_refl _, fun _ _ => rfl⟩
      have hNn : ¬ N = n := by omega
      have HW : Hid (IntKind.i64.wrap ((n : Int) + (m : Int)) = ((n + m : Nat) : Int)) := by
        show _ = _
        rw [IntKind.wrap_i64]; omega
      clear HG
      go_wp2
      go_region_law (refine step_copy_two rfl (.tmp 41) (.tmp 44) 36 36 rfl 35 Try.underlying36 Try.infoSentSz w.heap.size (n * 2) (N - n) (N - n) ⟨w.heap.size, 0, none⟩ n N (by simp [Act.eval, Act.put]) (by simp [Act.eval, Act.put]) (rep2 x y (.int .i64 0) u n N) 35 ((List.replicate m [x, y]).flatten) m HGD.out HM.out (flat_len m x y) HCL.out (by rw [rep2_len _ _ _ _ _ _ hn, flat_len]; omega) (by intro v hv; rcases flat_mem x y v m hv with rfl | rfl <;> assumption) w.heap.size w hbd (Nat.le_refl _) ?_; intro w4 hg4 hb4)
      all_goals
        have HG4 : Hid (w4.heap[w.heap.size]? = some (.cells (rep2 x y (.int .i64 0) u (n + m) N).toArray 35 (0, 0))) := by
          have := hg4.out
          rw [rep2_splice x y _ u n m N (by omega)] at this
          exact this
        clear hg4 HGD HCL
        go_simp
        go_wp2
        go_roundw
        case rel => exact ⟨n + m, by omega, by omega, by rw [HW.out], HG4, hb4⟩
        case measure => rw [HW.out]; simp [intOf]; omega
    · obtain rfl : n = N := by omega
      have HE : Hid (RowS wr w.heap.size (List.replicate n a)) := by
        show _ = _
        rw [HG.out, HX.out, HY.out]
        congr 2
        unfold rep2 sfC
        rw [Nat.sub_self]
        simp only [List.replicate_zero, List.flatten_nil, List.append_nil]
        rw [List.flatMap_def, List.map_replicate]
      clear HG
      go_wp2
      go_ret
      exact ⟨rfl, HE.out, hbw⟩

end Go.Proofs.Ytbgnhegfabpjnaa
