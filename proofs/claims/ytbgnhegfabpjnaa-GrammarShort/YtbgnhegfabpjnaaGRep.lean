/- The program: a number again and again. -/
import Derived.Test.YtbgnhegfabpjnaaGNum
import Derived.Test.YtbgnhegfabpjnaaGShf
import Derived.Laws.CopyOwn
import Derived.Deep.RegionLaw
namespace Go.Proofs.Ytbgnhegfabpjnaa
open Go.RowKit
set_option linter.unusedVariables false
set_option maxRecDepth 100000

/-- the first n of N cells are these -/
def repZ (x z : Value) (n N : Nat) : List Value := List.replicate n x ++ List.replicate (N - n) z
theorem repZ_len (x z : Value) (n N : Nat) (h : n ≤ N) : (repZ x z n N).length = N := by simp [repZ]; omega
theorem repZ_splice (x z : Value) (n m N : Nat) (h : n + m ≤ N) : splice (repZ x z n N) n (List.replicate m x) = repZ x z (n + m) N := by
  unfold splice repZ
  rw [List.take_append_of_le_length (by simp), List.take_of_length_le (by simp), List.drop_append]
  simp only [List.length_replicate, List.drop_replicate]
  rw [show n - (n + m) = 0 by omega, show n + m - n = m by omega, show N - n - m = N - (n + m) by omega, List.replicate_zero, List.nil_append, ← List.append_assoc, List.replicate_append_replicate]
theorem repZ_get (x z : Value) (n N j : Nat) (h : j < n) : (repZ x z n N)[j]? = some x := by
  unfold repZ
  rw [List.getElem?_append_left (by simp; exact h)]
  simp [h]

theorem Try.infoIntSz : (Try.prog.info? 3).map (·.size) = some 1 := by kernel_rfl

set_option maxHeartbeats 1000000 in
theorem repeatI_any (x : Int) (b off c N : Nat) (hN : N ≤ 300) (w : World) (hb : b < w.heap.size) (hc : w.cell? ⟨b, off, none⟩ = some (.int .i64 x)) :
    Calls Try.prog 35 #[.slice (some ⟨b, off, none⟩) 1 c, .int .i64 N] w fun e w' => e = .returned (.slice (some ⟨w.heap.size, 0, none⟩) N N) ∧ Row w' w.heap.size (List.replicate N x) ∧ Below w.heap.size w w' := by
  have hmk := makeInts N (by omega) w
  have hmul := Try.bits_Mul 1 N (by omega) (by omega) w
  rw [show (1 * N / 18446744073709551616 : Nat) = 0 by omega, show (1 * N % 18446744073709551616 : Nat) = N by omega] at hmul
  have HR0 : Hid ((w.alloc (.cells (intsA (List.replicate N 0)) 3)).heap[w.heap.size]? = some (.cells (repZ (.int .i64 x) (.int .i64 0) 0 N).toArray 3 (0, 0))) := by
    show (w.heap.push _)[w.heap.size]? = _
    rw [Array.getElem?_push_size]
    simp [repZ, intsA]
  have hb0 := alloc_below w (.cells (intsA (List.replicate N 0)) 3)
  have hs0 := alloc_size w (.cells (intsA (List.replicate N 0)) 3)
  go_enter Try.func35, Try.ntmps35
  go_wp2_with fail
  refine hmul.mono ?_
  rintro e w1 ⟨rfl, hw1⟩
  rw [hw1]
  clear hmul hw1 w1
  go_wp2_with (refine wpList_copy_splice rfl _ _ 23 23 rfl 3 Try.underlying23 Try.infoIntSz _ _ _ _ _ _ rfl rfl w.heap.size 0 (repZ (.int .i64 x) (.int .i64 0) 0 N) 3 HR0.out (List.replicate (Nat.min 1 N) (.int .i64 x)) ?c0 ?c1 ?c2 ?c3 w.heap.size w hb0 (Nat.le_refl _) ?_)
  case c0 => simp
  case c1 =>
    intro h0
    intro j v hj
    have hj' := List.mem_of_getElem? hj
    have hlt := (List.getElem?_eq_some_iff.1 hj).1
    obtain rfl : v = .int .i64 x := List.eq_of_mem_replicate hj'
    have hm : Nat.min 1 N ≤ 1 := Nat.min_le_left _ _
    simp only [List.length_replicate] at hlt
    obtain rfl : j = 0 := by omega
    exact hc
  case c2 =>
    rw [repZ_len _ _ _ _ (Nat.zero_le _), List.length_replicate, Nat.zero_add]
    exact Nat.min_le_right _ _
  case c3 => intro v hv; rw [List.eq_of_mem_replicate hv]; rfl
  intro w2 HG2 hB2
  obtain ⟨m, hm⟩ : ∃ m, m = Nat.min 1 N := ⟨_, rfl⟩
  have HM : Hid (m = Nat.min 1 N) := hm
  have hm1 : m ≤ 1 := by rw [hm]; exact Nat.min_le_left _ _
  have hmN : m ≤ N := by rw [hm]; exact Nat.min_le_right _ _
  have hmz : 0 < N → 0 < m := fun h => by rw [hm]; exact Nat.lt_min.2 ⟨by omega, h⟩
  have HG3 : Hid (w2.heap[w.heap.size]? = some (.cells (repZ (.int .i64 x) (.int .i64 0) m N).toArray 3 (0, 0))) := by
    have := HG2.out
    rw [← hm, repZ_splice _ _ 0 m N (by omega), Nat.zero_add] at this
    exact this
  try simp only [List.length_replicate]
  rw [← hm]
  clear HG2 HR0 hb0 hs0 hmk hm
  go_wp2
  clear HM
  go_loopw [8] (fun nv wr => ∃ n : Nat, n ≤ N ∧ (0 < N → 0 < n) ∧ nv = .int .i64 n ∧ Hid (wr.heap[w.heap.size]? = some (.cells (repZ (.int .i64 x) (.int .i64 0) n N).toArray 3 (0, 0))) ∧ Below w.heap.size w wr) (fun nv _ => N - (intOf nv).toNat)
  case atStart => exact ⟨m, hmN, hmz, rfl, HG3, hB2⟩
  case round =>
    clear HG3 hB2 hmz hmN hm1
    obtain ⟨n, hn, hnz, rfl, HG, hbw⟩ := hrel
    by_cases hlt : n < N
    · have hn0 : 0 < n := hnz (by omega)
      obtain ⟨m, hm⟩ : ∃ m, m = Nat.min n (N - n) := ⟨_, rfl⟩
      have hm1 : m ≤ n := by rw [hm]; exact Nat.min_le_left _ _
      have hm2 : m ≤ N - n := by rw [hm]; exact Nat.min_le_right _ _
      have hm0 : 0 < m := by rw [hm]; exact Nat.lt_min.2 ⟨hn0, by omega⟩
      have HM : Hid (m = Nat.min n (N - n)) := hm
      clear hm
      have hDlt : w.heap.size < wr.heap.size := (Array.getElem?_eq_some_iff.1 HG.out).1
      have HCL : Hid (∀ j v, (List.replicate m (Value.int .i64 x))[j]? = some v → wr.drew.cell? ((⟨w.heap.size, 0, none⟩ : Addr).add j) = some v) := fun j v hj => by
        have hj1 := (List.getElem?_eq_some_iff.1 hj).1
        simp only [List.length_replicate] at hj1
        obtain rfl : v = .int .i64 x := List.eq_of_mem_replicate (List.mem_of_getElem? hj)
        have hadd : (⟨w.heap.size, 0, none⟩ : Addr).add j = ⟨w.heap.size, j, none⟩ := by unfold Addr.add; split <;> simp_all
        rw [hadd]
        show wr.cell? _ = _
        rw [cell_of_row wr w.heap.size j _ 3 (0, 0) HG.out]
        simpa using repZ_get (.int .i64 x) (.int .i64 0) n N j (by omega)
      have HGD : Hid (wr.drew.heap[w.heap.size]? = some (.cells (repZ (.int .i64 x) (.int .i64 0) n N).toArray 3 (0, 0))) := HG.out
      have hbd : Below w.heap.size w wr.drew := hbw.trans ⟨rfl, rfl, rfl, Nat.le_refl _, fun _ _ => rfl⟩
      clear HG
      have hNn : ¬ N = n := by omega
      have HW : Hid (IntKind.i64.wrap ((n : Int) + (m : Int)) = ((n + m : Nat) : Int)) := by
        show _ = _
        rw [IntKind.wrap_i64]; omega
      go_wp2
      go_region_law (refine step_copy_splice rfl (.tmp 41) (.tmp 44) 23 23 rfl 3 Try.underlying23 Try.infoIntSz (some ⟨w.heap.size, n, none⟩) (some ⟨w.heap.size, 0, none⟩) (N - n) (N - n) n N (by simp [Act.eval, Act.put]) (by simp [Act.eval, Act.put]) w.heap.size n (repZ (.int .i64 x) (.int .i64 0) n N) 3 HGD.out (List.replicate m (.int .i64 x)) (by rw [List.length_replicate]; exact HM.out) (fun _ => ⟨rfl, _, rfl, HCL.out⟩) (by rw [repZ_len _ _ _ _ hn, List.length_replicate]; omega) (by intro v hv; rw [List.eq_of_mem_replicate hv]; rfl) w.heap.size w hbd (Nat.le_refl _) ?_; intro w4 hg4 hb4)
      all_goals
        have HG4 : Hid (w4.heap[w.heap.size]? = some (.cells (repZ (.int .i64 x) (.int .i64 0) (n + m) N).toArray 3 (0, 0))) := by
          have := hg4.out
          rw [repZ_splice _ _ n m N (by omega)] at this
          exact this
        clear hg4 HGD HCL
        try simp only [List.length_replicate]
        go_simp
        go_wp2
        go_roundw
        case rel => exact ⟨n + m, by omega, fun _ => by omega, by rw [HW.out], HG4, hb4⟩
        case measure => rw [HW.out]; simp [intOf]; omega
    · obtain rfl : n = N := by omega
      have HE : Hid (Row wr w.heap.size (List.replicate n x)) := by
        show _ = _
        rw [HG.out]
        simp [repZ, intsA]
      clear HG
      go_wp2
      go_ret
      exact ⟨rfl, HE.out, hbw⟩

end Go.Proofs.Ytbgnhegfabpjnaa
