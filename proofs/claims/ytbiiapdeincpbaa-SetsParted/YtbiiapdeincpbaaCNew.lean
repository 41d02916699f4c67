import Derived.Test.YtbiiapdeincpbaaCStep
import Derived.Laws.MakeOwn
namespace Go.Proofs.Ytbiiapdeincpbaa
open Go.RowKit
set_option linter.unusedVariables false
set_option maxRecDepth 100000

theorem zerosA (m : Nat) : madeCells (Value.int .i64 0).cells m = intsA (List.replicate m 0) := by
  apply Array.ext
  · simp [madeCells, intsA]
  · intro i h1 h2
    simp [madeCells, intsA, Value.cells, Nat.mod_one]

theorem four_alloc (w : World) (a b c d : Obj) : ((((w.alloc a).alloc b).alloc c).alloc d).heap[w.heap.size]? = some a ∧ ((((w.alloc a).alloc b).alloc c).alloc d).heap[w.heap.size + 1]? = some b ∧ ((((w.alloc a).alloc b).alloc c).alloc d).heap[w.heap.size + 1 + 1]? = some c ∧ ((((w.alloc a).alloc b).alloc c).alloc d).heap[w.heap.size + 1 + 1 + 1]? = some d := by
  have h1 := heap_alloc_new w a
  have h2 := heap_alloc_new (w.alloc a) b
  have h3 := heap_alloc_new ((w.alloc a).alloc b) c
  have h4 := heap_alloc_new (((w.alloc a).alloc b).alloc c) d
  have s1 : (w.alloc a).heap.size = w.heap.size + 1 := by simp
  have s2 : ((w.alloc a).alloc b).heap.size = w.heap.size + 1 + 1 := by simp
  have s3 : (((w.alloc a).alloc b).alloc c).heap.size = w.heap.size + 1 + 1 + 1 := by simp
  rw [s1] at h2
  rw [s2] at h3
  rw [s3] at h4
  refine ⟨?_, ?_, ?_, h4⟩
  · rw [Below.heap_alloc _ _ _ (by omega), Below.heap_alloc _ _ _ (by omega), Below.heap_alloc _ _ _ (by omega)]; exact h1
  · rw [Below.heap_alloc _ _ _ (by omega), Below.heap_alloc _ _ _ (by omega)]; exact h2
  · rw [Below.heap_alloc _ _ _ (by omega)]; exact h3

theorem mem_made {w : World} {M Dp Nd Mp n k : Nat} (hM : w.heap[M]? = some (.cells #[.slice (some ⟨Dp, 0, none⟩) n n, .slice (some ⟨Nd, 0, none⟩) (2 * k) (2 * k), .map (some Mp)] 78 (0, 0))) (hD : w.heap[Dp]? = some (.cells (intsA (List.replicate n 0)) 3 (0, 0))) (hN : w.heap[Nd]? = some (.cells (intsA (List.replicate (2 * k) 0)) 3 (0, 0))) (dn : Dp ≠ Nd) (hm : w.heap[Mp]? = some (.map #[] 0)) :
    MemAt w M Dp Nd Mp n k (List.replicate n 0) (List.replicate (2 * k) 0) [] := by
  have hf : w.ownsMap (H := Unit) Try.prog 88 (plainElem Try.prog 3) Mp 0 (.map []) := by
    obtain ⟨es, cl, h1, h2⟩ := World.ownsMap_made (H := Unit) w Try.prog 88 (plainElem Try.prog 3)
    rw [heap_alloc_new] at h1
    simp at h1
    obtain ⟨rfl, rfl⟩ := h1
    exact ⟨_, _, hm, h2⟩
  exact ⟨hM, hD, hN, dn, by simp, by simp, ⟨_, hf, idx_nil⟩, List.nodup_nil⟩

theorem makeInts (m : Nat) (hm : m ≤ 1000000) (W : World) : (Instr.makeSlice 22 (.int .i64 m) (.int .i64 m)).run Try.prog W = .ok (.slice (some ⟨W.heap.size, 0, none⟩) m m) (W.alloc (.cells (intsA (List.replicate m 0)) 3)) := by
  obtain ⟨i0, hi, hz0, hz1, hz2⟩ := info_parts Try.infoInt
  have := run_make W 22 3 i0 (.int .i64 0) Try.underlying22 hi hz0 .i64 .i64 m m (by omega) (by omega) (by rw [hz2]; omega) (by omega)
  rw [this, hz1, zerosA]
  simp

set_option maxHeartbeats 6000000 in
theorem newMem_any (n : Nat) (w : World) (hn : n ≤ 12) :
    Calls Try.prog 43 #[.int .i64 n] w fun e w' => ∃ M Dp Nd Mp L nodes ps, e = .returned (.pointer (some ⟨M, 0, none⟩)) ∧ MemAt w' M Dp Nd Mp n L (List.replicate n 0) nodes ps ∧ Good ps nodes L ∧ (∀ t, t < L → nodes.getD (L + t) 0 = 0) ∧ (∀ j, j < 2 * L → -1000000 ≤ nodes.getD j 0 ∧ nodes.getD j 0 ≤ 1000000) ∧ 1 ≤ L ∧ n ≤ L ∧ L ≤ 16 ∧ ps.length ≤ L ∧ w.heap.size ≤ M ∧ w.heap.size ≤ Dp ∧ w.heap.size ≤ Nd ∧ w.heap.size ≤ Mp ∧ Below w.heap.size w w' := by
  have hmm := @run_makeMap Try.prog
  go_enter Try.func43, Try.ntmps43
  go_wp2
  go_loopw [3] (fun v wr => ∃ k : Nat, v = .int .i64 k ∧ wr = w ∧ (k = 1 ∨ k = 2 ∨ k = 4 ∨ k = 8 ∨ k = 16)) (fun v _ => 16 - (intOf v).toNat)
  case atStart => exact ⟨1, rfl, rfl, by omega⟩
  case round =>
    obtain ⟨k, rfl, hw, hk⟩ := hrel
    obtain rfl := hw.symm
    by_cases hlt : k < n
    · go_wp2
      go_roundw
      case rel => exact ⟨k * 2, by go_num, by first | rfl | trivial, by omega⟩
      case measure => simp [intOf]; omega
    · have hnk : n ≤ k := by omega
      have hk1 : 1 ≤ k := by omega
      have hk16 : k ≤ 16 := by omega
      clear hk hlt
      have hk1 := makeInts n (by omega)
      have hk2 := makeInts (2 * k) (by omega)
      rw [show ((2 * k : Nat) : Int) = 2 * (k : Int) from by omega] at hk2
      go_wp2
      go_region
      all_goals
        go_wp2
        generalize hW : World.drew _ = W
        have key : ∃ Dp Nd Mp, MemAt W (w.heap.size + 1 + 1 + 1) Dp Nd Mp n k (List.replicate n 0) (List.replicate (2 * k) 0) [] ∧ w.heap.size ≤ Dp ∧ w.heap.size ≤ Nd ∧ w.heap.size ≤ Mp ∧ Below w.heap.size w W := by
          subst hW
          have hF := four_alloc w
          have hB : ∀ a b c d : Obj, Below w.heap.size w ((((w.alloc a).alloc b).alloc c).alloc d).drew := fun a b c d => (((((Below.refl _ w).alloc (Nat.le_refl _) a).alloc (by simp) b).alloc (by simp; omega) c).alloc (by simp; omega) d).drew
          first
          | exact ⟨w.heap.size, w.heap.size + 1, w.heap.size + 1 + 1, mem_made (hF _ _ _ _).2.2.2 (hF _ _ _ _).1 (hF _ _ _ _).2.1 (by omega) (hF _ _ _ _).2.2.1, by omega, by omega, by omega, hB _ _ _ _⟩
          | exact ⟨w.heap.size, w.heap.size + 1 + 1, w.heap.size + 1, mem_made (hF _ _ _ _).2.2.2 (hF _ _ _ _).1 (hF _ _ _ _).2.2.1 (by omega) (hF _ _ _ _).2.1, by omega, by omega, by omega, hB _ _ _ _⟩
          | exact ⟨w.heap.size + 1, w.heap.size, w.heap.size + 1 + 1, mem_made (hF _ _ _ _).2.2.2 (hF _ _ _ _).2.1 (hF _ _ _ _).1 (by omega) (hF _ _ _ _).2.2.1, by omega, by omega, by omega, hB _ _ _ _⟩
          | exact ⟨w.heap.size + 1, w.heap.size + 1 + 1, w.heap.size, mem_made (hF _ _ _ _).2.2.2 (hF _ _ _ _).2.1 (hF _ _ _ _).2.2.1 (by omega) (hF _ _ _ _).1, by omega, by omega, by omega, hB _ _ _ _⟩
          | exact ⟨w.heap.size + 1 + 1, w.heap.size, w.heap.size + 1, mem_made (hF _ _ _ _).2.2.2 (hF _ _ _ _).2.2.1 (hF _ _ _ _).1 (by omega) (hF _ _ _ _).2.1, by omega, by omega, by omega, hB _ _ _ _⟩
          | exact ⟨w.heap.size + 1 + 1, w.heap.size + 1, w.heap.size, mem_made (hF _ _ _ _).2.2.2 (hF _ _ _ _).2.2.1 (hF _ _ _ _).2.1 (by omega) (hF _ _ _ _).1, by omega, by omega, by omega, hB _ _ _ _⟩
        obtain ⟨Dp, Nd, Mp, hm0, b1, b2, b3, hbel⟩ := key
        clear hW hmm hk1 hk2
        have hstart : Hid (Grew W W (w.heap.size + 1 + 1 + 1) Dp Nd Mp n k (List.replicate n 0) (fun _ => 0) [] (List.replicate (2 * k) 0) []) := ⟨hm0, List.prefix_refl _, fun t ht => by simp [show k + t < 2 * k from by omega], fun j hj => by simp [hj], But.refl _ _⟩
        clear hm0
        go_loopw [5] (fun i wr' => ∃ (j : Nat) (nodes : List Int) (ps : List Pr), i = .int .i64 j ∧ j < k ∧ Hid (Grew W wr' (w.heap.size + 1 + 1 + 1) Dp Nd Mp n k (List.replicate n 0) (fun _ => 0) [] nodes ps) ∧ Hid (GoodFrom ps nodes k j) ∧ ps.length + j ≤ k) (fun i _ => (intOf i).toNat)
        case atStart => exact ⟨k - 1, _, [], by go_num, by omega, hstart, (fun j h1 h2 => by omega), by simp⟩
        case round =>
          obtain ⟨j, nodes, ps, rfl, hj, HG, HF, hlen⟩ := hrel
          clear hstart
          by_cases h0 : 0 < j
          · obtain ⟨i, rfl⟩ : ∃ i, j = i + 1 := ⟨j - 1, by omega⟩
            go_wp2_with fail
            refine (renumber_any HG.out.mem (i + 1) hj hk16 (by omega) HG.out.bd).mono ?_
            rintro e w2 ⟨rfl, q, ps2, hp, hl2, hq, hm, hb⟩
            have hq1 : q < ps2.length := (List.getElem?_eq_some_iff.1 hq).1
            have HG2 : Hid (Grew W w2 (w.heap.size + 1 + 1 + 1) Dp Nd Mp n k (List.replicate n 0) (fun _ => 0) [] (nodes.set (i + 1) q) ps2) := HG.out.next hj (by omega) hp hm hb
            have HF2 : Hid (GoodFrom ps2 (nodes.set (i + 1) q) k i) := good_down HF.out (by rw [HG.out.mem.ln]; omega) hp hq
            clear HG HF hm hb hq hp
            go_wp2
            go_roundw
            case rel => exact ⟨i, _, ps2, by go_num, by omega, HG2, HF2, by omega⟩
            case measure => simp [intOf]
          · obtain rfl : j = 0 := by omega
            go_wp2
            go_ret
            have hg := HG.out
            exact ⟨_, Dp, Nd, Mp, k, nodes, ps, rfl, hg.mem, fun j h1 h2 => HF.out j h1 h2, fun t ht => hg.leaf t ht, hg.bd, by omega, hnk, hk16, by omega, by omega, b1, b2, b3, hbel.trans (hg.but.below hbel.size (by simp; omega))⟩

end Go.Proofs.Ytbiiapdeincpbaa
