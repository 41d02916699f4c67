/- Texts of the proof, put together: GSrt, GLs0, GRepB. -/
import Derived.Test.YtkdoghaoijdedaaGreatDoorGt09
import Derived.Sort.OwnSortedInts
import Derived.Test.YtkdoghaoijdedaaGreatDoorGt07
namespace Go.Proofs.YtkdoghaoijdedaaGreatDoor
open Go.RowKit
open Go.Sort (Holds putRow grow)
set_option linter.unusedVariables false
set_option maxRecDepth 100000

theorem strict_len : ∀ (l : List Int) (a N : Int), l.Pairwise (· < ·) → (∀ x ∈ l, a ≤ x ∧ x < N) → a ≤ N → (l.length : Int) ≤ N - a
  | [], a, N, _, _, h => by simp; omega
  | x :: l, a, N, hp, hm, h => by
    obtain ⟨h1, h2⟩ := List.pairwise_cons.1 hp
    have hx := hm x (by simp)
    have ih := strict_len l (x + 1) N h2 (fun y hy => ⟨by have := h1 y hy; omega, (hm y (by simp [hy])).2⟩) (by omega)
    simp only [List.length_cons]
    omega
theorem mem_sortI (zs : List Int) (x : Int) : x ∈ zs.mergeSort (fun x y => decide (x ≤ y)) ↔ x ∈ zs := (List.mergeSort_perm zs _).mem_iff
theorem len_sortI (zs : List Int) : (zs.mergeSort (fun x y => decide (x ≤ y))).length = zs.length := (List.mergeSort_perm zs _).length_eq
theorem sorted_sortI (zs : List Int) : (zs.mergeSort (fun x y => decide (x ≤ y))).Pairwise (· ≤ ·) := by
  have := List.pairwise_mergeSort (le := fun x y : Int => decide (x ≤ y)) (fun a b c h1 h2 => by simp only [decide_eq_true_eq] at *; omega) (fun a b => by simp only [Bool.or_eq_true, decide_eq_true_eq]; omega) zs
  exact this.imp fun h => by simpa using h
/-- a row in ascending order: each number once behind the other -/
theorem compact_mem (d : Array Int) : ∀ m, m ≤ d.size → ∀ j, j < m → d[j]! ∈ Lib.compactUpTo d m
  | 0, _, j, hj => by omega
  | m + 1, hm, j, hj => by
    rw [Lib.compactUpTo_succ]
    by_cases hk : Lib.keeps d m = true
    · rw [if_pos hk]
      by_cases e : j = m
      · subst e; simp
      · exact List.mem_append_left _ (compact_mem d m (by omega) j (by omega))
    · rw [if_neg hk, List.append_nil]
      have hm0 : m ≠ 0 := fun e => hk (by subst e; exact Lib.keeps_lt_one d 0 (by omega))
      have he : d[m]! = d[m - 1]! := by
        by_cases e : d[m]! = d[m - 1]!
        · exact e
        · exact absurd (Lib.keeps_pos e) hk
      by_cases e : j = m
      · subst e; rw [he]; exact compact_mem d j (by omega) (j - 1) (by omega)
      · exact compact_mem d m (by omega) j (by omega)
theorem mem_compact (zs : List Int) (x : Int) : x ∈ Lib.compact zs ↔ x ∈ zs := by
  constructor
  · intro h
    unfold Lib.compact Lib.compactUpTo at h
    obtain ⟨j, hj, rfl⟩ := List.mem_map.1 h
    have hj1 := List.mem_range.1 (List.mem_filter.1 hj).1
    simp [hj1]
  · intro h
    obtain ⟨j, hj, rfl⟩ := List.mem_iff_getElem.1 h
    have := compact_mem zs.toArray zs.length (by simp) j hj
    simpa [hj, Lib.compact] using this
theorem strict_compact (zs : List Int) (hs : zs.Pairwise (· ≤ ·)) : (Lib.compact zs).Pairwise (· < ·) := by
  unfold Lib.compact Lib.compactUpTo
  rw [List.pairwise_map]
  have hle : ∀ i j, i ≤ j → j < zs.length → zs.toArray[i]! ≤ zs.toArray[j]! := fun i j hij hj => by
    by_cases e : i = j
    · subst e; exact Int.le_refl _
    · have := (List.pairwise_iff_getElem.1 hs) i j (by omega) hj (by omega)
      simpa [hj, show i < zs.length by omega] using this
  have h1 : ((List.range zs.length).filter (Lib.keeps zs.toArray)).Pairwise (· < ·) := List.pairwise_lt_range.filter _
  refine List.Pairwise.imp_of_mem ?_ h1
  intro i j hi hj hij
  obtain ⟨hj1, hj2⟩ := List.mem_filter.1 hj
  have hj3 := List.mem_range.1 hj1
  have hne : zs.toArray[j]! ≠ zs.toArray[j - 1]! := by
    unfold Lib.keeps at hj2
    rcases of_decide_eq_true hj2 with e | e
    · omega
    · exact e
  have h2 := hle i (j - 1) (by omega) (by omega)
  have h3 := hle (j - 1) j (by omega) hj3
  omega

/-- numbers that a slice owns -/
def OwnI (w : World) (B : Nat) (v : Value) (zs : List Int) : Prop := w.ownsRow B 3 1 v zs.length (zs.map (Value.int .i64))
theorem OwnI.slice {w : World} {B : Nat} {v : Value} {zs : List Int} (h : OwnI w B v zs) : ∃ a c, v = .slice a zs.length c := by
  rcases h.2 with ⟨e, h0⟩ | ⟨g, cap, cur, e, _⟩
  · exact ⟨none, 0, by rw [e, h0]⟩
  · exact ⟨_, _, e⟩
/-- numbers in memory, not in one block -/
def AskM (w : World) (F : Nat) (v : Value) (l : List Int) : Prop := ∃ a c, v = .slice a l.length c ∧ (l = [] ∨ ∃ g off, a = some ⟨g, off, none⟩ ∧ g < w.heap.size ∧ g ≠ F ∧ ∀ j, j < l.length → w.cell? ⟨g, off + j, none⟩ = some (.int .i64 (l.getD j 0)))
theorem AskM.slice {w : World} {F : Nat} {v : Value} {l : List Int} (h : AskM w F v l) : ∃ a c, v = .slice a l.length c := by
  obtain ⟨a, c, e, _⟩ := h; exact ⟨a, c, e⟩
theorem AskM.grown {w w' : World} {F : Nat} {v : Value} {l : List Int} (h : AskM w F v l) (hg : w.grownBy w' (some F)) : AskM w' F v l := by
  obtain ⟨a, c, e, h2⟩ := h
  refine ⟨a, c, e, h2.imp id fun ⟨g, off, e1, h3, h4, h5⟩ => ⟨g, off, e1, Nat.lt_of_lt_of_le h3 hg.size, h4, fun j hj => ?_⟩⟩
  have := h5 j hj
  simp only [World.cell?] at this ⊢
  rw [hg.block g h3 (by simpa using h4)]; exact this
theorem AskM.at {w : World} {F : Nat} {a : Option Addr} {n c : Nat} {l : List Int} (h : AskM w F (.slice a n c) l) {k : Nat} (hk : k < l.length) : ∃ b off, a = some ⟨b, off, none⟩ ∧ b < w.heap.size ∧ w.cell? ⟨b, off + k, none⟩ = some (.int .i64 (l.getD k 0)) := by
  obtain ⟨a', c', e, h2⟩ := h
  obtain ⟨rfl, rfl, rfl⟩ : a = a' ∧ n = l.length ∧ c = c' := by simpa using e
  rcases h2 with rfl | ⟨b, off, rfl, hb, _, hc⟩
  · simp at hk
  · exact ⟨b, off, rfl, hb, hc k hk⟩

theorem sortI_any {w : World} {B : Nat} {v : Value} {zs : List Int} (h : OwnI w B v zs) (hl : zs.length ≤ 1000000000000) :
    Calls Tryz.prog 69 #[v] w fun e w' => e = .returned (.tuple #[]) ∧ OwnI w' B v (zs.mergeSort fun x y => decide (x ≤ y)) ∧ w.grownBy w' v.ownBlock := by
  rcases h.2 with ⟨e, h0⟩ | ⟨g, cap, cur, e, hB, hg, hcap, hmax, hcs, htk⟩
  · obtain rfl : zs = [] := List.eq_nil_of_length_eq_zero h0
    subst e
    refine (Tryz.slices_Sort_int_none none 0 w).mono ?_
    rintro e w' ⟨rfl, rfl⟩
    exact ⟨rfl, by simpa using h, ⟨rfl, rfl, rfl, Nat.le_refl _, fun _ _ _ => rfl⟩⟩
  · subst e
    have hH := holds_of_blockI (ss := zs) hg (by rw [Nat.mul_one] at htk; exact htk)
    refine (Tryz.slices_Sort_int g 0 cap zs w hH (Array.getElem?_eq_some_iff.1 hg).1 (by omega)).mono ?_
    rintro e w' ⟨rfl, n, os, rfl⟩
    refine ⟨rfl, ?_, grownBy_sortedI _⟩
    have := ownsRow_sortedI (base := B) (n := n) (os := os) (ss := zs) (ts := zs.mergeSort fun x y => decide (x ≤ y)) (len_sortI zs) hB hg hcap hmax hcs
    unfold OwnI
    rw [len_sortI]
    exact this
theorem compactI_any {w : World} {B F : Nat} {v : Value} {zs : List Int} (h : OwnI w B v zs) (hF : F < B) (hl : zs.length ≤ 1000000000000) :
    Calls Tryz.prog 70 #[v] w fun e w' => ∃ v', e = .returned v' ∧ AskM w' F v' (Lib.compact zs) ∧ w.grownBy w' v.ownBlock := by
  rcases h.2 with ⟨e, h0⟩ | ⟨g, cap, cur, e, hB, hg, hcap, hmax, hcs, htk⟩
  · obtain rfl : zs = [] := List.eq_nil_of_length_eq_zero h0
    subst e
    refine (Tryz.slices_Compact_int_empty none 0 w).mono ?_
    rintro e w' ⟨rfl, rfl⟩
    exact ⟨_, rfl, ⟨none, 0, rfl, .inl rfl⟩, ⟨rfl, rfl, rfl, Nat.le_refl _, fun _ _ _ => rfl⟩⟩
  · subst e
    have hH := holds_of_blockI (ss := zs) hg (by rw [Nat.mul_one] at htk; exact htk)
    refine (Tryz.slices_Compact_int g 0 cap zs w hH (by omega) hcap).mono ?_
    rintro e w' ⟨rfl, q, rfl⟩
    have hlt := (Array.getElem?_eq_some_iff.1 hg).1
    have hle : (Lib.compact zs).length ≤ zs.length := by
      unfold Lib.compact Lib.compactUpTo
      rw [List.length_map]
      exact Nat.le_trans (List.length_filter_le _ _) (by simp)
    have hsz : (Lib.compact zs ++ List.replicate (zs.length - (Lib.compact zs).length) 0).toArray.size = zs.toArray.size := by simp; omega
    have hP := Sort.holds_putRow (Value.int .i64) (Sort.ahead w q) g 0 zs.toArray _ hH hsz
    refine ⟨_, rfl, ⟨_, _, rfl, .inr ⟨g, 0, rfl, by simpa [Sort.ahead] using hlt, by omega, fun j hj => ?_⟩⟩, ?_⟩
    · have := (hP j (by rw [hsz]; simp; omega)).1
      rw [this]
      simp [List.getD, hj, show j < (Lib.compact zs).length + (zs.length - (Lib.compact zs).length) by omega]
    · have := grownBy_sortedI (w := w) (g := g) (n := q) (os := #[]) (Lib.compact zs ++ List.replicate (zs.length - (Lib.compact zs).length) 0).toArray
      rw [Sort.grow_empty] at this
      exact this

end Go.Proofs.YtkdoghaoijdedaaGreatDoor

namespace Go.Proofs.YtkdoghaoijdedaaGreatDoor
open Go.RowKit
set_option linter.unusedVariables false
set_option maxRecDepth 100000

theorem grown_more {wo wr w' : World} {FB : Nat} {row : Option Nat} (h : wo.grownBy wr (some FB)) (h' : wr.grownBy w' row) (hrow : ∀ g, row = some g → wo.heap.size ≤ g ∨ g = FB) : wo.grownBy w' (some FB) :=
  ⟨h'.os.trans h.os, h'.tape.trans h.tape, h'.output.trans h.output, Nat.le_trans h.size h'.size, fun k hk hne => by
    refine (h'.block k (Nat.lt_of_lt_of_le hk h.size) ?_).trans (h.block k hk hne)
    intro e
    rcases hrow k e.symm with h1 | h1
    · omega
    · exact hne (by rw [h1])⟩
theorem grown_refl (w : World) (row : Option Nat) : w.grownBy w row := ⟨rfl, rfl, rfl, Nat.le_refl _, fun _ _ _ => rfl⟩
theorem below_grownN {wr w' : World} (hb : Below wr.heap.size wr w') : wr.grownBy w' none := ⟨hb.os, hb.tape, hb.output, hb.size, fun k hk _ => hb.block k hk⟩
theorem set_grown (w : World) (FB j : Nat) (x : Value) : w.grownBy (w.setCell ⟨FB, j, none⟩ x) (some FB) :=
  ⟨rfl, rfl, rfl, by simp, fun k hk hne => Below.heap_setCell _ _ _ _ (fun e => hne (by simpa using e))⟩
def anyV : Value → Nat
  | .slice _ 0 _ => 0
  | _ => 1
theorem anyV_pos (a : Option Addr) (n c : Nat) (h : n ≠ 0) : anyV (.slice a n c) = 1 := by
  cases n with
  | zero => exact absurd rfl h
  | succ k => rfl
theorem mem_drop_cons {qs : List Int} {j : Nat} (hj : j < qs.length) {x : Int} (h : x ∈ qs.drop j) : x = qs.getD j 0 ∨ x ∈ qs.drop (j + 1) := by
  rw [List.drop_eq_getElem_cons hj] at h
  rcases List.mem_cons.1 h with h | h
  · exact .inl (by rw [h]; simp [List.getD, hj])
  · exact .inr h
theorem Row.grown {w w' : World} {D : Nat} {L : List Int} {row : Option Nat} (h : Row w D L) (hg : w.grownBy w' row) (hne : row ≠ some D) : Row w' D L := (hg.block D h.lt (fun e => hne e.symm)).trans h
end Go.Proofs.YtkdoghaoijdedaaGreatDoor

namespace Go.Proofs.YtkdoghaoijdedaaGreatDoor
open Go.RowKit
set_option linter.unusedVariables false
set_option maxRecDepth 100000

theorem Tryz.infoBoolSz : (Tryz.prog.info? 4).map (·.size) = some 1 := by kernel_rfl

set_option maxHeartbeats 1000000 in
theorem repeatB_any (x : Bool) (b off c N : Nat) (hN : N ≤ 300) (w : World) (hb : b < w.heap.size) (hc : w.cell? ⟨b, off, none⟩ = some (.bool x)) :
    Calls Tryz.prog 66 #[.slice (some ⟨b, off, none⟩) 1 c, .int .i64 N] w fun e w' => e = .returned (.slice (some ⟨w.heap.size, 0, none⟩) N N) ∧ RowB w' w.heap.size (List.replicate N x) ∧ Below w.heap.size w w' := by
  have hmk := makeBoolsT N (by omega) w
  have hmul := Tryz.bits_Mul 1 N (by omega) (by omega) w
  rw [show (1 * N / 18446744073709551616 : Nat) = 0 by omega, show (1 * N % 18446744073709551616 : Nat) = N by omega] at hmul
  have HR0 : Hid ((w.alloc (.cells (boolsA (List.replicate N false)) 4)).heap[w.heap.size]? = some (.cells (repZ (.bool x) (.bool false) 0 N).toArray 4 (0, 0))) := by
    show (w.heap.push _)[w.heap.size]? = _
    rw [Array.getElem?_push_size]
    simp [repZ, boolsA]
  have hb0 := alloc_below w (.cells (boolsA (List.replicate N false)) 4)
  have hs0 := alloc_size w (.cells (boolsA (List.replicate N false)) 4)
  go_enter Tryz.func66, Tryz.ntmps66
  go_wp2_with fail
  refine hmul.mono ?_
  rintro e w1 ⟨rfl, hw1⟩
  rw [hw1]
  clear hmul hw1 w1
  go_wp2_with (refine wpList_copy_splice rfl _ _ 27 27 rfl 4 Tryz.underlying27 Tryz.infoBoolSz _ _ _ _ _ _ rfl rfl w.heap.size 0 (repZ (.bool x) (.bool false) 0 N) 4 HR0.out (List.replicate (Nat.min 1 N) (.bool x)) ?c0 ?c1 ?c2 ?c3 w.heap.size w hb0 (Nat.le_refl _) ?_)
  case c0 => simp
  case c1 =>
    intro h0
    intro j v hj
    have hj' := List.mem_of_getElem? hj
    have hlt := (List.getElem?_eq_some_iff.1 hj).1
    obtain rfl : v = .bool x := List.eq_of_mem_replicate hj'
    have hm : Nat.min 1 N ≤ 1 := Nat.min_le_left _ _
    simp only [List.length_replicate] at hlt
    obtain rfl : j = 0 := by omega
    exact hc
  case c2 =>
    rw [repZ_len _ _ _ _ (Nat.zero_le _), List.length_replicate, Nat.zero_add]
    exact Nat.min_le_right _ _
  case c3 => intro v hv; rw [List.eq_of_mem_replicate hv]; rfl
  intro w2 HG2 hB2
  obtain ⟨m, hm⟩ : ∃ m, m = Nat.min 1 N := ⟨_, rfl⟩
  have HM : Hid (m = Nat.min 1 N) := hm
  have hm1 : m ≤ 1 := by rw [hm]; exact Nat.min_le_left _ _
  have hmN : m ≤ N := by rw [hm]; exact Nat.min_le_right _ _
  have hmz : 0 < N → 0 < m := fun h => by rw [hm]; exact Nat.lt_min.2 ⟨by omega, h⟩
  have HG3 : Hid (w2.heap[w.heap.size]? = some (.cells (repZ (.bool x) (.bool false) m N).toArray 4 (0, 0))) := by
    have := HG2.out
    rw [← hm, repZ_splice _ _ 0 m N (by omega), Nat.zero_add] at this
    exact this
  try simp only [List.length_replicate]
  rw [← hm]
  clear HG2 HR0 hb0 hs0 hmk hm
  go_wp2
  clear HM
  go_loopw [8] (fun nv wr => ∃ n : Nat, n ≤ N ∧ (0 < N → 0 < n) ∧ nv = .int .i64 n ∧ Hid (wr.heap[w.heap.size]? = some (.cells (repZ (.bool x) (.bool false) n N).toArray 4 (0, 0))) ∧ Below w.heap.size w wr) (fun nv _ => N - (intOf nv).toNat)
  case atStart => exact ⟨m, hmN, hmz, rfl, HG3, hB2⟩
  case round =>
    clear HG3 hB2 hmz hmN hm1
    obtain ⟨n, hn, hnz, rfl, HG, hbw⟩ := hrel
    by_cases hlt : n < N
    · have hn0 : 0 < n := hnz (by omega)
      obtain ⟨m, hm⟩ : ∃ m, m = Nat.min n (N - n) := ⟨_, rfl⟩
      have hm1 : m ≤ n := by rw [hm]; exact Nat.min_le_left _ _
      have hm2 : m ≤ N - n := by rw [hm]; exact Nat.min_le_right _ _
      have hm0 : 0 < m := by rw [hm]; exact Nat.lt_min.2 ⟨hn0, by omega⟩
      have HM : Hid (m = Nat.min n (N - n)) := hm
      clear hm
      have hDlt : w.heap.size < wr.heap.size := (Array.getElem?_eq_some_iff.1 HG.out).1
      have HCL : Hid (∀ j v, (List.replicate m (Value.bool x))[j]? = some v → wr.drew.cell? ((⟨w.heap.size, 0, none⟩ : Addr).add j) = some v) := fun j v hj => by
        have hj1 := (List.getElem?_eq_some_iff.1 hj).1
        simp only [List.length_replicate] at hj1
        obtain rfl : v = .bool x := List.eq_of_mem_replicate (List.mem_of_getElem? hj)
        have hadd : (⟨w.heap.size, 0, none⟩ : Addr).add j = ⟨w.heap.size, j, none⟩ := by unfold Addr.add; split <;> simp_all
        rw [hadd]
        show wr.cell? _ = _
        rw [cell_of_row wr w.heap.size j _ 4 (0, 0) HG.out]
        simpa using repZ_get (.bool x) (.bool false) n N j (by omega)
      have HGD : Hid (wr.drew.heap[w.heap.size]? = some (.cells (repZ (.bool x) (.bool false) n N).toArray 4 (0, 0))) := HG.out
      have hbd : Below w.heap.size w wr.drew := hbw.trans ⟨rfl, rfl, rfl, Nat.le_refl _, fun _ _ => rfl⟩
      clear HG
      have hNn : ¬ N = n := by omega
      have HW : Hid (IntKind.i64.wrap ((n : Int) + (m : Int)) = ((n + m : Nat) : Int)) := by
        show _ = _
        rw [IntKind.wrap_i64]; omega
      go_wp2
      go_region_law (refine step_copy_splice rfl (.tmp 41) (.tmp 44) 27 27 rfl 4 Tryz.underlying27 Tryz.infoBoolSz (some ⟨w.heap.size, n, none⟩) (some ⟨w.heap.size, 0, none⟩) (N - n) (N - n) n N (by simp [Act.eval, Act.put]) (by simp [Act.eval, Act.put]) w.heap.size n (repZ (.bool x) (.bool false) n N) 4 HGD.out (List.replicate m (.bool x)) (by rw [List.length_replicate]; exact HM.out) (fun _ => ⟨rfl, _, rfl, HCL.out⟩) (by rw [repZ_len _ _ _ _ hn, List.length_replicate]; omega) (by intro v hv; rw [List.eq_of_mem_replicate hv]; rfl) w.heap.size w hbd (Nat.le_refl _) ?_; intro w4 hg4 hb4)
      all_goals
        have HG4 : Hid (w4.heap[w.heap.size]? = some (.cells (repZ (.bool x) (.bool false) (n + m) N).toArray 4 (0, 0))) := by
          have := hg4.out
          rw [repZ_splice _ _ n m N (by omega)] at this
          exact this
        clear hg4 HGD HCL
        try simp only [List.length_replicate]
        go_simp
        go_wp2
        go_roundw
        case rel => exact ⟨n + m, by omega, fun _ => by omega, by rw [HW.out], HG4, hb4⟩
        case measure => rw [HW.out]; simp [intOf]; omega
    · obtain rfl : n = N := by omega
      have HE : Hid (RowB wr w.heap.size (List.replicate n x)) := by
        show _ = _
        rw [HG.out]
        simp [repZ, boolsA]
      clear HG
      go_wp2
      go_ret
      exact ⟨rfl, HE.out, hbw⟩

end Go.Proofs.YtkdoghaoijdedaaGreatDoor
