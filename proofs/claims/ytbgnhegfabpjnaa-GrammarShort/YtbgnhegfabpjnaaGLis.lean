/- The program: a sentence's terminals. -/
import Derived.Test.YtbgnhegfabpjnaaGRsn
import Derived.Deep.AppendLies
import Derived.Deep.RegionLaw
namespace Go.Proofs.Ytbgnhegfabpjnaa
open Go.RowKit
set_option linter.unusedVariables false
set_option maxRecDepth 100000

theorem encL_at : ∀ (l : List Int) (k : Nat), k < l.length → (encL l)[k * 2]? = some (byteU (l.getD k 0 / 256)) ∧ (encL l)[k * 2 + 1]? = some (byteU (l.getD k 0 % 256))
  | [], k, h => by simp at h
  | x :: l, 0, _ => by simp [encL]
  | x :: l, k + 1, h => by
    have ih := encL_at l k (by simpa using h)
    have e : encL (x :: l) = byteU (x / 256) :: byteU (x % 256) :: encL l := by simp [encL]
    rw [e, show (k + 1) * 2 = k * 2 + 1 + 1 by omega, show k * 2 + 1 + 1 + 1 = (k * 2 + 1) + 1 + 1 by omega]
    simpa only [List.getElem?_cons_succ, List.getD_cons_succ] using ih

theorem or_all : ∀ x : Fin 301, bits .or .i64 ((x.val : Int) / 256 * 256) ((x.val : Int) % 256) = (x.val : Int) := by decide +kernel
theorem or_x (x : Int) (h : 0 ≤ x ∧ x ≤ 300) : bits .or .i64 (x / 256 * 256) (x % 256) = x := by
  have := or_all ⟨x.toNat, by omega⟩
  simp only [Int.toNat_of_nonneg h.1] at this
  exact this

set_option maxHeartbeats 4000000 in
theorem list_any (a : SF) (ha : OkS a) (w : World) : Calls Try.prog 14 #[sfV a] w fun e w' => ∃ v, e = .returned (.tuple #[v, .bool (decide (knF a = 2))]) ∧ IntsR w' v (txF a) ∧ Below w.heap.size w w' := by
  obtain ⟨i0, hi0, hz0, hz1, hz2⟩ := infoParts Try.infoInt
  have hl := okS_len ha
  have hr : ∀ x ∈ txF a, 0 ≤ x ∧ x ≤ 300 := fun x hx => by
    cases a with
    | told l => exact (ha l rfl).2 x hx
    | non => simp [txF] at hx
    | long => simp [txF] at hx
  have HR : Hid (∀ x ∈ txF a, 0 ≤ x ∧ x ≤ 300) := hr
  clear hr ha
  unfold sfV
  have hsz := encB_size a
  rw [encL_len] at hsz
  have HAT : Hid (∀ k, k < (txF a).length → (encB a).data.toList[k * 2]? = some (byteU ((txF a).getD k 0 / 256)) ∧ (encB a).data.toList[k * 2 + 1]? = some (byteU ((txF a).getD k 0 % 256))) := fun k hk => by
    have e : (encB a).data.toList = encL (txF a) := by simp [encB]
    rw [e]
    exact encL_at _ k hk
  generalize txF a = l at *
  generalize encB a = s at *
  generalize knF a = ka at *
  have two : ∀ (W : World) (x y : Value), Below W.heap.size W (W.alloc (.cells #[x, y] 35)) ∧ W.heap.size < (W.alloc (.cells #[x, y] 35)).heap.size ∧ (W.alloc (.cells #[x, y] 35)).cell? ⟨W.heap.size, 0, none⟩ = some x ∧ (W.alloc (.cells #[x, y] 35)).cell? ⟨W.heap.size, 1, none⟩ = some y := fun W x y => by
    have h : (W.alloc (.cells #[x, y] 35)).heap[W.heap.size]? = some (.cells #[x, y] 35) := by
      show (W.heap.push _)[W.heap.size]? = _
      exact Array.getElem?_push_size
    refine ⟨alloc_below _ _, by rw [alloc_size]; omega, ?_, ?_⟩ <;> · simp only [World.cell?, h]; rfl
  obtain ⟨p1, p2, p3, p4⟩ := two w (.int .i64 ka) (.string s)
  clear two
  go_enter Try.func14, Try.ntmps14
  go_wp2
  have HSZ : Hid (s.size = l.length * 2) := hsz
  clear hsz
  generalize w.alloc (.cells #[.int .i64 ka, .string s] 35) = w1 at *
  go_loopw [4, 5] (fun v iv wr => ∃ k : Nat, k ≤ l.length ∧ iv = .int .i64 ((k : Int) * 2) ∧ Hid (OwnI wr (w.heap.size + 1) v (l.take k)) ∧ wr.cell? ⟨w.heap.size, 0, none⟩ = some (.int .i64 ka) ∧ wr.cell? ⟨w.heap.size, 1, none⟩ = some (.string s) ∧ w.heap.size < wr.heap.size ∧ Below w.heap.size w wr) (fun _ iv _ => l.length * 2 - (intOf iv).toNat)
  case atStart => exact ⟨0, Nat.zero_le _, rfl, ⟨rfl, .inl ⟨rfl, rfl⟩⟩, p3, p4, p2, p1⟩
  case round =>
    clear p1 p2 p3 p4
    obtain ⟨k, hk, rfl, HO, c0, c1, hlt1, hbw⟩ := hrel
    obtain ⟨va, vc, rfl⟩ := HO.out.slice
    by_cases hlt : k < l.length
    · obtain ⟨q0, q1⟩ := HAT.out k hlt
      have hx := HR.out (l.getD k 0) (by simp [List.getD, hlt])
      have hk2 : k * 2 < s.size := by rw [HSZ.out]; omega
      have hk3 : k * 2 + 1 < s.size := by rw [HSZ.out]; omega
      have hsl : s.size ≤ 2000 := by rw [HSZ.out]; omega
      have HTK : Hid (l.take (k + 1) = l.take k ++ [l.getD k 0]) := by
        show _ = _
        rw [List.take_succ_eq_append_getElem hlt]
        simp [List.getD, hlt]
      generalize l.getD k 0 = x at *
      have hix1 : ∀ W, (Instr.index 9 (.string s) (.int .i64 ((k : Int) * 2))).run Try.prog W = .ok (.int .u8 (x / 256)) W := fun W => by
        rw [run_index_string _ _ _ _ _ Try.underlying9, dif_pos (by omega)]
        have e1 : ((k : Int) * 2).toNat = k * 2 := by omega
        have e2 : s[((k : Int) * 2).toNat]'(by omega) = byteU (x / 256) := by
          have := (List.getElem?_eq_some_iff.1 q0).2
          simp only [e1]
          simpa [ByteArray.getElem_eq_getElem_data] using this
        rw [e2, byteU_nat _ (by omega) (by omega), Int.toNat_of_nonneg (by omega)]
      have hix2 : ∀ W, (Instr.index 9 (.string s) (.int .i64 ((k : Int) * 2 + 1))).run Try.prog W = .ok (.int .u8 (x % 256)) W := fun W => by
        rw [run_index_string _ _ _ _ _ Try.underlying9, dif_pos (by omega)]
        have e1 : ((k : Int) * 2 + 1).toNat = k * 2 + 1 := by omega
        have e2 : s[((k : Int) * 2 + 1).toNat]'(by omega) = byteU (x % 256) := by
          have := (List.getElem?_eq_some_iff.1 q1).2
          simp only [e1]
          simpa [ByteArray.getElem_eq_getElem_data] using this
        rw [e2, byteU_nat _ (by omega) (by omega), Int.toNat_of_nonneg (by omega)]
      clear q0 q1
      have HOW : Hid (∀ o, (wr.drew.alloc o).ownsRow (w.heap.size + 1) 3 1 (.slice va k vc) k ((l.take k).map (Value.int .i64))) := fun o => by
        have h : wr.ownsRow (w.heap.size + 1) 3 1 (.slice va (l.take k).length vc) (l.take k).length ((l.take k).map (Value.int .i64)) := HO.out
        rw [show (l.take k).length = k by rw [List.length_take]; omega] at h
        exact World.ownsRow.alloc (h.kept (row := none) (w' := wr.drew) ⟨rfl, rfl, rfl, Nat.le_refl _, fun _ _ _ => rfl⟩ (by cases hq : (Value.slice va k vc).ownBlock <;> simp)) o
      have HSTP : Hid (∀ o w9 g9 cap9, w9.ownsRow (w.heap.size + 1) 3 1 (.slice (some ⟨g9, 0, none⟩) (k + 1) cap9) (k + 1) ((l.take k).map (Value.int .i64) ++ [.int .i64 x]) → (wr.drew.alloc o).grownBy w9 (Value.slice va k vc).ownBlock → OwnI w9 (w.heap.size + 1) (.slice (some ⟨g9, 0, none⟩) (k + 1) cap9) (l.take (k + 1)) ∧ w9.cell? ⟨w.heap.size, 0, none⟩ = some (.int .i64 ka) ∧ w9.cell? ⟨w.heap.size, 1, none⟩ = some (.string s) ∧ w.heap.size < w9.heap.size ∧ Below w.heap.size w w9) := fun o w9 g9 cap9 h1 h2 => by
        have hol := (HOW.out o).lt
        have hs9 : wr.heap.size + 1 ≤ w9.heap.size := by have := h2.size; simpa using this
        have hb9 : ∀ c, c < w.heap.size + 1 → w9.heap[c]? = wr.heap[c]? := fun c hc => (h2.block c (by simp; omega) (fun e => by have := hol c e.symm; omega)).trans (Below.heap_alloc wr.drew o c (show c < wr.heap.size by omega))
        refine ⟨?_, ?_, ?_, by omega, hbw.trans ⟨h2.os, h2.tape, h2.output, by omega, fun c hc => hb9 c (by omega)⟩⟩
        · unfold OwnI
          rw [HTK.out, List.length_append, List.map_append, show (l.take k).length = k by rw [List.length_take]; omega]
          exact h1
        · simp only [World.cell?] at c0 ⊢
          rw [hb9 _ (Nat.lt_succ_self _)]; exact c0
        · simp only [World.cell?] at c1 ⊢
          rw [hb9 _ (Nat.lt_succ_self _)]; exact c1
      clear HO
      go_wp2
      have hw1 : IntKind.i64.wrap ((k : Int) * 2 + 1) = (k : Int) * 2 + 1 := by rw [IntKind.wrap_i64]; omega
      have hw2 : IntKind.i64.wrap (x / 256) = x / 256 := by rw [IntKind.wrap_i64]; omega
      have hw3 : IntKind.i64.wrap (x / 256 * 256) = x / 256 * 256 := by rw [IntKind.wrap_i64]; omega
      have hw4 : IntKind.i64.wrap (x % 256) = x % 256 := by rw [IntKind.wrap_i64]; omega
      have hor := or_x x hx
      go_region_law (refine step_append_lies _ rfl _ _ 23 rfl (w.heap.size + 1) 3 i0 (.int .i64 0) 1 8 Try.underlying23 hi0 hz0 hz1 hz2 rfl (by decide) (.slice va k vc) k ((l.take k).map (Value.int .i64)) rfl (HOW.out _) ⟨wr.heap.size, 0, none⟩ 1 1 [.int .i64 x] rfl rfl (cell_one_new wr.drew _ _) (by intro x hx; simp at hx; subst hx; rfl) (by omega) (by unfold maxLen; omega) (by omega) (by simp; omega) (wr.heap.size + 1) (by simp) ?_; intro g9 cap9 w9 hown9 hg9 hat9 hlt9; have q := HSTP.out _ w9 g9 cap9 hown9 hg9; obtain ⟨q1, q2, q3, q4, q5⟩ := q)
      all_goals
        have Q1 : Hid (OwnI w9 (w.heap.size + 1) (.slice (some ⟨g9, 0, none⟩) (k + 1) cap9) (l.take (k + 1))) := q1
        clear q1 hown9 hg9 hat9 hlt9 HSTP HOW c0 c1 hw1 hw2 hw3 hw4 hor hix1 hix2
        go_simp
        go_wp2
        go_roundw
        case rel => exact ⟨k + 1, by omega, by rw [show ((k : Int) * 2 + 2) = ((k + 1 : Nat) : Int) * 2 by omega], Q1, q2, q3, q4, q5⟩
        case measure => simp [intOf]; omega
    · obtain rfl : k = l.length := by omega
      have hge : ¬ ((l.length : Int) * 2 < (s.size : Int)) := by rw [HSZ.out]; omega
      have HE : Hid (IntsR wr (.slice va l.length vc) l) := by
        have h := HO.out
        rw [List.take_of_length_le (Nat.le_refl _)] at h
        rcases h.2 with ⟨e, h0⟩ | ⟨g, cap, cur, e, hB, hg, hcap, _⟩
        · exact ⟨va, vc, rfl, .inl (List.eq_nil_of_length_eq_zero h0)⟩
        · try simp only [List.length_take, Nat.min_self] at e
          obtain ⟨rfl, rfl⟩ : va = some ⟨g, 0, none⟩ ∧ vc = cap := by simpa using e
          unfold OwnI at h
          try simp only [List.length_take, Nat.min_self] at h
          refine ⟨_, _, rfl, .inr ⟨g, 0, rfl, (Array.getElem?_eq_some_iff.1 hg).1, fun j hj => ?_⟩⟩
          rw [Nat.zero_add, h.cellAt j (by omega)]
          simp [List.getD, hj]
      clear HO
      by_cases h2 : ka = 2
      · subst h2
        go_wp2
        go_quiet (fail)
        go_wp2
        go_ret2
        exact ⟨_, rfl, HE.out.below ⟨rfl, rfl, rfl, Nat.le_refl _, fun _ _ => rfl⟩, below_drewG hbw nq⟩
      · have h3 : (ka == 2) = false := by rw [beq_eq_false_iff_ne]; exact h2
        have HD : Hid (decide (ka = 2) = false) := decide_eq_false h2
        go_wp2
        go_quiet (fail)
        go_wp2
        go_ret2
        exact ⟨_, by rw [HD.out]; rfl, HE.out.below ⟨rfl, rfl, rfl, Nat.le_refl _, fun _ _ => rfl⟩, below_drewG hbw nq⟩

end Go.Proofs.Ytbgnhegfabpjnaa
