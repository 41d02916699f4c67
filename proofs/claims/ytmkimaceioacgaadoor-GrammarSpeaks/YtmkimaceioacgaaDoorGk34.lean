/- Texts of the proof, put together: GSnW, GLis, GShY, GSpS. -/
import Derived.Test.YtmkimaceioacgaaDoorGk31
import Derived.Test.YtmkimaceioacgaaDoorGk33
import Derived.Test.YtmkimaceioacgaaDoorGk30
import Derived.Deep.AppendLies
import Derived.Deep.RegionLaw
import Derived.Test.YtmkimaceioacgaaDoorGk27
namespace Go.Proofs.YtmkimaceioacgaaDoor
open Go.RowKit
set_option linter.unusedVariables false
set_option maxRecDepth 100000

set_option maxHeartbeats 4000000 in
theorem sentences_any (t s : Int) (N : Nat) (ps : List PdR) (ls ss : List Int) (pv lv sv : Value) (w : World) (hG : GOkM N ps) (hN1 : 1 ≤ N) (h3 : ∀ p ∈ ps, ∀ x ∈ p.right, x ≤ 300) (h : PdsM w pv ps) :
    Calls Tryd.prog 16 #[gv ⟨t, N, s, ps, ls, ss⟩ pv lv sv] w fun e w' => ∃ B L, e = .returned (.slice (some ⟨B, 0, none⟩) N N) ∧ RowS w' B L ∧ WkT ps N L (fun _ => False) ∧ w.heap.size ≤ B ∧ Below w.heap.size w w' := by
  have hB0 := boxG_below w ⟨t, N, s, ps, ls, ss⟩ pv lv sv
  have hB1 := boxG_size w ⟨t, N, s, ps, ls, ss⟩ pv lv sv
  have hB2 := boxG_box w ⟨t, N, s, ps, ls, ss⟩ pv lv sv
  have hmf : ∀ (fn : Fn) (first cap : Array Value) (w : World), (Instr.makeFunc fn first cap).run Tryd.prog w = .ok (.func fn first cap) w := fun _ _ _ _ => rfl
  have hOP := ownProds_any t s N ps ls ss pv lv sv (boxG w ⟨t, N, s, ps, ls, ss⟩ pv lv sv) hG.n hG.len (fun m hm => ⟨(hG.pd m hm).1.1, (hG.pd m hm).1.2.1⟩) (h.below hB0)
  obtain ⟨pa, pc, rfl⟩ := h.slice
  have HP : Hid (PdsM w (.slice pa ps.length pc) ps) := h
  have HBX : Hid (BoxG (boxG w ⟨t, N, s, ps, ls, ss⟩ (.slice pa ps.length pc) lv sv) w.heap.size ⟨t, N, s, ps, ls, ss⟩ (.slice pa ps.length pc) lv sv) := hB2
  clear h
  unfold boxG gv gvs at hOP
  unfold boxG gvs at hB0 hB1 hB2 HBX
  unfold gv gvs
  simp only at *
  obtain ⟨q0, q1, q2, q3, q4, q5, q6⟩ := hB2
  simp only at q0 q1 q2 q3 q4 q5 q6
  go_enter Tryd.func16, Tryd.ntmps16
  go_wp2_with fail
  refine hOP.mono ?_
  rintro e w2 ⟨rfl, hown, hb2⟩
  clear hOP q0 q1 q2 q3 q4 q5 q6
  generalize w.alloc (.cells #[.int .i64 t, .int .i64 N, .int .i64 s, .slice pa ps.length pc, lv, sv] 25) = w0 at *
  generalize w0.heap.size + 1 = DD at *
  have hb2' : Below w.heap.size w w2 := hB0.trans (hb2.mono (by omega))
  have hAb := alloc_below w2 (.cells #[.slice (some ⟨DD, 0, none⟩) N N] 58)
  have hAs := alloc_size w2 (.cells #[.slice (some ⟨DD, 0, none⟩) N N] 58)
  have HOM : Hid (OwnM (w2.alloc (.cells #[.slice (some ⟨DD, 0, none⟩) N N] 58)) w2.heap.size N (ownL ps)) := by
    have hd := hown.below hAb
    have h : (w2.alloc (.cells #[.slice (some ⟨DD, 0, none⟩) N N] 58)).heap[w2.heap.size]? = some (.cells #[.slice (some ⟨DD, 0, none⟩) N N] 58) := by
      show (w2.heap.push _)[w2.heap.size]? = _
      exact Array.getElem?_push_size
    refine ⟨DD, by rw [hAs]; omega, hd.1, ?_, hd.2⟩
    simp only [World.cell?, h]; rfl
  have hbx2 : Below (w.heap.size + 1) w0 (w2.alloc (.cells #[.slice (some ⟨DD, 0, none⟩) N N] 58)) := by
    have := hb2.trans (hAb.mono hb2.size)
    rw [hB1] at this
    exact this
  obtain ⟨q0, q1, q2, q3, q4, q5, q6⟩ := HBX.out.below (Nat.lt_succ_self _) hbx2
  simp only at q0 q1 q2 q3 q4 q5 q6
  have hb3 : Below w.heap.size w (w2.alloc (.cells #[.slice (some ⟨DD, 0, none⟩) N N] 58)) := hb2'.trans (hAb.mono hb2'.size)
  have hWi := within_any t s N ps ls ss (.slice pa ps.length pc) lv sv (w2.alloc (.cells #[.slice (some ⟨DD, 0, none⟩) N N] 58)) hG.n hG.len hG.pd (HP.out.below hb3)
  unfold gv gvs at hWi
  simp only at hWi
  clear hown hbx2 hAb
  have hlt2 : w2.heap.size < (w2.alloc (.cells #[.slice (some ⟨DD, 0, none⟩) N N] 58)).heap.size := by omega
  clear hAs
  go_wp2_with fail
  refine hWi.mono ?_
  rintro e w4 ⟨rfl, ⟨cnt, hlnk, hcb⟩, hb4⟩
  clear hWi q0 q1 q2 q3 q4 q5 q6
  generalize w2.alloc (.cells #[.slice (some ⟨DD, 0, none⟩) N N] 58) = w3 at *
  have hb4' : Below w.heap.size w w4 := hb3.trans (hb4.mono hb3.size)
  have hOM4 := HOM.out.below hb4
  have hen : ∀ args w, (callFunc 33 args).run Tryd.prog w = .ok (.enter 33 args) w := enters_of Tryd.func33 (by kernel_rfl) rfl
  have hSy : SaysT w4 33 (.pointer (some ⟨w2.heap.size, 0, none⟩)) N ps := by
    intro w' L v n hn hL hok hv hb
    exact sentencesC_any N hG.n (ownL ps) L v n w2.heap.size hn w' (Nat.le_trans (ownL_len ps n) hG.len) (fun p hp => ⟨(hG.mem (List.mem_filter.1 hp).1).2, h3 p (List.mem_filter.1 hp).1⟩) hL hok hv (hOM4.below hb)
  have hLe := leastS_any N hN1 hG.n ps (fun p hp => (hG.mem hp).1.1) h3 33 hen (.pointer (some ⟨w2.heap.size, 0, none⟩)) w4 (w3.heap.size + 1) _ cnt hlnk (fun n _ => Nat.le_trans (hcb n) (by omega)) (fun n k _ hk => hG.link n k hk) hSy ByteArray.empty rfl
  clear hSy hOM4 HOM hlnk hcb
  go_wp2_with fail
  refine hLe.mono ?_
  rintro e w5 ⟨B, L, rfl, hrow, hwk, hB, hb5⟩
  have HRw : Hid (RowS w5 B L) := hrow
  have HWk : Hid (WkT ps N L fun _ => False) := hwk
  have hb5' : Below w.heap.size w w5 := hb4'.trans (hb5.mono hb4'.size)
  have hBl : w.heap.size ≤ B := Nat.le_trans hb4'.size hB
  clear hrow hwk hLe
  go_wp2
  go_ret
  exact ⟨B, L, rfl, HRw.out, HWk.out, hBl, hb5'⟩

end Go.Proofs.YtmkimaceioacgaaDoor

namespace Go.Proofs.YtmkimaceioacgaaDoor
open Go.RowKit
set_option linter.unusedVariables false
set_option maxRecDepth 100000

theorem encL_at : ∀ (l : List Int) (k : Nat), k < l.length → (encL l)[k * 2]? = some (byteU (l.getD k 0 / 256)) ∧ (encL l)[k * 2 + 1]? = some (byteU (l.getD k 0 % 256))
  | [], k, h => by simp at h
  | x :: l, 0, _ => by simp [encL]
  | x :: l, k + 1, h => by
    have ih := encL_at l k (by simpa using h)
    have e : encL (x :: l) = byteU (x / 256) :: byteU (x % 256) :: encL l := by simp [encL]
    rw [e, show (k + 1) * 2 = k * 2 + 1 + 1 by omega, show k * 2 + 1 + 1 + 1 = (k * 2 + 1) + 1 + 1 by omega]
    simpa only [List.getElem?_cons_succ, List.getD_cons_succ] using ih

theorem or_all : ∀ x : Fin 301, bits .or .i64 ((x.val : Int) / 256 * 256) ((x.val : Int) % 256) = (x.val : Int) := by decide +kernel
theorem or_x (x : Int) (h : 0 ≤ x ∧ x ≤ 300) : bits .or .i64 (x / 256 * 256) (x % 256) = x := by
  have := or_all ⟨x.toNat, by omega⟩
  simp only [Int.toNat_of_nonneg h.1] at this
  exact this

set_option maxHeartbeats 4000000 in
theorem list_any (a : SF) (ha : OkS a) (w : World) : Calls Tryd.prog 17 #[sfV a] w fun e w' => ∃ v, e = .returned (.tuple #[v, .bool (decide (knF a = 2))]) ∧ IntsR w' v (txF a) ∧ Below w.heap.size w w' := by
  obtain ⟨i0, hi0, hz0, hz1, hz2⟩ := infoParts Tryd.infoInt
  have hl := okS_len ha
  have hr : ∀ x ∈ txF a, 0 ≤ x ∧ x ≤ 300 := fun x hx => by
    cases a using SF.cs with
    | told l => exact (ha l rfl).2 x hx
    | non => simp [txF] at hx
    | long => simp [txF] at hx
  have HR : Hid (∀ x ∈ txF a, 0 ≤ x ∧ x ≤ 300) := hr
  clear hr ha
  unfold sfV
  have hsz := encB_size a
  rw [encL_len] at hsz
  have HAT : Hid (∀ k, k < (txF a).length → (encB a).data.toList[k * 2]? = some (byteU ((txF a).getD k 0 / 256)) ∧ (encB a).data.toList[k * 2 + 1]? = some (byteU ((txF a).getD k 0 % 256))) := fun k hk => by
    have e : (encB a).data.toList = encL (txF a) := by simp [encB]
    rw [e]
    exact encL_at _ k hk
  generalize txF a = l at *
  generalize encB a = s at *
  generalize knF a = ka at *
  have two : ∀ (W : World) (x y : Value), Below W.heap.size W (W.alloc (.cells #[x, y] 40)) ∧ W.heap.size < (W.alloc (.cells #[x, y] 40)).heap.size ∧ (W.alloc (.cells #[x, y] 40)).cell? ⟨W.heap.size, 0, none⟩ = some x ∧ (W.alloc (.cells #[x, y] 40)).cell? ⟨W.heap.size, 1, none⟩ = some y := fun W x y => by
    have h : (W.alloc (.cells #[x, y] 40)).heap[W.heap.size]? = some (.cells #[x, y] 40) := by
      show (W.heap.push _)[W.heap.size]? = _
      exact Array.getElem?_push_size
    refine ⟨alloc_below _ _, by rw [alloc_size]; omega, ?_, ?_⟩ <;> · simp only [World.cell?, h]; rfl
  obtain ⟨p1, p2, p3, p4⟩ := two w (.int .i64 ka) (.string s)
  clear two
  go_enter Tryd.func17, Tryd.ntmps17
  go_wp2
  have HSZ : Hid (s.size = l.length * 2) := hsz
  clear hsz
  generalize w.alloc (.cells #[.int .i64 ka, .string s] 40) = w1 at *
  go_loopw [4, 5] (fun v iv wr => ∃ k : Nat, k ≤ l.length ∧ iv = .int .i64 ((k : Int) * 2) ∧ Hid (OwnI wr (w.heap.size + 1) v (l.take k)) ∧ wr.cell? ⟨w.heap.size, 0, none⟩ = some (.int .i64 ka) ∧ wr.cell? ⟨w.heap.size, 1, none⟩ = some (.string s) ∧ w.heap.size < wr.heap.size ∧ Below w.heap.size w wr) (fun _ iv _ => l.length * 2 - (intOf iv).toNat)
  case atStart => exact ⟨0, Nat.zero_le _, rfl, ⟨rfl, .inl ⟨rfl, rfl⟩⟩, p3, p4, p2, p1⟩
  case round =>
    clear p1 p2 p3 p4
    obtain ⟨k, hk, rfl, HO, c0, c1, hlt1, hbw⟩ := hrel
    obtain ⟨va, vc, rfl⟩ := HO.out.slice
    by_cases hlt : k < l.length
    · obtain ⟨q0, q1⟩ := HAT.out k hlt
      have hx := HR.out (l.getD k 0) (by simp [List.getD, hlt])
      have hk2 : k * 2 < s.size := by rw [HSZ.out]; omega
      have hk3 : k * 2 + 1 < s.size := by rw [HSZ.out]; omega
      have hsl : s.size ≤ 2000 := by rw [HSZ.out]; omega
      have HTK : Hid (l.take (k + 1) = l.take k ++ [l.getD k 0]) := by
        show _ = _
        rw [List.take_succ_eq_append_getElem hlt]
        simp [List.getD, hlt]
      generalize l.getD k 0 = x at *
      have hix1 : ∀ W, (Instr.index 9 (.string s) (.int .i64 ((k : Int) * 2))).run Tryd.prog W = .ok (.int .u8 (x / 256)) W := fun W => by
        rw [run_index_string _ _ _ _ _ Tryd.underlying9, dif_pos (by omega)]
        have e1 : ((k : Int) * 2).toNat = k * 2 := by omega
        have e2 : s[((k : Int) * 2).toNat]'(by omega) = byteU (x / 256) := by
          have := (List.getElem?_eq_some_iff.1 q0).2
          simp only [e1]
          simpa [ByteArray.getElem_eq_getElem_data] using this
        rw [e2, byteU_nat _ (by omega) (by omega), Int.toNat_of_nonneg (by omega)]
      have hix2 : ∀ W, (Instr.index 9 (.string s) (.int .i64 ((k : Int) * 2 + 1))).run Tryd.prog W = .ok (.int .u8 (x % 256)) W := fun W => by
        rw [run_index_string _ _ _ _ _ Tryd.underlying9, dif_pos (by omega)]
        have e1 : ((k : Int) * 2 + 1).toNat = k * 2 + 1 := by omega
        have e2 : s[((k : Int) * 2 + 1).toNat]'(by omega) = byteU (x % 256) := by
          have := (List.getElem?_eq_some_iff.1 q1).2
          simp only [e1]
          simpa [ByteArray.getElem_eq_getElem_data] using this
        rw [e2, byteU_nat _ (by omega) (by omega), Int.toNat_of_nonneg (by omega)]
      clear q0 q1
      have HOW : Hid (∀ o, (wr.drew.alloc o).ownsRow (w.heap.size + 1) 3 1 (.slice va k vc) k ((l.take k).map (Value.int .i64))) := fun o => by
        have h : wr.ownsRow (w.heap.size + 1) 3 1 (.slice va (l.take k).length vc) (l.take k).length ((l.take k).map (Value.int .i64)) := HO.out
        rw [show (l.take k).length = k by rw [List.length_take]; omega] at h
        exact World.ownsRow.alloc (h.kept (row := none) (w' := wr.drew) ⟨rfl, rfl, rfl, Nat.le_refl _, fun _ _ _ => rfl⟩ (by cases hq : (Value.slice va k vc).ownBlock <;> simp)) o
      have HSTP : Hid (∀ o w9 g9 cap9, w9.ownsRow (w.heap.size + 1) 3 1 (.slice (some ⟨g9, 0, none⟩) (k + 1) cap9) (k + 1) ((l.take k).map (Value.int .i64) ++ [.int .i64 x]) → (wr.drew.alloc o).grownBy w9 (Value.slice va k vc).ownBlock → OwnI w9 (w.heap.size + 1) (.slice (some ⟨g9, 0, none⟩) (k + 1) cap9) (l.take (k + 1)) ∧ w9.cell? ⟨w.heap.size, 0, none⟩ = some (.int .i64 ka) ∧ w9.cell? ⟨w.heap.size, 1, none⟩ = some (.string s) ∧ w.heap.size < w9.heap.size ∧ Below w.heap.size w w9) := fun o w9 g9 cap9 h1 h2 => by
        have hol := (HOW.out o).lt
        have hs9 : wr.heap.size + 1 ≤ w9.heap.size := by have := h2.size; simpa using this
        have hb9 : ∀ c, c < w.heap.size + 1 → w9.heap[c]? = wr.heap[c]? := fun c hc => (h2.block c (by simp; omega) (fun e => by have := hol c e.symm; omega)).trans (Below.heap_alloc wr.drew o c (show c < wr.heap.size by omega))
        refine ⟨?_, ?_, ?_, by omega, hbw.trans ⟨h2.os, h2.tape, h2.output, by omega, fun c hc => hb9 c (by omega)⟩⟩
        · unfold OwnI
          rw [HTK.out, List.length_append, List.map_append, show (l.take k).length = k by rw [List.length_take]; omega]
          exact h1
        · simp only [World.cell?] at c0 ⊢
          rw [hb9 _ (Nat.lt_succ_self _)]; exact c0
        · simp only [World.cell?] at c1 ⊢
          rw [hb9 _ (Nat.lt_succ_self _)]; exact c1
      clear HO
      go_wp2
      have hw1 : IntKind.i64.wrap ((k : Int) * 2 + 1) = (k : Int) * 2 + 1 := by rw [IntKind.wrap_i64]; omega
      have hw2 : IntKind.i64.wrap (x / 256) = x / 256 := by rw [IntKind.wrap_i64]; omega
      have hw3 : IntKind.i64.wrap (x / 256 * 256) = x / 256 * 256 := by rw [IntKind.wrap_i64]; omega
      have hw4 : IntKind.i64.wrap (x % 256) = x % 256 := by rw [IntKind.wrap_i64]; omega
      have hor := or_x x hx
      go_region_law (refine step_append_lies _ rfl _ _ 23 rfl (w.heap.size + 1) 3 i0 (.int .i64 0) 1 8 Tryd.underlying23 hi0 hz0 hz1 hz2 rfl (by decide) (.slice va k vc) k ((l.take k).map (Value.int .i64)) rfl (HOW.out _) ⟨wr.heap.size, 0, none⟩ 1 1 [.int .i64 x] rfl rfl (cell_one_new wr.drew _ _) (by intro x hx; simp at hx; subst hx; rfl) (by omega) (by unfold maxLen; omega) (by omega) (by simp; omega) (wr.heap.size + 1) (by simp) ?_; intro g9 cap9 w9 hown9 hg9 hat9 hlt9; have q := HSTP.out _ w9 g9 cap9 hown9 hg9; obtain ⟨q1, q2, q3, q4, q5⟩ := q)
      all_goals
        have Q1 : Hid (OwnI w9 (w.heap.size + 1) (.slice (some ⟨g9, 0, none⟩) (k + 1) cap9) (l.take (k + 1))) := q1
        clear q1 hown9 hg9 hat9 hlt9 HSTP HOW c0 c1 hw1 hw2 hw3 hw4 hor hix1 hix2
        go_simp
        go_wp2
        go_roundw
        case rel => exact ⟨k + 1, by omega, by rw [show ((k : Int) * 2 + 2) = ((k + 1 : Nat) : Int) * 2 by omega], Q1, q2, q3, q4, q5⟩
        case measure => simp [intOf]; omega
    · obtain rfl : k = l.length := by omega
      have hge : ¬ ((l.length : Int) * 2 < (s.size : Int)) := by rw [HSZ.out]; omega
      have HE : Hid (IntsR wr (.slice va l.length vc) l) := by
        have h := HO.out
        rw [List.take_of_length_le (Nat.le_refl _)] at h
        rcases h.2 with ⟨e, h0⟩ | ⟨g, cap, cur, e, hB, hg, hcap, _⟩
        · exact ⟨va, vc, rfl, by omega, .inl (List.eq_nil_of_length_eq_zero h0)⟩
        · try simp only [List.length_take, Nat.min_self] at e
          obtain ⟨rfl, rfl⟩ : va = some ⟨g, 0, none⟩ ∧ vc = cap := by simpa using e
          unfold OwnI at h
          try simp only [List.length_take, Nat.min_self] at h
          refine ⟨_, _, rfl, by first | omega | exact hcap, .inr ⟨g, 0, rfl, (Array.getElem?_eq_some_iff.1 hg).1, fun j hj => ?_⟩⟩
          rw [Nat.zero_add, h.cellAt j (by omega)]
          simp [List.getD, hj]
      clear HO
      by_cases h2 : ka = 2
      · subst h2
        go_wp2
        go_quiet (fail)
        go_wp2
        go_ret2
        exact ⟨_, rfl, HE.out.below ⟨rfl, rfl, rfl, Nat.le_refl _, fun _ _ => rfl⟩, below_drewG hbw nq⟩
      · have h3 : (ka == 2) = false := by rw [beq_eq_false_iff_ne]; exact h2
        have HD : Hid (decide (ka = 2) = false) := decide_eq_false h2
        go_wp2
        go_quiet (fail)
        go_wp2
        go_ret2
        exact ⟨_, by rw [HD.out]; rfl, HE.out.below ⟨rfl, rfl, rfl, Nat.le_refl _, fun _ _ => rfl⟩, below_drewG hbw nq⟩

end Go.Proofs.YtmkimaceioacgaaDoor

namespace Go.Proofs.YtmkimaceioacgaaDoor
open Go.RowKit
set_option linter.unusedVariables false
set_option maxRecDepth 100000

set_option maxHeartbeats 2000000 in
theorem pshortest_no (g : Gm) (n : Int) (pv lv sv : Value) (w : World) (h : GrM w g pv lv sv) (hwf : WfG g) (hno : gOkB g = false) :
    Calls Tryd.prog 7 #[gv g pv lv sv, .int .i64 n] w fun e w' => e = .returned (.tuple #[.slice none 0 0, .bool false]) ∧ Below w.heap.size w w' := by
  have hB0 := boxG_below w g pv lv sv
  have hB2 := boxG_box w g pv lv sv
  have hC := pok_any g pv lv sv (boxG w g pv lv sv) (h.below hB0) hwf
  rw [hno] at hC
  obtain ⟨q0, q1, q2, q3, q4, q5, q6⟩ := hB2
  unfold boxG gv gvs at hC
  unfold boxG gvs at hB0 q0 q1 q2 q3 q4 q5 q6
  unfold gv gvs
  go_enter Tryd.func7, Tryd.ntmps7
  go_wp2_with fail
  refine hC.mono ?_
  rintro e w2 ⟨rfl, hb2⟩
  have hb := hB0.trans (hb2.mono hB0.size)
  clear hC q0 q1 q2 q3 q4 q5 q6
  go_wp2
  go_ret2
  exact ⟨rfl, hb⟩

set_option maxHeartbeats 2000000 in
theorem pshortest_out (g : Gm) (n : Int) (pv lv sv : Value) (w : World) (h : GrM w g pv lv sv) (hwf : WfG g) (hyes : gOkB g = true) (hn : n < 0 ∨ g.names ≤ n) :
    Calls Tryd.prog 7 #[gv g pv lv sv, .int .i64 n] w fun e w' => e = .returned (.tuple #[.slice none 0 0, .bool false]) ∧ Below w.heap.size w w' := by
  have hB0 := boxG_below w g pv lv sv
  have hB1 := boxG_size w g pv lv sv
  have hB2 := boxG_box w g pv lv sv
  have hC := pok_any g pv lv sv (boxG w g pv lv sv) (h.below hB0) hwf
  rw [hyes] at hC
  have HBX : Hid (BoxG (boxG w g pv lv sv) w.heap.size g pv lv sv) := hB2
  obtain ⟨q0, q1, q2, q3, q4, q5, q6⟩ := hB2
  unfold boxG gv gvs at hC
  unfold boxG gvs at hB0 hB1 q0 q1 q2 q3 q4 q5 q6 HBX
  unfold gv gvs
  by_cases hn0 : n < 0
  · have d1 : decide (n < 0) = true := decide_eq_true hn0
    go_enter Tryd.func7, Tryd.ntmps7
    go_wp2_with fail
    refine hC.mono ?_
    rintro e w2 ⟨rfl, hb2⟩
    have hb := hB0.trans (hb2.mono hB0.size)
    clear hC q0 q1 q2 q3 q4 q5 q6
    go_wp2
    go_ret2
    exact ⟨rfl, hb⟩
  · have hn1 : g.names ≤ n := by omega
    have d1 : decide (n < 0) = false := decide_eq_false hn0
    have d2 : decide (n ≥ g.names) = true := decide_eq_true hn1
    have d3 : ¬ n < g.names := by omega
    go_enter Tryd.func7, Tryd.ntmps7
    go_wp2_with fail
    refine hC.mono ?_
    rintro e w2 ⟨rfl, hb2⟩
    have hb := hB0.trans (hb2.mono hB0.size)
    rw [hB1] at hb2
    clear hC q0 q1 q2 q3 q4 q5 q6
    obtain ⟨q0, q1, q2, q3, q4, q5, q6⟩ := HBX.out.below (Nat.lt_succ_self _) hb2
    go_wp2
    go_ret2
    exact ⟨rfl, hb⟩

set_option maxHeartbeats 4000000 in
theorem pshortest_yes (t s : Int) (N n : Nat) (ps : List PdR) (ls ss : List Int) (pv lv sv : Value) (w : World) (hG : GOkM N ps) (hN1 : 1 ≤ N) (h3 : ∀ p ∈ ps, ∀ x ∈ p.right, x ≤ 300) (h : GrM w ⟨t, N, s, ps, ls, ss⟩ pv lv sv) (hwf : WfG ⟨t, N, s, ps, ls, ss⟩) (hyes : gOkB ⟨t, N, s, ps, ls, ss⟩ = true) (hn : n < N) :
    Calls Tryd.prog 7 #[gv ⟨t, N, s, ps, ls, ss⟩ pv lv sv, .int .i64 (n : Int)] w fun e w' => ∃ v L, e = .returned (.tuple #[v, .bool (decide (knF (factF L n) = 2))]) ∧ IntsR w' v (txF (factF L n)) ∧ WkT ps N L (fun _ => False) ∧ Below w.heap.size w w' := by
  have hB0 := boxG_below w ⟨t, N, s, ps, ls, ss⟩ pv lv sv
  have hB1 := boxG_size w ⟨t, N, s, ps, ls, ss⟩ pv lv sv
  have hB2 := boxG_box w ⟨t, N, s, ps, ls, ss⟩ pv lv sv
  have hC := pok_any ⟨t, N, s, ps, ls, ss⟩ pv lv sv (boxG w ⟨t, N, s, ps, ls, ss⟩ pv lv sv) (h.below hB0) hwf
  rw [hyes] at hC
  have HL : Hid (∀ w', Below w.heap.size w w' → _) := fun w' hb => sentences_any t s N ps ls ss pv lv sv w' hG hN1 h3 (h.prods.below hb)
  have HBX : Hid (BoxG (boxG w ⟨t, N, s, ps, ls, ss⟩ pv lv sv) w.heap.size ⟨t, N, s, ps, ls, ss⟩ pv lv sv) := hB2
  obtain ⟨q0, q1, q2, q3, q4, q5, q6⟩ := hB2
  unfold boxG gv gvs at hC
  unfold boxG gvs at hB0 hB1 q0 q1 q2 q3 q4 q5 q6 HBX
  unfold gv gvs at HL ⊢
  simp only at *
  have d1 : decide ((n : Int) < 0) = false := decide_eq_false (by omega)
  have d2 : decide ((n : Int) ≥ (N : Int)) = false := decide_eq_false (by omega)
  have d3 : ¬ (N : Int) ≤ (n : Int) := by omega
  go_enter Tryd.func7, Tryd.ntmps7
  go_wp2_with fail
  refine hC.mono ?_
  rintro e w2 ⟨rfl, hb2⟩
  have hb := hB0.trans (hb2.mono hB0.size)
  rw [hB1] at hb2
  clear hC q0 q1 q2 q3 q4 q5 q6
  obtain ⟨q0, q1, q2, q3, q4, q5, q6⟩ := HBX.out.below (Nat.lt_succ_self _) hb2
  simp only at q0 q1 q2 q3 q4 q5 q6
  have hLe := HL.out w2 hb
  go_wp2_with fail
  refine hLe.mono ?_
  rintro e w3 ⟨B, L, rfl, hrow, hwk, hBl, hb3⟩
  clear hLe q0 q1 q2 q3 q4 q5 q6
  obtain ⟨c0, c1⟩ := hrow.cell (j := n) (by rw [hwk.len]; exact hn)
  have hBlt := hrow.lt
  have hLi := list_any (factF L n) (hwk.ok n) w3
  unfold sfV at hLi
  have HWk : Hid (WkT ps N L fun _ => False) := hwk
  have hb4 := hb.trans (hb3.mono hb.size)
  clear hrow hwk
  go_wp2_with fail
  refine hLi.mono ?_
  rintro e w4 ⟨v, rfl, hint, hb5⟩
  have hb6 := hb4.trans (hb5.mono hb4.size)
  have HI : Hid (IntsR w4 v (txF (factF L n))) := hint
  obtain ⟨va, vc, rfl⟩ := hint.slice
  clear hLi c0 c1 hint
  go_wp2
  go_ret2
  exact ⟨_, L, rfl, HI.out, HWk.out, hb6⟩

end Go.Proofs.YtmkimaceioacgaaDoor

namespace Go.Proofs.YtmkimaceioacgaaDoor
open Go.RowKit
set_option linter.unusedVariables false
set_option maxRecDepth 100000

theorem one_told {L : List SF} (h : WkT oneG.prods 1 L fun _ => False) : factF L 0 = SF.told [0] := by
  rw [h.closed 0 (by omega) (fun e => e)]
  rfl
theorem one_ok : gOkB oneG = true := by decide
theorem one_wf : WfG oneG := fun p hp x hx => by
  obtain rfl : p = ⟨0, [0], 0⟩ := by simpa [oneG] using hp
  obtain rfl : x = 0 := by simpa using hx
  unfold I64
  omega
theorem one_G : GOkM 1 oneG.prods ∧ ∀ p ∈ oneG.prods, ∀ x ∈ p.right, x ≤ 300 := by
  obtain ⟨N, hN, _, h, h3, _⟩ := gok_M oneG one_ok one_wf
  obtain rfl : N = 1 := by have : (1 : Int) = N := hN; omega
  exact ⟨h, fun p hp x hx => by have := h3 p hp x hx; have e : oneG.terms = 1 := rfl; omega⟩

set_option maxHeartbeats 4000000 in
theorem speaks_any (w : World) : Calls Tryd.prog 4 #[] w fun e w' => e = .returned (.bool true) ∧ Below w.heap.size w w' := by
  have HS : Hid (∀ W B, GrM W oneG (.slice (some ⟨B, 0, none⟩) 1 1) (.slice none 0 0) (.slice none 0 0) → Calls Tryd.prog 7 #[gv oneG (.slice (some ⟨B, 0, none⟩) 1 1) (.slice none 0 0) (.slice none 0 0), .int .i64 0] W fun e w' => ∃ va vc, e = .returned (.tuple #[.slice va 1 vc, .bool true]) ∧ IntsR w' (.slice va 1 vc) [0] ∧ Below W.heap.size W w') := fun W B hM => by
    refine (pshortest_yes 1 0 1 0 oneG.prods [] [] (.slice (some ⟨B, 0, none⟩) 1 1) (.slice none 0 0) (.slice none 0 0) W one_G.1 (by omega) one_G.2 hM one_wf one_ok (by omega)).mono ?_
    rintro e w' ⟨v, L, rfl, hI, hW, hb⟩
    have e1 := one_told hW
    rw [e1] at hI ⊢
    have hI2 : IntsR w' v [0] := hI
    obtain ⟨va, vc, rfl⟩ := hI2.slice
    exact ⟨va, vc, rfl, hI2, hb⟩
  have HO : Hid (∀ W B, GrM W oneG (.slice (some ⟨B, 0, none⟩) 1 1) (.slice none 0 0) (.slice none 0 0) → Calls Tryd.prog 6 #[gv oneG (.slice (some ⟨B, 0, none⟩) 1 1) (.slice none 0 0) (.slice none 0 0)] W fun e w' => e = .returned (.bool true) ∧ Below W.heap.size W w') := fun W B hM => by
    have := pok_any oneG (.slice (some ⟨B, 0, none⟩) 1 1) (.slice none 0 0) (.slice none 0 0) W hM one_wf
    rw [one_ok] at this
    exact this
  have hC := one_any w
  go_enter Tryd.func4, Tryd.ntmps4
  go_wp2_with fail
  refine hC.mono ?_
  rintro e w1 ⟨B, rfl, hM, hb1⟩
  have hC2 := HS.out w1 B hM
  clear hC hM
  go_wp2_with fail
  refine hC2.mono ?_
  rintro e w2 ⟨va, vc, rfl, hI, hb2⟩
  have hbw2 := hb1.trans (hb2.mono hb1.size)
  obtain ⟨b, off, rfl, hbl, hc⟩ := hI.at (k := 0) (by simp)
  have hc2 : w2.cell? ⟨b, off, none⟩ = some (.int .i64 0) := hc
  clear hI hc hC2 hb2
  have hC3 := one_any w2
  go_wp2_with fail
  refine hC3.mono ?_
  rintro e w3 ⟨B2, rfl, hM3, hb3⟩
  have hbw3 := hbw2.trans (hb3.mono hbw2.size)
  have hC4 := HO.out w3 B2 hM3
  clear hC3 hM3 hc2
  go_wp2_with fail
  refine hC4.mono ?_
  rintro e w4 ⟨rfl, hb4⟩
  have hbw4 := hbw3.trans (hb4.mono hbw3.size)
  clear hC4
  go_wp2
  go_ret
  exact ⟨rfl, hbw4⟩

end Go.Proofs.YtmkimaceioacgaaDoor
