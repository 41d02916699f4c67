/- Texts of the proof, put together: PEscT, PWrA. -/
import Derived.Test.YthbglakncijahaaGreatDoorAw22
import Derived.Test.YthbglakncijahaaGreatDoorAw36
namespace Go.Proofs.YthbglakncijahaaGreatDoor
open Go.RowKit
set_option linter.unusedVariables false
set_option maxRecDepth 100000

theorem esc_take {x : ByteArray} {k : Nat} (h : k < x.size) : escU (x.data.toList.take (k + 1)) = escU (x.data.toList.take k) ++ escB (x.get! k) := by
  have : x.data.toList.take (k + 1) = x.data.toList.take k ++ [x.get! k] := by
    rw [List.take_add, drop_get h]; rfl
  rw [this, escU_append]
  simp [escU]
theorem escB_len (b : UInt8) : (escB b).length ≤ 2 := by
  unfold escB
  split <;> (try split) <;> (try split) <;> simp
theorem esc_len (l : List UInt8) : (escU l).length ≤ 2 * l.length := by
  induction l with
  | nil => simp [escU]
  | cons b l ih =>
    rw [show b :: l = [b] ++ l from rfl, escU_append, List.length_append]
    have h1 : escU [b] = escB b := by simp [escU]
    have h2 := escB_len b
    rw [h1]
    simp
    omega
theorem cells_byte (a : List UInt8) (b : UInt8) : Lib.byteCells a ++ [.int .u8 (b.toNat : Int)] = Lib.byteCells (a ++ [b]) := by
  unfold Lib.byteCells
  simp

set_option maxHeartbeats 8000000 in
theorem escaped_any {w : World} {x : ByteArray} (hs : x.size ≤ 400000) :
    Calls Tryz.prog 100 #[.string x] w fun e w' => e = .returned (.string (baLw (escU x.data.toList))) ∧ Below w.heap.size w w' := by
  have hsz : x.data.toList.length = x.size := by rw [Array.length_toList]; rfl
  have HN : Hid (Bld w.heap.size w.heap.size 173 [] (Lib.byteCells (escU (x.data.toList.take 0))) (w.alloc (.cells #[.pointer none, .slice none 0 0] 173))) := bld_new (Nat.le_refl _) tk_builder (allocAtA w _)
  have Hb0 : Hid (Below w.heap.size w (w.alloc (.cells #[.pointer none, .slice none 0 0] 173))) := alloc_below w _
  have HLen : Hid (∀ k, (Lib.byteCells (escU (x.data.toList.take k))).length ≤ 800000) := fun k => by
    have h1 := esc_len (x.data.toList.take k)
    unfold Lib.byteCells
    simp at h1 ⊢
    omega
  go_enter Tryz.func100, Tryz.ntmps100
  go_wp2
  generalize w.alloc (.cells #[.pointer none, .slice none 0 0] 173) = w0 at *
  go_loopw [4, 7] (fun _ iv wr => ∃ i : Nat, i ≤ x.size ∧ iv = .int .i64 i ∧ Hid (Bld w.heap.size w.heap.size 173 [] (Lib.byteCells (escU (x.data.toList.take i))) wr) ∧ Hid (Below w.heap.size w wr)) (fun _ iv _ => x.size - (intOf iv).toNat)
  case atStart => exact ⟨0, by omega, rfl, HN, Hb0⟩
  case round =>
    obtain ⟨i, hi, rfl, HB, Hb⟩ := hrel
    have hbs := Hb.out.size
    by_cases hlt : i < x.size
    · have hb := get_atA x i hlt
      have hT := esc_take hlt
      have hltI : (i : Int) < (x.size : Int) := by omega
      have hL := HLen.out i
      cases h34 : (((x.get! i).toNat : Int) == 34)
      · cases h92 : (((x.get! i).toNat : Int) == 92)
        · cases h10 : (((x.get! i).toNat : Int) == 10)
          · have hE : escB (x.get! i) = [x.get! i] := by
              have e : ∀ {c : UInt8}, (((x.get! i).toNat : Int) == (c.toNat : Int)) = false → x.get! i ≠ c := fun hc he => by rw [he] at hc; simp at hc
              unfold escB
              rw [if_neg (e (c := 34) h34), if_neg (e (c := 92) h92), if_neg (e (c := 10) h10)]
            rw [hE] at hT
            have HW : Hid (Calls Tryz.prog 158 #[.pointer (some ⟨w.heap.size, 0, none⟩), .int .u8 ((x.get! i).toNat : Int)] wr fun e w' => e = .returned .nilIface ∧ Bld w.heap.size w.heap.size 173 [] (Lib.byteCells (escU (x.data.toList.take (i + 1)))) w' ∧ Below w.heap.size w w') := by
              refine (wbyte_any ((x.get! i).toNat : Int) HB.out (by omega) hbs).mono ?_
              rintro e w' ⟨q1, q2, q3⟩
              rw [cells_byte, ← hT] at q2
              exact ⟨q1, q2.bld, Hb.out.trans q3.1⟩
            clear hT hE HB hL HLen
            go_wp2_with fail
            go_at_call 158
            refine HW.out.mono ?_
            rintro e w2 ⟨rfl, hB2, hb2⟩
            have HB2 : Hid (Bld w.heap.size w.heap.size 173 [] (Lib.byteCells (escU (x.data.toList.take (i + 1)))) w2) := hB2
            have Hb2 : Hid (Below w.heap.size w w2) := hb2
            clear hB2 hb2 HW
            go_wp2
            go_roundw
            case rel => exact ⟨i + 1, by omega, by go_num, HB2, Hb2⟩
            case measure => simp [intOf]; omega
          · have hx : x.get! i = 10 := by rw [beq_iff_eq] at h10; exact UInt8.toNat_inj.1 (by show _ = 10; omega)
            have hE : escB (x.get! i) = [92, 110] := by rw [hx]; rfl
            rw [hE] at hT
            have HW : Hid (Calls Tryz.prog 97 #[.pointer (some ⟨w.heap.size, 0, none⟩), .string ⟨#[92, 110]⟩] wr fun e w' => (∃ n : Int, e = .returned (.tuple #[.int .i64 n, .nilIface])) ∧ Bld w.heap.size w.heap.size 173 [] (Lib.byteCells (escU (x.data.toList.take (i + 1)))) w' ∧ Below w.heap.size w w') := by
              refine (wstr_any ⟨#[92, 110]⟩ HB.out (by show _ + 2 ≤ _; omega) hbs).mono ?_
              rintro e w' ⟨q1, q2, q3⟩
              rw [cells_add, show (⟨#[92, 110]⟩ : ByteArray).data.toList = [92, 110] from rfl, ← hT] at q2
              exact ⟨q1, q2.bld, Hb.out.trans q3.1⟩
            clear hT hE HB hL HLen hx
            go_wp2_with fail
            go_at_call 97
            refine HW.out.mono ?_
            rintro e w2 ⟨⟨nn, rfl⟩, hB2, hb2⟩
            have HB2 : Hid (Bld w.heap.size w.heap.size 173 [] (Lib.byteCells (escU (x.data.toList.take (i + 1)))) w2) := hB2
            have Hb2 : Hid (Below w.heap.size w w2) := hb2
            clear hB2 hb2 HW
            go_wp2
            go_roundw
            case rel => exact ⟨i + 1, by omega, by go_num, HB2, Hb2⟩
            case measure => simp [intOf]; omega
        · have hx : x.get! i = 92 := by rw [beq_iff_eq] at h92; exact UInt8.toNat_inj.1 (by show _ = 92; omega)
          have hE : escB (x.get! i) = [92] ++ [x.get! i] := by rw [hx]; rfl
          rw [hE, ← List.append_assoc] at hT
          have HW : Hid (Calls Tryz.prog 158 #[.pointer (some ⟨w.heap.size, 0, none⟩), .int .u8 92] wr fun e w' => e = .returned .nilIface ∧ Below w.heap.size w w' ∧ Calls Tryz.prog 158 #[.pointer (some ⟨w.heap.size, 0, none⟩), .int .u8 ((x.get! i).toNat : Int)] w' fun e w2 => e = .returned .nilIface ∧ Bld w.heap.size w.heap.size 173 [] (Lib.byteCells (escU (x.data.toList.take (i + 1)))) w2 ∧ Below w.heap.size w w2) := by
            refine (wbyte_any 92 HB.out (by omega) hbs).mono ?_
            rintro e w' ⟨q1, q2, q3⟩
            rw [show (92 : Int) = ((92 : UInt8).toNat : Int) from rfl, cells_byte] at q2
            have hb2 := Hb.out.trans q3.1
            refine ⟨q1, hb2, (wbyte_any ((x.get! i).toNat : Int) q2.bld (by unfold Lib.byteCells at hL ⊢; simp at hL ⊢; omega) hb2.size).mono ?_⟩
            rintro e w2 ⟨r1, r2, r3⟩
            rw [cells_byte, ← hT] at r2
            exact ⟨r1, r2.bld, hb2.trans r3.1⟩
          clear hT hE HB hL HLen hx
          go_wp2_with fail
          go_at_call 158
          refine HW.out.mono ?_
          rintro e w1 ⟨rfl, hb1, hC1⟩
          have HC1 : Hid (Calls Tryz.prog 158 #[.pointer (some ⟨w.heap.size, 0, none⟩), .int .u8 ((x.get! i).toNat : Int)] w1 fun e w2 => e = .returned .nilIface ∧ Bld w.heap.size w.heap.size 173 [] (Lib.byteCells (escU (x.data.toList.take (i + 1)))) w2 ∧ Below w.heap.size w w2) := hC1
          clear hC1 HW
          go_wp2_with fail
          go_at_call 158
          refine HC1.out.mono ?_
          rintro e w2 ⟨rfl, hB2, hb2⟩
          have HB2 : Hid (Bld w.heap.size w.heap.size 173 [] (Lib.byteCells (escU (x.data.toList.take (i + 1)))) w2) := hB2
          have Hb2 : Hid (Below w.heap.size w w2) := hb2
          clear hB2 hb2 HC1
          go_wp2
          go_roundw
          case rel => exact ⟨i + 1, by omega, by go_num, HB2, Hb2⟩
          case measure => simp [intOf]; omega
      · have hx : x.get! i = 34 := by rw [beq_iff_eq] at h34; exact UInt8.toNat_inj.1 (by show _ = 34; omega)
        have hE : escB (x.get! i) = [92] ++ [x.get! i] := by rw [hx]; rfl
        rw [hE, ← List.append_assoc] at hT
        have HW : Hid (Calls Tryz.prog 158 #[.pointer (some ⟨w.heap.size, 0, none⟩), .int .u8 92] wr fun e w' => e = .returned .nilIface ∧ Below w.heap.size w w' ∧ Calls Tryz.prog 158 #[.pointer (some ⟨w.heap.size, 0, none⟩), .int .u8 ((x.get! i).toNat : Int)] w' fun e w2 => e = .returned .nilIface ∧ Bld w.heap.size w.heap.size 173 [] (Lib.byteCells (escU (x.data.toList.take (i + 1)))) w2 ∧ Below w.heap.size w w2) := by
          refine (wbyte_any 92 HB.out (by omega) hbs).mono ?_
          rintro e w' ⟨q1, q2, q3⟩
          rw [show (92 : Int) = ((92 : UInt8).toNat : Int) from rfl, cells_byte] at q2
          have hb2 := Hb.out.trans q3.1
          refine ⟨q1, hb2, (wbyte_any ((x.get! i).toNat : Int) q2.bld (by unfold Lib.byteCells at hL ⊢; simp at hL ⊢; omega) hb2.size).mono ?_⟩
          rintro e w2 ⟨r1, r2, r3⟩
          rw [cells_byte, ← hT] at r2
          exact ⟨r1, r2.bld, hb2.trans r3.1⟩
        clear hT hE HB hL HLen hx
        go_wp2_with fail
        go_at_call 158
        refine HW.out.mono ?_
        rintro e w1 ⟨rfl, hb1, hC1⟩
        have HC1 : Hid (Calls Tryz.prog 158 #[.pointer (some ⟨w.heap.size, 0, none⟩), .int .u8 ((x.get! i).toNat : Int)] w1 fun e w2 => e = .returned .nilIface ∧ Bld w.heap.size w.heap.size 173 [] (Lib.byteCells (escU (x.data.toList.take (i + 1)))) w2 ∧ Below w.heap.size w w2) := hC1
        clear hC1 HW
        go_wp2_with fail
        go_at_call 158
        refine HC1.out.mono ?_
        rintro e w2 ⟨rfl, hB2, hb2⟩
        have HB2 : Hid (Bld w.heap.size w.heap.size 173 [] (Lib.byteCells (escU (x.data.toList.take (i + 1)))) w2) := hB2
        have Hb2 : Hid (Below w.heap.size w w2) := hb2
        clear hB2 hb2 HC1
        go_wp2
        go_roundw
        case rel => exact ⟨i + 1, by omega, by go_num, HB2, Hb2⟩
        case measure => simp [intOf]; omega
    · obtain rfl : i = x.size := by omega
      have hltI : ¬ (x.size : Int) < (x.size : Int) := by omega
      have HS : Hid (Calls Tryz.prog 98 #[.pointer (some ⟨w.heap.size, 0, none⟩)] wr fun e w' => e = .returned (.string (baLw (escU x.data.toList))) ∧ Below w.heap.size w w') := by
        have hB := HB.out
        rw [List.take_of_length_le (by omega)] at hB
        refine (bstr_any _ hB hbs).mono ?_
        rintro e w' ⟨q1, q2⟩
        exact ⟨q1, Hb.out.trans q2⟩
      clear HB HLen
      go_wp2_with fail
      go_at_call 98
      refine HS.out.mono ?_
      rintro e w2 ⟨rfl, hb2⟩
      go_wp2
      go_ret
      exact ⟨rfl, hb2⟩

end Go.Proofs.YthbglakncijahaaGreatDoor

namespace Go.Proofs.YthbglakncijahaaGreatDoor
open Go.RowKit
set_option linter.unusedVariables false
set_option maxRecDepth 100000

theorem nth_len {ks : List Ex} (h : ∀ k ∈ ks, ∀ lv, (wrU k lv).length ≤ 500 * wtE k) (i lv : Nat) : (nthU (ks.map wrU) i lv).length ≤ 500 * (if i < ks.length then wtE (ks.getD i nilE) else 0) := by
  unfold nthU
  by_cases hi : i < ks.length
  · rw [if_pos hi]
    have e : (ks.map wrU).getD i (fun _ => []) = wrU (ks.getD i nilE) := by simp [List.getD, hi]
    rw [e]
    exact h _ (getD_mem hi) lv
  · rw [if_neg hi]
    have e : (ks.map wrU).getD i (fun _ => []) = fun _ => [] := by simp [List.getD, hi]
    rw [e]
    simp
theorem row_len : ∀ (ks : List Ex), (∀ k ∈ ks, ∀ lv, (wrU k lv).length ≤ 500 * wtE k - 4) → (rowU (ks.map wrU)).length ≤ 500 * wtL ks
  | [], _ => by simp [rowU]
  | [a], h => by
    have := h a (by simp) 0
    have e : wtL [a] = wtE a := wtL_one a
    rw [e]
    show (wrU a 0).length ≤ _
    omega
  | a :: b :: l, h => by
    have h1 := h a (by simp) 0
    have h2 := row_len (b :: l) (fun k hk => h k (List.mem_cons_of_mem _ hk))
    have e : wtL (a :: b :: l) = wtE a + wtL (b :: l) := by rw [show a :: b :: l = [a] ++ (b :: l) from rfl, wtL_append, wtL_one]
    have hp := wtE_pos a
    rw [rowU_map, e]
    simp only [List.length_append, List.length_singleton]
    omega
theorem name_len {x : ByteArray} (h : isNameB x = true) : x.data.toList.length ≤ 40 := by
  unfold isNameB at h
  simp only [Bool.and_eq_true, decide_eq_true_eq] at h
  rw [Array.length_toList]
  exact h.2.1
theorem op_len {x : ByteArray} (h : 0 ≤ lvlL x.toList) : x.data.toList.length ≤ 2 := by
  rw [Lib.toList_data] at h
  rcases op_list h with h | h | h | h | h | h | h | h <;> (rw [h]; simp)
theorem fun_len {x : ByteArray} (h : 0 < kidsL x.toList) : x.data.toList.length ≤ 4 := by
  rw [Lib.toList_data] at h
  unfold kidsL at h
  generalize x.data.toList = l at *
  cases h1 : l == [108, 101, 110]
  · cases h2 : l == [116, 101, 120, 116]
    · cases h3 : l == [116, 97, 103]
      · cases h4 : l == [107, 105, 100, 115]
        · cases h5 : l == [105, 110, 116]
          · cases h6 : l == [110, 111, 100, 101]
            · cases h7 : l == [97, 116]
              · simp [h1, h2, h3, h4, h5, h6, h7] at h
              · simp only [beq_iff_eq] at h7; simp [h7]
            · simp only [beq_iff_eq] at h6; simp [h6]
          · simp only [beq_iff_eq] at h5; simp [h5]
        · simp only [beq_iff_eq] at h4; simp [h4]
      · simp only [beq_iff_eq] at h3; simp [h3]
    · simp only [beq_iff_eq] at h2; simp [h2]
  · simp only [beq_iff_eq] at h1; simp [h1]
/-- 500 bytes for each expression are enough -/
theorem bar_len {t : Ex} (hw : wellE t = true) (hN : NmA t) (ih : ∀ k ∈ t.kids, ∀ lv, (wrU k lv).length ≤ 500 * wtE k - 4) : (barE t).length + 6 ≤ 500 * wtE t := by
  have hwt := wtE_eq t
  obtain ⟨his, hsh⟩ := wellE_is hw
  have hnum := hN.num
  have ih2 : ∀ k ∈ t.kids, ∀ lv, (wrU k lv).length ≤ 500 * wtE k := fun k hk lv => by have := ih k hk lv; omega
  have hrow := row_len t.kids ih
  have hn := fun i lv => nth_len ih2 i lv
  obtain ⟨i, kind, num, text, kids⟩ := t
  simp only at his hsh ih hnum hwt hrow hn
  have hit : ∀ z : Int, -9223372036854775808 ≤ z → z ≤ 9223372036854775807 → (Lib.itoa z).length ≤ 21 := fun z h0 h1 => Lib.itoa_length_le z h0 h1
  have h21 := hit num hnum.1 hnum.2
  unfold barE
  simp only
  unfold shapeB at hsh
  unfold bareU
  by_cases k1 : kind = 1
  · rw [if_pos k1]; omega
  rw [if_neg k1] at hsh ⊢
  by_cases k3 : kind = 3
  · subst k3; rw [if_neg (by omega), if_pos rfl]; simp; omega
  rw [if_neg k3] at hsh
  by_cases hz : (num != 0) = true
  · rw [if_pos hz] at hsh; cases hsh
  rw [if_neg hz] at hsh
  by_cases k2 : kind = 2
  · rw [if_pos k2] at hsh ⊢
    simp only [Bool.and_eq_true, decide_eq_true_eq, beq_iff_eq] at hsh
    have h1 := esc_len text.data.toList
    have h2 : text.data.toList.length = text.size := by rw [Array.length_toList]; rfl
    simp only [List.length_cons, List.length_append, List.length_nil]
    omega
  rw [if_neg k2] at hsh ⊢
  rw [if_neg k3]
  by_cases k4 : kind = 4
  · subst k4
    rw [if_pos rfl] at hsh
    simp only [Bool.and_eq_true] at hsh
    have := name_len hsh.1
    rw [if_neg (by omega), if_neg (by omega), if_neg (by omega), if_neg (by omega), if_neg (by omega), if_neg (by omega)]
    omega
  rw [if_neg k4] at hsh
  by_cases k5 : kind = 5
  · rw [if_pos k5] at hsh ⊢
    simp only [Bool.and_eq_true, beq_iff_eq] at hsh
    obtain ⟨a, b, rfl⟩ := two_kids (show kids.length = 2 by omega)
    have h1 := name_len hsh.1
    have q0 := hn 0 0
    have q1 := hn 1 0
    have e : wtL [a, b] = wtE a + wtE b := by rw [show [a, b] = [a] ++ [b] from rfl, wtL_append, wtL_one, wtL_one]
    simp only [List.length_append, List.length_cons, List.length_nil, Nat.zero_add, Nat.reduceAdd, Nat.reduceLT, if_true, List.getD_cons_zero, List.getD_cons_succ] at q0 q1 ⊢
    omega
  rw [if_neg k5] at hsh ⊢
  by_cases k7 : kind = 7
  · subst k7
    rw [if_pos rfl] at hsh
    rw [if_neg (by omega), if_pos rfl]
    simp only [Bool.and_eq_true, decide_eq_true_eq, beq_iff_eq] at hsh
    obtain ⟨a, b, rfl⟩ := two_kids (show kids.length = 2 by omega)
    have h1 := op_len hsh.1
    have q0 := hn 0 (if tightU 7 text = 1 then 2 else tightU 7 text)
    have q1 := hn 1 (tightU 7 text + 1)
    have e : wtL [a, b] = wtE a + wtE b := by rw [show [a, b] = [a] ++ [b] from rfl, wtL_append, wtL_one, wtL_one]
    simp only [List.length_append, List.length_cons, List.length_nil, Nat.zero_add, Nat.reduceAdd, Nat.reduceLT, if_true, List.getD_cons_zero, List.getD_cons_succ] at q0 q1 ⊢
    omega
  rw [if_neg k7] at hsh
  by_cases k10 : kind = 10
  · subst k10
    rw [if_pos rfl] at hsh
    rw [if_neg (by omega), if_neg (by omega), if_neg (by omega), if_neg (by omega), if_pos rfl]
    simp only [Bool.and_eq_true, decide_eq_true_eq, beq_iff_eq] at hsh
    have h1 := fun_len hsh.1
    simp only [List.length_append, List.length_cons, List.length_nil]
    omega
  rw [if_neg k10] at hsh
  by_cases he : (text.toList == []) = false
  · rw [if_pos he] at hsh; cases hsh
  rw [if_neg he] at hsh
  by_cases k6 : kind = 6
  · rw [if_pos k6] at hsh ⊢
    rw [beq_iff_eq] at hsh
    obtain ⟨a, b, c, rfl⟩ := three_kids (show kids.length = 3 by omega)
    have q0 := hn 0 0
    have q1 := hn 1 0
    have q2 := hn 2 0
    have e : wtL [a, b, c] = wtE a + wtE b + wtE c := by rw [show [a, b, c] = [a] ++ ([b] ++ [c]) from rfl, wtL_append, wtL_append, wtL_one, wtL_one, wtL_one]; omega
    simp only [List.length_append, List.length_cons, List.length_nil, Nat.zero_add, Nat.reduceAdd, Nat.reduceLT, if_true, List.getD_cons_zero, List.getD_cons_succ] at q0 q1 q2 ⊢
    omega
  rw [if_neg k6] at hsh ⊢
  rw [if_neg k7]
  by_cases k8 : kind = 8
  · rw [if_pos k8] at hsh ⊢
    rw [beq_iff_eq] at hsh
    obtain ⟨a, rfl⟩ := one_kid (show kids.length = 1 by omega)
    have q0 := hn 0 4
    have e : wtL [a] = wtE a := wtL_one a
    simp only [List.length_cons, List.length_nil, Nat.zero_add, Nat.reduceLT, if_true, List.getD_cons_zero] at q0 ⊢
    omega
  rw [if_neg k8] at hsh ⊢
  rw [beq_iff_eq] at hsh
  rw [if_pos hsh]
  simp only [List.length_append, List.length_cons, List.length_nil]
  omega
theorem wr_len : ∀ t : Ex, wellE t = true → NmA t → ∀ lv, (wrU t lv).length ≤ 500 * wtE t - 4 := by
  intro t
  induction t using Ex.ind with
  | _ t ih =>
    intro hw hN lv
    have := bar_len hw hN fun k hk lv => ih k hk (wellE_kid hw hk) (hN.kid hk) lv
    rw [wrU_eq]
    split
    · simp; omega
    · omega

set_option maxHeartbeats 4000000 in
theorem atight_any {w : World} {b : Nat} {kind : Int} {text : ByteArray} (c0 : w.cell? ⟨b, 0, none⟩ = some (.int .i64 kind)) (c2 : w.cell? ⟨b, 2, none⟩ = some (.string text)) (h7 : kind = 7 → 0 ≤ lvlL text.toList) :
    Calls Tryz.prog 50 #[.pointer (some ⟨b, 0, none⟩)] w fun e w' => e = .returned (.int .i64 (tightU kind text : Nat)) ∧ w' = w := by
  have H3 : Hid (∀ w, Calls Tryz.prog 94 #[.string text] w fun e w' => e = .returned (.int .i64 (lvlP text.toList)) ∧ w' = w) := fun w => level_any text w
  by_cases k5 : kind = 5
  · subst k5
    go_enter Tryz.func50, Tryz.ntmps50
    go_wp2
    go_ret
    exact ⟨rfl, rfl⟩
  by_cases k6 : kind = 6
  · subst k6
    go_enter Tryz.func50, Tryz.ntmps50
    go_wp2
    go_ret
    exact ⟨rfl, rfl⟩
  by_cases k7 : kind = 7
  · subst k7
    have HV : Hid (((tightU 7 text : Nat) : Int) = lvlP text.toList) := by
      show _ = _
      have h1 := h7 rfl
      rw [lvl_both, if_neg (by omega)]
      unfold tightU
      rw [if_neg (by omega), if_pos rfl]
      omega
    go_enter Tryz.func50, Tryz.ntmps50
    go_wp2_with (go_at_call 94; refine (H3.out _).mono ?_; rintro e w' ⟨rfl, hw⟩; obtain rfl := hw.symm; clear hw)
    go_ret
    exact ⟨by rw [HV.out]; rfl, rfl⟩
  by_cases k8 : kind = 8
  · subst k8
    go_enter Tryz.func50, Tryz.ntmps50
    go_wp2
    go_ret
    exact ⟨rfl, rfl⟩
  have e5 : (kind == 5) = false := by rw [beq_eq_false_iff_ne]; exact k5
  have e6 : (kind == 6) = false := by rw [beq_eq_false_iff_ne]; exact k6
  have e7 : (kind == 7) = false := by rw [beq_eq_false_iff_ne]; exact k7
  have e8 : (kind == 8) = false := by rw [beq_eq_false_iff_ne]; exact k8
  have HV : Hid (tightU kind text = 5) := by show _ = _; unfold tightU; rw [if_neg (by omega), if_neg k7, if_neg k8]
  go_enter Tryz.func50, Tryz.ntmps50
  go_wp2
  go_ret
  exact ⟨by rw [HV.out]; rfl, rfl⟩

end Go.Proofs.YthbglakncijahaaGreatDoor
