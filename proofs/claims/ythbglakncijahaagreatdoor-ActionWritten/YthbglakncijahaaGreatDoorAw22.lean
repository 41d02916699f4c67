/- Texts of the proof, put together: PCon, PJoin, AWrT. -/
import Derived.Test.YthbglakncijahaaGreatDoorAw01
import Derived.Test.YthbglakncijahaaGreatDoorAw17
import Derived.Test.YthbglakncijahaaGreatDoorAw20
import Derived.Test.YthbglakncijahaaGreatDoorAw21
import Derived.Lib.ItoaLen
import Derived.Test.YthbglakncijahaaGreatDoorAw14
import Derived.Lib.ItoaNum
namespace Go.Proofs.YthbglakncijahaaGreatDoor
open Go.RowKit
set_option linter.unusedVariables false
set_option maxRecDepth 100000

def baLw (l : List UInt8) : ByteArray := ⟨l.toArray⟩
/-- what the writer asks of the world: the tables of utf8 and strconv -/
structure LibW (w : World) : Prop where
  utf : Lib.Utf8Tabs (Tryz.laysValid_ren.g 3) (Tryz.laysValid_ren.g 4) w
  pow : Lib.TabIs Tryz.prog w "internal/strconv.uint64pow10" .u64 Lib.pow10Tab

theorem LibW.below {w w' : World} (h : LibW w) (hb : Below w.heap.size w w') : LibW w' := by
  refine ⟨Utf8Tabs_below h.utf hb, ?_⟩
  have hp := h.pow
  unfold Lib.TabIs World.var? at hp ⊢
  cases hg : Program.globalNamed Tryz.prog "internal/strconv.uint64pow10" with
  | none => rw [hg] at hp; cases hp
  | some g =>
    rw [hg] at hp
    simp only [Option.bind_some] at hp ⊢
    have hlt : g < w.heap.size := by
      rcases Nat.lt_or_ge g w.heap.size with h' | h'
      · exact h'
      · rw [Array.getElem?_eq_none h'] at hp
        cases hp
    rw [hb.block g hlt]
    exact hp
theorem LibW.valid {w : World} (h : LibW w) : VdC w := fun w1 hb text hs => by
  have := Any.utf8_ValidString Tryz.laysValid text w1 (by omega) (h.below hb).utf
  refine Calls.mono this ?_
  rintro e w' ⟨h1, h2⟩
  exact ⟨by rw [h1, whole_validD], h2⟩
theorem grow_below (w : World) (k : Nat) (os : Array Obj) : Below w.heap.size w (Go.Sort.grow (w.drewN k) os) :=
  ⟨rfl, rfl, rfl, by show w.heap.size ≤ (w.heap ++ os).size; simp, fun b hb => by show (w.heap ++ os)[b]? = _; rw [Array.getElem?_append_left hb]⟩
theorem LibW.format {w : World} (h : LibW w) {n : Int} (h0 : -9223372036854775808 ≤ n) (h1 : n ≤ 9223372036854775807) : Calls Tryz.prog 99 #[.int .i64 n, .int .i64 10] w fun e w' => e = .returned (.string (baLw (Lib.itoa n))) ∧ Below w.heap.size w w' := by
  have := Any.strconv_FormatInt_10 Tryz.laysM173 n h0 h1 w h.pow
  refine Calls.mono this ?_
  rintro e w' ⟨q1, k, os, rfl⟩
  exact ⟨q1, grow_below w k os⟩
theorem bgrow_any (B b n : Nat) (w : World) (hB : B ≤ b) (hbk : w.heap[b]? = some (.cells #[.pointer none, .slice none 0 0] 173 (0, 0))) (hBw : B ≤ w.heap.size) (hn : n ≤ 281474976710656) : Calls Tryz.prog 96 #[.pointer (some ⟨b, 0, none⟩), .int .i64 n] w fun e w' => e = .returned (.tuple #[]) ∧ Bld B b 173 [] [] w' ∧ Below B w w' := by
  have := Any.Builder_Grow_fresh Tryz.lays165 Tryz.Builder_Extra_165 B b n w hB hbk hBw hn
  refine Calls.mono this ?_
  rintro e w' ⟨q1, ⟨h1, v, h2, h3, h4⟩, q3⟩
  exact ⟨q1, ⟨h1, tk_builder, _, v, h2, .inr rfl, h3, h4⟩, q3⟩

end Go.Proofs.YthbglakncijahaaGreatDoor

namespace Go.Proofs.YthbglakncijahaaGreatDoor
open Go.RowKit
set_option linter.unusedVariables false
set_option maxRecDepth 100000

/-- texts in a row -/
def StrsM (w : World) (v : Value) (l : List ByteArray) : Prop := ∃ a c, v = .slice a l.length c ∧ (l = [] ∨ ∃ g off, a = some ⟨g, off, none⟩ ∧ g < w.heap.size ∧ ∀ j, j < l.length → w.cell? ⟨g, off + j, none⟩ = some (.string (l.getD j emptyT)))
def flatU (l : List ByteArray) : List UInt8 := (l.map fun x => x.data.toList).flatten
theorem flatU_take {l : List ByteArray} {i : Nat} (h : i < l.length) : flatU (l.take (i + 1)) = flatU (l.take i) ++ (l.getD i emptyT).data.toList := by
  unfold flatU
  rw [List.take_succ_eq_append_getElem h, List.map_append, List.flatten_append]
  simp [List.getD, h]
def sumU (l : List ByteArray) : Nat := (flatU l).length
theorem sumU_take {l : List ByteArray} {i : Nat} (h : i < l.length) : sumU (l.take (i + 1)) = sumU (l.take i) + (l.getD i emptyT).size := by
  unfold sumU
  rw [flatU_take h, List.length_append]
  congr 1
theorem sumU_le (l : List ByteArray) (i : Nat) : sumU (l.take i) ≤ sumU l := by
  unfold sumU
  have : flatU l = flatU (l.take i) ++ flatU (l.drop i) := by
    unfold flatU
    rw [← List.flatten_append, ← List.map_append, List.take_append_drop]
  rw [this, List.length_append]
  omega
theorem cells_add (a : List UInt8) (s : ByteArray) : Lib.byteCells a ++ Lib.strCells s = Lib.byteCells (a ++ s.data.toList) := by
  unfold Lib.byteCells Lib.strCells
  simp

set_option maxHeartbeats 8000000 in
theorem joined_any {w : World} {v : Value} {l : List ByteArray} (hv : StrsM w v l) (hs : sumU l ≤ 900000) (hl : l.length ≤ 900000) :
    Calls Tryz.prog 51 #[v] w fun e w' => e = .returned (.string (baLw (flatU l))) ∧ Below w.heap.size w w' := by
  obtain ⟨a, c, rfl, hm⟩ := hv
  have HM : Hid (∀ j, j < l.length → ∃ g off, a = some ⟨g, off, none⟩ ∧ g < w.heap.size ∧ w.cell? ⟨g, off + j, none⟩ = some (.string (l.getD j emptyT))) := fun j hj => by
    rcases hm with rfl | ⟨g, off, h1, h2, h3⟩
    · simp at hj
    · exact ⟨g, off, h1, h2, h3 j hj⟩
  have HSum : Hid (∀ i, sumU (l.take i) ≤ 900000) := fun i => Nat.le_trans (sumU_le l i) hs
  clear hm
  go_enter Tryz.func51, Tryz.ntmps51
  go_wp2
  go_loop [3, 5, 11] (fun sv _ iv => ∃ i : Nat, i ≤ l.length ∧ iv = .int .i64 i ∧ sv = .int .i64 (sumU (l.take i) : Nat)) (fun _ _ iv => l.length - (intOf iv).toNat)
  case atStart => exact ⟨0, by omega, rfl, rfl⟩
  case round =>
    obtain ⟨i, hi, rfl, rfl⟩ := hrel
    by_cases hlt : i < l.length
    · obtain ⟨g, off, rfl, hg, cg⟩ := HM.out i hlt
      have h1 := sumU_le l (i + 1)
      have h2 := sumU_take hlt
      have HE : Hid (sumU (l.take (i + 1)) = sumU (l.take i) + (l.getD i emptyT).size) := h2
      have hltI : (i : Int) < (l.length : Int) := by omega
      generalize l.getD i emptyT = p at *
      generalize sumU (l.take i) = sz at *
      have hb : sz + p.size ≤ 900000 := by omega
      clear h1 h2
      generalize hnl : l.length = nl at *
      go_wp2
      go_round
      case rel => exact ⟨i + 1, by omega, by go_num, by rw [HE.out]; go_num⟩
      case measure => simp [intOf]; omega
    · obtain rfl : i = l.length := by omega
      have hltI : ¬ (l.length : Int) < (l.length : Int) := by omega
      rw [List.take_of_length_le (Nat.le_refl _)]
      go_wp2_with fail
      have hal := alloc_below w (.cells #[.pointer none, .slice none 0 0] 173)
      have HG : Hid (Calls Tryz.prog 96 #[.pointer (some ⟨w.heap.size, 0, none⟩), .int .i64 ((sumU l : Nat) : Int)] (w.alloc (.cells #[.pointer none, .slice none 0 0] 173)) fun e w' => e = .returned (.tuple #[]) ∧ Bld w.heap.size w.heap.size 173 [] (Lib.byteCells []) w' ∧ Below w.heap.size w w') := by
        refine (bgrow_any w.heap.size w.heap.size (sumU l) _ (Nat.le_refl _) (allocAtA w _) (by rw [alloc_size]; omega) (by omega)).mono ?_
        rintro e w' ⟨q1, q2, q3⟩
        exact ⟨q1, q2, hal.trans q3⟩
      clear hal
      generalize sumU l = sz at *
      go_at_call 96
      refine HG.out.mono ?_
      rintro e w1 ⟨rfl, hB1, hb1⟩
      have HB1 : Hid (Bld w.heap.size w.heap.size 173 [] (Lib.byteCells (flatU (l.take 0))) w1) := hB1
      have Hb1 : Hid (Below w.heap.size w w1) := hb1
      clear HG hB1 hb1
      go_wp2
      go_loopw [8, 24] (fun _ iv wr => ∃ i : Nat, i ≤ l.length ∧ iv = .int .i64 i ∧ Hid (Bld w.heap.size w.heap.size 173 [] (Lib.byteCells (flatU (l.take i))) wr) ∧ Hid (Below w.heap.size w wr)) (fun _ iv _ => l.length - (intOf iv).toNat)
      case atStart => exact ⟨0, by omega, rfl, HB1, Hb1⟩
      case round =>
        obtain ⟨i, hi, rfl, HB, Hb⟩ := hrel
        have hbs := Hb.out.size
        by_cases hlt : i < l.length
        · obtain ⟨g, off, rfl, hg, cg⟩ := HM.out i hlt
          have cg2 := (Hb.out.cell (p := ⟨g, off + i, none⟩) hg).trans cg
          have hg2 : g < wr.heap.size := by omega
          have h1 := HSum.out (i + 1)
          have h2 := sumU_take hlt
          have hfl : (Lib.byteCells (flatU (l.take i))).length = sumU (l.take i) := by unfold Lib.byteCells sumU; simp
          have HW : Hid (Calls Tryz.prog 97 #[.pointer (some ⟨w.heap.size, 0, none⟩), .string (l.getD i emptyT)] wr fun e w' => (∃ n : Int, e = .returned (.tuple #[.int .i64 n, .nilIface])) ∧ Bld w.heap.size w.heap.size 173 [] (Lib.byteCells (flatU (l.take (i + 1)))) w' ∧ Below w.heap.size w w') := by
            refine (wstr_any (l.getD i emptyT) HB.out (by rw [hfl]; omega) hbs).mono ?_
            rintro e w' ⟨q1, q2, q3⟩
            rw [cells_add, ← flatU_take hlt] at q2
            exact ⟨q1, q2.bld, Hb.out.trans q3.1⟩
          have hltI : (i : Int) < (l.length : Int) := by omega
          clear h1 h2 hfl HB HSum
          generalize l.getD i emptyT = p at *
          generalize hnl : l.length = nl at *
          go_wp2_with fail
          go_at_call 97
          refine HW.out.mono ?_
          rintro e w2 ⟨⟨nn, rfl⟩, hB2, hb2⟩
          have HB2 : Hid (Bld w.heap.size w.heap.size 173 [] (Lib.byteCells (flatU (l.take (i + 1)))) w2) := hB2
          have Hb2 : Hid (Below w.heap.size w w2) := hb2
          clear hB2 hb2 HW
          go_wp2
          go_roundw
          case rel => exact ⟨i + 1, by omega, by go_num, HB2, Hb2⟩
          case measure => simp [intOf]; omega
        · obtain rfl : i = l.length := by omega
          have hltI : ¬ (l.length : Int) < (l.length : Int) := by omega
          have HS : Hid (Calls Tryz.prog 98 #[.pointer (some ⟨w.heap.size, 0, none⟩)] wr fun e w' => e = .returned (.string (baLw (flatU l))) ∧ Below w.heap.size w w') := by
            have hB := HB.out
            rw [List.take_of_length_le (Nat.le_refl _)] at hB
            refine (bstr_any (flatU l) hB hbs).mono ?_
            rintro e w' ⟨q1, q2⟩
            exact ⟨q1, Hb.out.trans q2⟩
          clear HB
          go_wp2_with fail
          go_at_call 98
          refine HS.out.mono ?_
          rintro e w2 ⟨rfl, hb2⟩
          go_wp2
          go_ret
          exact ⟨rfl, hb2⟩

end Go.Proofs.YthbglakncijahaaGreatDoor

namespace Go.Proofs.YthbglakncijahaaGreatDoor
open Go.RowKit
set_option linter.unusedVariables false
set_option maxRecDepth 100000

/-- these bytes stand there -/
def At (s : ByteArray) (i : Nat) (l : List UInt8) : Prop := ∀ k, (h : k < l.length) → i + k < s.size ∧ s.get! (i + k) = l[k]
theorem At.append {s : ByteArray} {i : Nat} {a b : List UInt8} : At s i (a ++ b) ↔ At s i a ∧ At s (i + a.length) b := by
  constructor
  · intro h
    refine ⟨fun k hk => ?_, fun k hk => ?_⟩
    · have := h k (by simp; omega)
      rwa [List.getElem_append_left hk] at this
    · have := h (a.length + k) (by simp; omega)
      rw [List.getElem_append_right (by omega)] at this
      simpa [Nat.add_assoc] using this
  · rintro ⟨h1, h2⟩ k hk
    by_cases hka : k < a.length
    · rw [List.getElem_append_left hka]
      exact h1 k hka
    · rw [List.getElem_append_right (by omega)]
      have := h2 (k - a.length) (by simp at hk; omega)
      rwa [show i + a.length + (k - a.length) = i + k by omega] at this
theorem At.cons {s : ByteArray} {i : Nat} {b : UInt8} {l : List UInt8} : At s i (b :: l) ↔ (i < s.size ∧ s.get! i = b) ∧ At s (i + 1) l := by
  rw [show b :: l = [b] ++ l from rfl, At.append]
  constructor
  · rintro ⟨h1, h2⟩
    exact ⟨by simpa using h1 0 (by simp), h2⟩
  · rintro ⟨h1, h2⟩
    refine ⟨fun k hk => ?_, h2⟩
    have : k = 0 := by simp at hk; omega
    subst this
    simpa using h1
theorem At.one {s : ByteArray} {i : Nat} {b : UInt8} : At s i [b] ↔ (i < s.size ∧ s.get! i = b) := by
  rw [At.cons]
  exact ⟨fun h => h.1, fun h => ⟨h, fun k hk => by simp at hk⟩⟩
theorem At.nil (s : ByteArray) (i : Nat) : At s i [] := fun k hk => by simp at hk
theorem At.le {s : ByteArray} {i : Nat} {l : List UInt8} (h : At s i l) (hi : i ≤ s.size) : i + l.length ≤ s.size := by
  rcases Nat.eq_zero_or_pos l.length with h0 | h0
  · omega
  · have := (h (l.length - 1) (by omega)).1; omega
theorem at_whole (l : List UInt8) : At ⟨l.toArray⟩ 0 l := fun k hk => by
  refine ⟨by show 0 + k < l.toArray.size; simpa using hk, ?_⟩
  rw [get_bangA]
  simp [hk]
theorem at_extract {s : ByteArray} {i : Nat} {x : ByteArray} (h : At s i x.data.toList) (hi : i ≤ s.size) : s.extract i (i + x.data.toList.length) = x := by
  have hle := h.le hi
  have hsz : s.data.size = s.size := rfl
  have e : (s.extract i (i + x.data.toList.length)).data.toList = x.data.toList := by
    apply List.ext_getElem
    · rw [Array.length_toList]
      show (s.extract i (i + x.data.toList.length)).size = _
      rw [ByteArray.size_extract]
      omega
    · intro n h1 h2
      have h3 := (h n h2).2
      have h4 := (h n h2).1
      have e2 : (s.extract i (i + x.data.toList.length)).data.toList[n]? = some (s.get! (i + n)) := by
        rw [ByteArray.data_extract, Array.getElem?_toList, Array.getElem?_extract, if_pos (by omega), get_bangA]
        rw [Array.getElem?_eq_getElem (by omega)]
        rfl
      rw [List.getElem?_eq_getElem h1] at e2
      rw [Option.some.inj e2, h3]
  have e3 : (s.extract i (i + x.data.toList.length)).data = x.data := Array.toList_inj.1 e
  cases hx : s.extract i (i + x.data.toList.length) with
  | mk d => rw [hx] at e3; cases x; simp only at e3; rw [e3]

/-- what follows is no letter, no digit -/
def NoW (s : ByteArray) (j : Nat) : Prop := j < s.size → wordB ((s.get! j).toNat : Int) = false
theorem run_at {P : Int → Bool} {s : ByteArray} : ∀ (l : List UInt8) (i : Nat), At s i l → (∀ b ∈ l, P (b.toNat : Int) = true) → (i + l.length < s.size → P ((s.get! (i + l.length)).toNat : Int) = false) → run P s i = i + l.length
  | [], i, _, _, h => by rw [run_stop]; · rfl
                         · simpa using h
  | b :: l, i, ha, hP, h => by
    obtain ⟨⟨h1, h2⟩, h3⟩ := At.cons.1 ha
    rw [run_step h1 (by rw [h2]; exact hP b (by simp))]
    rw [run_at l (i + 1) h3 (fun c hc => hP c (by simp [hc])) (fun hh => by
      have := h (by simp; omega)
      rwa [show i + (b :: l).length = i + 1 + l.length by simp; omega] at this)]
    simp
    omega
theorem cut_blank {s : ByteArray} {i : Nat} (h : At s i [32]) : cutE s i = cutE s (i + 1) := by
  obtain ⟨h1, h2⟩ := At.one.1 h
  unfold cutE
  rw [run_step h1 (by rw [h2]; rfl)]
theorem cut_here {s : ByteArray} {i : Nat} {b : UInt8} (h : At s i [b]) (hb : blankB (b.toNat : Int) = false) : cutE s i = cutAt s i := by
  obtain ⟨h1, h2⟩ := At.one.1 h
  unfold cutE
  rw [run_stop fun _ => by rw [h2]; exact hb]
theorem cut_end {s : ByteArray} : cutE s s.size = some ⟨0, emptyT, s.size, s.size, 0⟩ := by
  unfold cutE
  rw [run_stop fun h => by omega]
  unfold cutAt
  rw [if_neg (by omega)]
/-- a word -/
theorem cut_word {s : ByteArray} {i : Nat} {x : ByteArray} {b : UInt8} {l : List UInt8} (hx : x.data.toList = b :: l) (h : At s i x.data.toList) (hb : smallB (b.toNat : Int) = true) (hl : ∀ c ∈ x.data.toList, wordB (c.toNat : Int) = true) (hn : NoW s (i + x.data.toList.length)) (hi : i ≤ s.size) : cutE s i = some ⟨4, x, i, i + x.data.toList.length, 0⟩ := by
  have h' := h
  rw [hx] at h'
  obtain ⟨⟨h1, h2⟩, _⟩ := At.cons.1 h'
  have hr : 97 ≤ (b.toNat : Int) ∧ (b.toNat : Int) ≤ 122 := by simp [smallB] at hb; omega
  rw [cut_here (b := b) (At.one.2 ⟨h1, h2⟩) (by simp [blankB]; omega)]
  unfold cutAt
  rw [if_pos h1, h2, if_neg (by simp [digitB]; omega), if_neg (by omega), if_neg (by omega), if_pos hb]
  rw [run_at x.data.toList i h hl hn, at_extract h hi]
/-- a sign of one byte -/
theorem cut_sign {s : ByteArray} {i : Nat} {b : UInt8} (h : At s i [b]) (hb : sgnB b.toNat = true) (hn : ¬ (i + 1 < s.size ∧ ((b.toNat = 61 ∧ (s.get! (i + 1)).toNat = 61) ∨ (b.toNat = 43 ∧ (s.get! (i + 1)).toNat = 43)))) : cutE s i = some ⟨6, ⟨#[b]⟩, i, i + 1, 0⟩ := by
  obtain ⟨h1, h2⟩ := At.one.1 h
  have hc : ¬ digitB (b.toNat : Int) = true ∧ ¬ b.toNat = 36 ∧ ¬ b.toNat = 34 ∧ ¬ smallB (b.toNat : Int) = true ∧ blankB (b.toNat : Int) = false := by
    have : ∀ n : Nat, n < 256 → sgnB n = true → ¬ digitB (n : Int) = true ∧ ¬ n = 36 ∧ ¬ n = 34 ∧ ¬ smallB (n : Int) = true ∧ blankB (n : Int) = false := by decide +kernel
    exact this b.toNat b.toNat_lt hb
  rw [cut_here h hc.2.2.2.2]
  unfold cutAt
  have hs : sgnE s i = 1 := by
    unfold sgnE
    rw [h2, if_neg hn, if_pos hb]
  rw [if_pos h1, h2, if_neg hc.1, if_neg hc.2.1, if_neg hc.2.2.1, if_neg hc.2.2.2.1, hs, if_pos (by omega)]
  have := at_extract (s := s) (i := i) (x := ⟨#[b]⟩) h (by omega)
  rw [show i + 1 = i + (⟨#[b]⟩ : ByteArray).data.toList.length from rfl, this]
/-- a sign of two bytes -/
theorem cut_two {s : ByteArray} {i : Nat} {b : UInt8} (h : At s i [b, b]) (hb : b = 61 ∨ b = 43) : cutE s i = some ⟨6, ⟨#[b, b]⟩, i, i + 2, 0⟩ := by
  obtain ⟨⟨h1, h2⟩, h3⟩ := At.cons.1 h
  obtain ⟨h4, h5⟩ := At.one.1 h3
  have hc : ¬ digitB (b.toNat : Int) = true ∧ ¬ b.toNat = 36 ∧ ¬ b.toNat = 34 ∧ ¬ smallB (b.toNat : Int) = true ∧ blankB (b.toNat : Int) = false := by
    rcases hb with rfl | rfl <;> decide
  rw [cut_here (b := b) (At.one.2 ⟨h1, h2⟩) hc.2.2.2.2]
  unfold cutAt
  have hs : sgnE s i = 2 := by
    unfold sgnE
    rw [h2, h5, if_pos]
    refine ⟨h4, ?_⟩
    rcases hb with rfl | rfl
    · exact .inl ⟨rfl, rfl⟩
    · exact .inr ⟨rfl, rfl⟩
  rw [if_pos h1, h2, if_neg hc.1, if_neg hc.2.1, if_neg hc.2.2.1, if_neg hc.2.2.2.1, hs, if_pos (by omega)]
  have := at_extract (s := s) (i := i) (x := ⟨#[b, b]⟩) h (by omega)
  rw [show i + 2 = i + (⟨#[b, b]⟩ : ByteArray).data.toList.length from rfl, this]

end Go.Proofs.YthbglakncijahaaGreatDoor
