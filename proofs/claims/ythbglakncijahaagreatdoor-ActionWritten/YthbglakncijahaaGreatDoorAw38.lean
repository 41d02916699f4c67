/- Texts of the proof, put together: PWrB, PRow. -/
import Derived.Test.YthbglakncijahaaGreatDoorAw37
import Derived.Test.YthbglakncijahaaGreatDoorAw29
namespace Go.Proofs.YthbglakncijahaaGreatDoor
open Go.RowKit
set_option linter.unusedVariables false
set_option maxRecDepth 100000

theorem joined_new {w : World} (l : List ByteArray) (hs : sumU l ≤ 900000) (hl : l.length ≤ 900000) : Calls Tryz.prog 51 #[.slice (some ⟨w.heap.size, 0, none⟩) l.length l.length] (w.alloc (.cells (l.map Value.string).toArray 9)) fun e w' => e = .returned (.string (baLw (flatU l))) ∧ Below w.heap.size w w' := by
  have hal := alloc_below w (.cells (l.map Value.string).toArray 9)
  refine (joined_any (l := l) ⟨_, _, rfl, .inr ⟨w.heap.size, 0, rfl, by rw [alloc_size]; omega, fun j hj => ?_⟩⟩ hs hl).mono ?_
  · refine cellsAtA (allocAtA w _) _ _ ?_
    rw [Nat.zero_add]
    simp [List.getD, hj]
  · rintro e w' ⟨q1, q2⟩
    exact ⟨q1, hal.trans (q2.mono (by rw [alloc_size]; omega))⟩
/-- the written texts of kids -/
def KiC (w : World) (a : Option Addr) (ks : List Ex) : Prop := ∀ i, i < ks.length → ∀ w1, Below w.heap.size w w1 → ∃ g off u, a = some ⟨g, off, none⟩ ∧ g < w1.heap.size ∧ w1.cell? ⟨g, off + i, none⟩ = some u ∧ ∀ lv : Nat, lv ≤ 5 → Calls Tryz.prog 28 #[u, .int .i64 (lv : Int)] w1 fun e w' => e = .returned (.string (baLw (wrU (ks.getD i nilE) lv))) ∧ Below w1.heap.size w1 w'
/-- an expression's cells -/
structure ExM (w : World) (b : Nat) (kind num : Int) (text : ByteArray) (a : Option Addr) (n c : Nat) : Prop where
  lt : b < w.heap.size
  c0 : w.cell? ⟨b, 0, none⟩ = some (.int .i64 kind)
  c1 : w.cell? ⟨b, 1, none⟩ = some (.int .i64 num)
  c2 : w.cell? ⟨b, 2, none⟩ = some (.string text)
  c3 : w.cell? ⟨b, 3, none⟩ = some (.slice a n c)

set_option maxHeartbeats 4000000 in
theorem bare_num {w : World} {b n c : Nat} {num : Int} {text : ByteArray} {a : Option Addr} (L : LibW w) (h : ExM w b 1 num text a n c) (h0 : -9223372036854775808 ≤ num) (h1 : num ≤ 9223372036854775807) : Calls Tryz.prog 52 #[.pointer (some ⟨b, 0, none⟩)] w fun e w' => e = .returned (.string (baLw (Lib.itoa num))) ∧ Below w.heap.size w w' := by
  have HF : Hid (Calls Tryz.prog 99 #[.int .i64 num, .int .i64 10] w fun e w' => e = .returned (.string (baLw (Lib.itoa num))) ∧ Below w.heap.size w w') := L.format h0 h1
  obtain ⟨hlt, c0, c1, c2, c3⟩ := h
  go_enter Tryz.func52, Tryz.ntmps52
  go_wp2_with fail
  go_at_call 99
  refine HF.out.mono ?_
  rintro e w1 ⟨rfl, hb⟩
  go_wp2
  go_ret
  exact ⟨rfl, hb⟩
set_option maxHeartbeats 4000000 in
theorem bare_arg {w : World} {b n c : Nat} {num : Int} {text : ByteArray} {a : Option Addr} (L : LibW w) (h : ExM w b 3 num text a n c) (h0 : -9223372036854775808 ≤ num) (h1 : num ≤ 9223372036854775807) : Calls Tryz.prog 52 #[.pointer (some ⟨b, 0, none⟩)] w fun e w' => e = .returned (.string (baLw (36 :: Lib.itoa num))) ∧ Below w.heap.size w w' := by
  have HF : Hid (Calls Tryz.prog 99 #[.int .i64 num, .int .i64 10] w fun e w' => e = .returned (.string (baLw (Lib.itoa num))) ∧ Below w.heap.size w w') := L.format h0 h1
  have hlen := Lib.itoa_length_le num h0 h1
  have HJ : Hid (∀ w1, Below w.heap.size w w1 → Calls Tryz.prog 51 #[.slice (some ⟨w1.heap.size, 0, none⟩) 2 2] (w1.alloc (.cells #[.string ⟨#[36]⟩, .string (baLw (Lib.itoa num))] 9)) fun e w' => e = .returned (.string (baLw (36 :: Lib.itoa num))) ∧ Below w.heap.size w w') := fun w1 hb => by
    have hf : flatU [⟨#[36]⟩, baLw (Lib.itoa num)] = 36 :: Lib.itoa num := by simp [flatU, baLw]
    have := joined_new (w := w1) [⟨#[36]⟩, baLw (Lib.itoa num)] (by unfold sumU; rw [hf]; simp; omega) (by simp)
    rw [hf] at this
    refine Calls.mono this ?_
    rintro e w' ⟨q1, q2⟩
    exact ⟨q1, hb.trans (q2.mono hb.size)⟩
  obtain ⟨hlt, c0, c1, c2, c3⟩ := h
  generalize baLw (Lib.itoa num) = tx at *
  go_enter Tryz.func52, Tryz.ntmps52
  go_wp2_with fail
  go_at_call 99
  refine HF.out.mono ?_
  rintro e w1 ⟨rfl, hb⟩
  have HJ1 : Hid (Calls Tryz.prog 51 #[.slice (some ⟨w1.heap.size, 0, none⟩) 2 2] (w1.alloc (.cells #[.string ⟨#[36]⟩, .string tx] 9)) fun e w' => e = .returned (.string (baLw (36 :: Lib.itoa num))) ∧ Below w.heap.size w w') := HJ.out w1 hb
  clear HJ HF
  go_wp2_with fail
  go_at_call 51
  refine HJ1.out.mono ?_
  rintro e w2 ⟨rfl, hb2⟩
  go_wp2
  go_ret
  exact ⟨rfl, hb2⟩
set_option maxHeartbeats 4000000 in
theorem bare_text {w : World} {b n c : Nat} {num : Int} {text : ByteArray} {a : Option Addr} (h : ExM w b 2 num text a n c) (h0 : text.size ≤ 200) : Calls Tryz.prog 52 #[.pointer (some ⟨b, 0, none⟩)] w fun e w' => e = .returned (.string (baLw (34 :: (escU text.data.toList ++ [34])))) ∧ Below w.heap.size w w' := by
  have HF : Hid (Calls Tryz.prog 100 #[.string text] w fun e w' => e = .returned (.string (baLw (escU text.data.toList))) ∧ Below w.heap.size w w') := escaped_any (by omega)
  have hlen := esc_len text.data.toList
  have hsz : text.data.toList.length = text.size := by rw [Array.length_toList]; rfl
  have HJ : Hid (∀ w1, Below w.heap.size w w1 → Calls Tryz.prog 51 #[.slice (some ⟨w1.heap.size, 0, none⟩) 3 3] (w1.alloc (.cells #[.string ⟨#[34]⟩, .string (baLw (escU text.data.toList)), .string ⟨#[34]⟩] 9)) fun e w' => e = .returned (.string (baLw (34 :: (escU text.data.toList ++ [34])))) ∧ Below w.heap.size w w') := fun w1 hb => by
    have hf : flatU [⟨#[34]⟩, baLw (escU text.data.toList), ⟨#[34]⟩] = 34 :: (escU text.data.toList ++ [34]) := by simp [flatU, baLw]
    have := joined_new (w := w1) [⟨#[34]⟩, baLw (escU text.data.toList), ⟨#[34]⟩] (by unfold sumU; rw [hf]; simp; omega) (by simp)
    rw [hf] at this
    refine Calls.mono this ?_
    rintro e w' ⟨q1, q2⟩
    exact ⟨q1, hb.trans (q2.mono hb.size)⟩
  obtain ⟨hlt, c0, c1, c2, c3⟩ := h
  generalize 34 :: (escU text.data.toList ++ [34]) = res at *
  generalize baLw (escU text.data.toList) = tx at *
  clear hlen hsz
  go_enter Tryz.func52, Tryz.ntmps52
  go_wp2_with fail
  go_at_call 100
  refine HF.out.mono ?_
  rintro e w1 ⟨rfl, hb⟩
  have HJ1 : Hid (Calls Tryz.prog 51 #[.slice (some ⟨w1.heap.size, 0, none⟩) 3 3] (w1.alloc (.cells #[.string ⟨#[34]⟩, .string tx, .string ⟨#[34]⟩] 9)) fun e w' => e = .returned (.string (baLw res)) ∧ Below w.heap.size w w') := HJ.out w1 hb
  clear HJ HF
  go_wp2_with fail
  go_at_call 51
  refine HJ1.out.mono ?_
  rintro e w2 ⟨rfl, hb2⟩
  go_wp2
  go_ret
  exact ⟨rfl, hb2⟩
set_option maxHeartbeats 4000000 in
theorem bare_name {w : World} {b n c : Nat} {num : Int} {text : ByteArray} {a : Option Addr} (h : ExM w b 4 num text a n c) : Calls Tryz.prog 52 #[.pointer (some ⟨b, 0, none⟩)] w fun e w' => e = .returned (.string (baLw text.data.toList)) ∧ Below w.heap.size w w' := by
  obtain ⟨hlt, c0, c1, c2, c3⟩ := h
  have HE : Hid (baLw text.data.toList = text) := baL_self text
  go_enter Tryz.func52, Tryz.ntmps52
  go_wp2
  go_ret
  exact ⟨by rw [HE.out]; rfl, Below.refl _ _⟩
set_option maxHeartbeats 4000000 in
theorem bare_neg {w : World} {b c : Nat} {num : Int} {text : ByteArray} {a : Option Addr} {k : Ex} (h : ExM w b 8 num text a 1 c) (hK : KiC w a [k]) (hl : (wrU k 4).length ≤ 400000) : Calls Tryz.prog 52 #[.pointer (some ⟨b, 0, none⟩)] w fun e w' => e = .returned (.string (baLw (45 :: wrU k 4))) ∧ Below w.heap.size w w' := by
  obtain ⟨g, off, u, rfl, hg, cu, hC⟩ := hK 0 (by simp) w (Below.refl _ _)
  have HF : Hid (Calls Tryz.prog 28 #[u, .int .i64 4] w fun e w' => e = .returned (.string (baLw (wrU k 4))) ∧ Below w.heap.size w w') := hC 4 (by omega)
  have HJ : Hid (∀ w1, Below w.heap.size w w1 → Calls Tryz.prog 51 #[.slice (some ⟨w1.heap.size, 0, none⟩) 2 2] (w1.alloc (.cells #[.string ⟨#[45]⟩, .string (baLw (wrU k 4))] 9)) fun e w' => e = .returned (.string (baLw (45 :: wrU k 4))) ∧ Below w.heap.size w w') := fun w1 hb => by
    have hf : flatU [⟨#[45]⟩, baLw (wrU k 4)] = 45 :: wrU k 4 := by simp [flatU, baLw]
    have := joined_new (w := w1) [⟨#[45]⟩, baLw (wrU k 4)] (by unfold sumU; rw [hf]; simp; omega) (by simp)
    rw [hf] at this
    refine Calls.mono this ?_
    rintro e w' ⟨q1, q2⟩
    exact ⟨q1, hb.trans (q2.mono hb.size)⟩
  obtain ⟨hlt, c0, c1, c2, c3⟩ := h
  generalize 45 :: wrU k 4 = res at *
  generalize baLw (wrU k 4) = tx at *
  clear hC hK
  simp only [Nat.add_zero] at cu
  go_enter Tryz.func52, Tryz.ntmps52
  go_wp2_with fail
  go_at_call 28
  refine HF.out.mono ?_
  rintro e w1 ⟨rfl, hb⟩
  have HJ1 : Hid (Calls Tryz.prog 51 #[.slice (some ⟨w1.heap.size, 0, none⟩) 2 2] (w1.alloc (.cells #[.string ⟨#[45]⟩, .string tx] 9)) fun e w' => e = .returned (.string (baLw res)) ∧ Below w.heap.size w w') := HJ.out w1 hb
  clear HJ HF
  go_wp2_with fail
  go_at_call 51
  refine HJ1.out.mono ?_
  rintro e w2 ⟨rfl, hb2⟩
  go_wp2
  go_ret
  exact ⟨rfl, hb2⟩

end Go.Proofs.YthbglakncijahaaGreatDoor

namespace Go.Proofs.YthbglakncijahaaGreatDoor
open Go.RowKit
set_option linter.unusedVariables false
set_option maxRecDepth 100000

theorem Tryz.infoString : (Tryz.prog.info? 9).map (fun i => (i.zero, i.size, i.bytes)) = some (some (.string ⟨#[]⟩), 1, 16) := by kernel_rfl
/-- the texts of kids with commas between them -/
def prtU : List Ex → List ByteArray
  | [] => []
  | k :: ks => if ks = [] then [baLw (wrU k 0)] else baLw (wrU k 0) :: ⟨#[44, 32]⟩ :: prtU ks
def prtN (ks : List Ex) : List ByteArray := (ks.map fun k => [(⟨#[44, 32]⟩ : ByteArray), baLw (wrU k 0)]).flatten.drop 1
theorem prtN_one (k : Ex) : prtN [k] = [baLw (wrU k 0)] := rfl
theorem prtN_snoc {ks : List Ex} (h : ks ≠ []) (k : Ex) : prtN (ks ++ [k]) = prtN ks ++ [⟨#[44, 32]⟩] ++ [baLw (wrU k 0)] := by
  unfold prtN
  rw [List.map_append, List.flatten_append, List.drop_append_of_le_length]
  · simp
  · cases ks with
    | nil => exact absurd rfl h
    | cons a l => simp
theorem flat_prtN : ∀ ks : List Ex, flatU (prtN ks) = rowU (ks.map wrU)
  | [] => rfl
  | [a] => by simp [prtN, flatU, rowU, baLw]
  | a :: b :: l => by
    have ih := flat_prtN (b :: l)
    rw [rowU_map]
    have e : prtN (a :: b :: l) = baLw (wrU a 0) :: ⟨#[44, 32]⟩ :: prtN (b :: l) := by
      unfold prtN
      simp
    rw [e]
    have e2 : flatU (baLw (wrU a 0) :: ⟨#[44, 32]⟩ :: prtN (b :: l)) = wrU a 0 ++ ([44, 32] ++ flatU (prtN (b :: l))) := by simp [flatU, baLw]
    rw [e2, ih]
    simp
theorem prtN_len (ks : List Ex) : (prtN ks).length ≤ 2 * ks.length := by
  unfold prtN
  rw [List.length_drop]
  have : (ks.map fun k => [(⟨#[44, 32]⟩ : ByteArray), baLw (wrU k 0)]).flatten.length = 2 * ks.length := by
    induction ks with
    | nil => rfl
    | cons a l ih => simp at ih ⊢; omega
  omega
/-- the row of parts -/
structure PrI (w0 w : World) (pv : Value) (l : List ByteArray) : Prop where
  bel : Below w0.heap.size w0 w
  own : w.ownsRow w0.heap.size 9 1 pv l.length (l.map Value.string)
theorem PrI.slice {w0 w : World} {pv : Value} {l : List ByteArray} (h : PrI w0 w pv l) : ∃ a c, pv = .slice a l.length c := by
  rcases h.own.2 with ⟨rfl, h0⟩ | ⟨g, cap, cur, rfl, _⟩
  · exact ⟨none, 0, by rw [h0]⟩
  · exact ⟨_, _, rfl⟩
theorem PrI.kept {w0 w w' : World} {pv : Value} {l : List ByteArray} (h : PrI w0 w pv l) (hb : Below w.heap.size w w') : PrI w0 w' pv l :=
  ⟨h.bel.trans (hb.mono h.bel.size), h.own.kept (row := none) (grownA_below hb none) (by cases hq : pv.ownBlock <;> simp)⟩
theorem PrI.step {w0 w w9 : World} {a : Option Addr} {c g cap : Nat} {l : List ByteArray} {x : ByteArray} {o : Obj} (h : PrI w0 w (.slice a l.length c) l) (hown : w9.ownsRow w0.heap.size 9 1 (.slice (some ⟨g, 0, none⟩) (l.length + 1) cap) (l.length + 1) (l.map Value.string ++ [.string x])) (hg : (w.alloc o).grownBy w9 (Value.slice a l.length c).ownBlock) : PrI w0 w9 (.slice (some ⟨g, 0, none⟩) (l.length + 1) cap) (l ++ [x]) := by
  have hs := h.bel.size
  refine ⟨⟨hg.os.trans h.bel.os, hg.tape.trans h.bel.tape, hg.output.trans h.bel.output, by have := hg.size; rw [alloc_size] at this; omega, fun b hb => ?_⟩, ?_⟩
  · rw [hg.block b (by rw [alloc_size]; omega) (fun e => by have := (h.own.lt b e.symm).1; omega), (alloc_below w o).block b (by omega)]
    exact h.bel.block b hb
  · simpa using hown
theorem PrI.strs {w0 w : World} {pv : Value} {l : List ByteArray} (h : PrI w0 w pv l) : StrsM w pv l := by
  obtain ⟨a, c, rfl⟩ := h.slice
  refine ⟨a, c, rfl, ?_⟩
  rcases Nat.eq_zero_or_pos l.length with h0 | h0
  · exact .inl (List.eq_nil_of_length_eq_zero h0)
  · obtain ⟨g, cap, e, hg1, hg2⟩ := h.own.form h0
    simp only [Value.slice.injEq, true_and] at e
    obtain ⟨rfl, rfl⟩ := e
    refine .inr ⟨g, 0, rfl, hg2, fun j hj => ?_⟩
    have hc := h.own.cells (g := g) rfl j (.string (l.getD j emptyT)) (by simp [List.getD, hj])
    have hadd : (⟨g, 0, none⟩ : Addr).add j = ⟨g, 0 + j, none⟩ := by unfold Addr.add; split <;> simp_all
    rw [hadd] at hc
    exact hc

end Go.Proofs.YthbglakncijahaaGreatDoor
