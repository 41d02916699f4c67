/- Texts of the proof, put together: QTok, QNmb, QNmc, QSgn. -/
import Derived.Test.YtgmmfpdekefamaaGreatDoorAt33
import Derived.Test.YtgmmfpdekefamaaGreatDoorAt04
import Derived.Shelf.Abstract
import Derived.Shelf.Strings.Prefix
namespace Go.Proofs.YtgmmfpdekefamaaGreatDoor
open Go.RowKit
set_option linter.unusedVariables false
set_option maxRecDepth 100000

/-- a token of the program: its kind, where it stands, what it says, its number -/
structure PTk where
 kind : Int
 fr : Nat
 text : ByteArray
 num : Int
def zeroP : PTk := ⟨0, 0, ⟨#[]⟩, 0⟩
def pkV (t : PTk) : Value := .agg #[.int .i64 t.kind, .int .i64 (t.fr : Int), .string t.text, .int .i64 t.num]
def PkAt (w : World) (B : Nat) (t : PTk) : Prop := w.heap[B]? = some (.cells #[.int .i64 t.kind, .int .i64 (t.fr : Int), .string t.text, .int .i64 t.num] 125 (0, 0))
theorem PkAt.lt {w : World} {B : Nat} {t : PTk} (h : PkAt w B t) : B < w.heap.size := (Array.getElem?_eq_some_iff.1 h).1
theorem PkAt.cells {w : World} {B : Nat} {t : PTk} (h : PkAt w B t) : w.cell? ⟨B, 0, none⟩ = some (.int .i64 t.kind) ∧ w.cell? ⟨B, 1, none⟩ = some (.int .i64 (t.fr : Int)) ∧ w.cell? ⟨B, 2, none⟩ = some (.string t.text) ∧ w.cell? ⟨B, 3, none⟩ = some (.int .i64 t.num) :=
 ⟨cellsAtA h 0 _ rfl, cellsAtA h 1 _ rfl, cellsAtA h 2 _ rfl, cellsAtA h 3 _ rfl⟩
theorem PkAt.fz {w : World} {B : Nat} {t : PTk} (h : PkAt w B t) (j : Nat) : w.frozen? ⟨B, j, none⟩ = false := by unfold PkAt at h; simp [World.frozen?, h]
theorem PkAt.set0 {w : World} {B : Nat} {t : PTk} (h : PkAt w B t) (k : Int) : PkAt (w.setCell ⟨B, 0, none⟩ (.int .i64 k)) B { t with kind := k } := heap_setCell_same w B 0 _ 125 _ h
theorem PkAt.set1 {w : World} {B : Nat} {t : PTk} (h : PkAt w B t) (k : Nat) : PkAt (w.setCell ⟨B, 1, none⟩ (.int .i64 (k : Int))) B { t with fr := k } := heap_setCell_same w B 1 _ 125 _ h
theorem PkAt.set2 {w : World} {B : Nat} {t : PTk} (h : PkAt w B t) (x : ByteArray) : PkAt (w.setCell ⟨B, 2, none⟩ (.string x)) B { t with text := x } := heap_setCell_same w B 2 _ 125 _ h
theorem PkAt.set3 {w : World} {B : Nat} {t : PTk} (h : PkAt w B t) (k : Int) : PkAt (w.setCell ⟨B, 3, none⟩ (.int .i64 k)) B { t with num := k } := heap_setCell_same w B 3 _ 125 _ h
def putK (w : World) (B : Nat) (t : PTk) : World := (((w.setCell ⟨B, 0, none⟩ (.int .i64 t.kind)).setCell ⟨B, 1, none⟩ (.int .i64 (t.fr : Int))).setCell ⟨B, 2, none⟩ (.string t.text)).setCell ⟨B, 3, none⟩ (.int .i64 t.num)
theorem PkAt.put {w : World} {B : Nat} {t : PTk} (h : PkAt w B t) (u : PTk) : PkAt (putK w B u) B u := (((h.set0 u.kind).set1 u.fr).set2 u.text).set3 u.num

/-- a function that cuts: its result's box, the cutter -/
structure CX (w0 w : World) (C : Nat) (s : ByteArray) (i : Nat) (u : PTk) : Prop where
 gr : w0.grownBy w (some C)
 ct : CtA w C s i
 box : PkAt w w0.heap.size u
 ne : C < w0.heap.size
theorem CX.new {w : World} {C : Nat} {s : ByteArray} {i : Nat} (h : CtA w C s i) : CX w (w.alloc (.cells #[.int .i64 0, .int .i64 0, .string ⟨#[]⟩, .int .i64 0] 125)) C s i zeroP :=
 ⟨grownA_below (alloc_below w _) _, ((alloc_below w _).block C h.lt).trans h, allocAtA w _, h.lt⟩
theorem CX.run {w0 w w' : World} {C : Nat} {s : ByteArray} {i j : Nat} {u : PTk} (h : CX w0 w C s i u) (hg : w.grownBy w' (some C)) (hc : CtA w' C s j) : CX w0 w' C s j u :=
 ⟨gT h.gr hg, hc, (hg.block _ h.box.lt (fun e => by have := h.ne; cases e; omega)).trans h.box, h.ne⟩
theorem CX.kept {w0 w w' : World} {C : Nat} {s : ByteArray} {i : Nat} {u : PTk} (h : CX w0 w C s i u) (hb : Below w.heap.size w w') : CX w0 w' C s i u :=
 h.run (grownA_below hb _) ((hb.block C h.ct.lt).trans h.ct)
theorem CX.drewN {w0 w : World} {C : Nat} {s : ByteArray} {i : Nat} {u : PTk} (h : CX w0 w C s i u) (n : Nat) : CX w0 (w.drewN n) C s i u := ⟨grownA_drewR h.gr, h.ct, h.box, h.ne⟩
theorem CX.setC {w0 w : World} {C : Nat} {s : ByteArray} {i : Nat} {u : PTk} (h : CX w0 w C s i u) (j : Nat) : CX w0 (w.setCell ⟨C, 1, none⟩ (.int .i64 (j : Int))) C s j u :=
 ⟨gSetB h.gr 1 _, h.ct.set j, (heap_setCell_other w ⟨C, 1, none⟩ _ _ (by have := h.ne; show w0.heap.size ≠ C; omega)).trans h.box, h.ne⟩
theorem gSetO {a w : World} {B : Nat} {row : Option Nat} (h : a.grownBy w row) (hB : a.heap.size ≤ B) (i : Nat) (v : Value) : a.grownBy (w.setCell ⟨B, i, none⟩ v) row :=
 ⟨h.os, h.tape, h.output, by simp [World.setCell]; exact h.size, fun k hk hne => by
  rw [Below.heap_setCell _ _ _ _ (show k ≠ B by omega)]
  exact h.block k hk hne⟩
theorem CX.fin {w0 w : World} {C : Nat} {s : ByteArray} {i : Nat} {u : PTk} (h : CX w0 w C s i u) (t : PTk) : ∃ W, putK w w0.heap.size t = W ∧ CX w0 W C s i t := by
 have hne := h.ne
 have o : ∀ (w' : World) (j : Nat) (v : Value), CtA w' C s i → CtA (w'.setCell ⟨w0.heap.size, j, none⟩ v) C s i := fun w' j v hc => (heap_setCell_other w' ⟨w0.heap.size, j, none⟩ _ _ (show C ≠ w0.heap.size by omega)).trans hc
 exact ⟨_, rfl, gSetO (gSetO (gSetO (gSetO h.gr (Nat.le_refl _) _ _) (Nat.le_refl _) _ _) (Nat.le_refl _) _ _) (Nat.le_refl _) _ _, o _ _ _ (o _ _ _ (o _ _ _ (o _ _ _ h.ct))), h.box.put t, hne⟩

set_option maxHeartbeats 1000000 in
theorem cisBlank_any : TellB 230 blankB := fun b w => by
 cases h1 : b == 32
 ·have e : blankB b = (b == 10) := by unfold blankB; rw [h1, Bool.false_or]
  rw [e]
  go_enter Tryz.func230, Tryz.ntmps230
  go_wp2
  go_ret
  exact ⟨by simp, rfl⟩
 ·have e : blankB b = true := by unfold blankB; rw [h1, Bool.true_or]
  rw [e]
  go_enter Tryz.func230, Tryz.ntmps230
  go_wp2
  go_ret
  exact ⟨rfl, rfl⟩
theorem tell_blank : (∀ args w, (callFunc 230 args).run Tryz.prog w = .ok (.enter 230 args) w) ∧ TellB 230 blankB := ⟨enters_of Tryz.func230 (by kernel_rfl) rfl, cisBlank_any⟩
theorem tell_digit : (∀ args w, (callFunc 176 args).run Tryz.prog w = .ok (.enter 176 args) w) ∧ TellB 176 digitB := ⟨enters_of Tryz.func176 (by kernel_rfl) rfl, adigit_any⟩
theorem tell_word : (∀ args w, (callFunc 154 args).run Tryz.prog w = .ok (.enter 154 args) w) ∧ TellB 154 wordB := ⟨enters_of Tryz.func154 (by kernel_rfl) rfl, ainword_any⟩

theorem below_drewQ {w w' : World} (h : Below w.heap.size w w') (n : Nat) : Below w.heap.size w (w'.drewN n) := ⟨h.os, h.tape, h.output, h.size, h.block⟩
/-- ParseInt reads what spells a number -/
def PIntC : Prop := ∀ (d : ByteArray) (n : Int) (w : World), d.size ≤ 70000 → Lib.parseIntB 64 d.data.toList = .ok n → Calls Tryz.prog 173 #[.string d, .int .i64 10, .int .i64 64] w fun e w' => e = .returned (.tuple #[.int .i64 n, .nilIface]) ∧ Below w.heap.size w w'
set_option maxHeartbeats 4000000 in
theorem numberOf_any (hP : PIntC) {d : ByteArray} {n : Int} (h : wholeZ d = some n) (h0 : 0 < d.size) (hd : digitB ((d.get! 0).toNat : Int) = true) (hz : ¬ (1 < d.size ∧ (d.get! 0).toNat = 48)) (hs : d.size ≤ 70000) (w : World) :
  Calls Tryz.prog 237 #[.string d] w fun e w' => e = .returned (.tuple #[.int .i64 n, .bool true]) ∧ Below w.heap.size w w' := by
 have HP : Hid (∀ w, Calls Tryz.prog 173 #[.string d, .int .i64 10, .int .i64 64] w fun e w' => e = .returned (.tuple #[.int .i64 n, .nilIface]) ∧ Below w.heap.size w w') := fun w => hP d n w hs (parse_whole h h0 hd)
 clear hP h
 by_cases h1 : 1 < d.size
 ·have h1I : (1 : Int) < (d.size : Int) := by omega
  obtain ⟨b, hb⟩ : ∃ b : UInt8, d.get! 0 = b := ⟨_, rfl⟩
  have hgb : d[0]'h0 = b := (get_atA d 0 h0).trans hb
  have h48 : ((b.toNat : Int) == 48) = false := by
   rw [beq_eq_false_iff_ne]
   intro h
   exact hz ⟨h1, by rw [hb]; omega⟩
  clear hz hd hb
  go_enter Tryz.func237, Tryz.ntmps237
  go_wp2_with fail
  go_at_call 173
  refine (HP.out _).mono ?_
  rintro e w2 ⟨rfl, hb2⟩
  have HB : Hid (Below w.heap.size w w2) := hb2
  clear hb2 HP
  go_wp2_with fail
  go_quiet (fail)
  go_wp2_with fail
  go_ret2
  exact ⟨rfl, below_drewQ HB.out _⟩
 ·have h1I : ¬ (1 : Int) < (d.size : Int) := by omega
  clear hz hd
  go_enter Tryz.func237, Tryz.ntmps237
  go_wp2_with fail
  go_at_call 173
  refine (HP.out _).mono ?_
  rintro e w2 ⟨rfl, hb2⟩
  have HB : Hid (Below w.heap.size w w2) := hb2
  clear hb2 HP
  go_wp2_with fail
  go_quiet (fail)
  go_wp2_with fail
  go_ret2
  exact ⟨rfl, below_drewQ HB.out _⟩

end Go.Proofs.YtgmmfpdekefamaaGreatDoor

namespace Go.Proofs.YtgmmfpdekefamaaGreatDoor
open Go.RowKit
set_option linter.unusedVariables false
set_option maxRecDepth 100000

theorem run_first {P : Int → Bool} {s : ByteArray} {i : Nat} (h : i < run P s i) : P ((s.get! i).toNat : Int) = true := by
 cases hp : P ((s.get! i).toNat : Int) with
 | true => rfl
 | false => rw [run_stop fun _ => hp] at h; omega
theorem extract_first {s : ByteArray} {i j : Nat} (hij : i < j) (hj : j ≤ s.size) : (s.extract i j).get! 0 = s.get! i := by
 rw [get_bangA, get_bangA, ByteArray.data_extract, Array.getElem?_extract, if_pos (by have : s.data.size = s.size := rfl; omega)]
 simp
theorem whole_pos {d : ByteArray} {n : Int} (h : wholeZ d = some n) : 0 < d.size := by
 unfold wholeZ at h
 split at h
 ·rename_i h1; exact h1.1
 ·split at h
  ·rename_i h1; exact h1.1
  ·cases h
theorem numE_parts {s : ByteArray} {i : Nat} {x : Int × Nat} (h : numE s i = some x) : x.2 = run digitB s i ∧ wholeZ (s.extract i x.2) = some x.1 ∧ ¬ (i + 1 < x.2 ∧ (s.get! i).toNat = 48) := by
 unfold numE at h
 simp only at h
 split at h
 ·cases h
 ·rename_i n hw
  split at h
  ·cases h
  ·rename_i hz
   cases h
   exact ⟨rfl, hw, hz⟩
/-- digits from a byte on: the calls that read them -/
theorem num_calls (hP : PIntC) {s : ByteArray} {i j : Nat} {n : Int} (hi : i ≤ s.size) (hs : s.size ≤ 70000) (h : numE s i = some (n, j)) : j = run digitB s i ∧ i < j ∧ j ≤ s.size ∧ ∀ w, Calls Tryz.prog 237 #[.string (s.extract i j)] w fun e w' => e = .returned (.tuple #[.int .i64 n, .bool true]) ∧ Below w.heap.size w w' := by
 obtain ⟨h1, h2, h3⟩ := numE_parts h
 simp only at h1 h2 h3
 have hr := run_le digitB s hi
 have hpos := whole_pos h2
 rw [ByteArray.size_extract] at hpos
 have hij : i < j := by omega
 have hj : j ≤ s.size := by omega
 refine ⟨h1, hij, hj, fun w => numberOf_any hP h2 (by rw [ByteArray.size_extract]; omega) ?_ ?_ (by rw [ByteArray.size_extract]; omega) w⟩
 ·rw [extract_first hij hj]
  exact run_first (by omega)
 ·rw [extract_first hij hj, ByteArray.size_extract]
  rintro ⟨q1, q2⟩
  exact h3 ⟨by omega, q2⟩

set_option maxHeartbeats 4000000 in
theorem cnumber_any (hP : PIntC) {w : World} {C : Nat} {s : ByteArray} {i j : Nat} {n : Int} (h : CtA w C s i) (hi : i ≤ s.size) (hs : s.size ≤ 70000) (hN : numE s i = some (n, j)) :
  Calls Tryz.prog 232 #[.pointer (some ⟨C, 0, none⟩)] w fun e w' => e = .returned (pkV ⟨1, 0, ⟨#[]⟩, n⟩) ∧ w.grownBy w' (some C) ∧ CtA w' C s j := by
 obtain ⟨hj, hij, hjs, hC⟩ := num_calls hP hi hs hN
 have HX0 : Hid (CX w (w.alloc (.cells #[.int .i64 0, .int .i64 0, .string ⟨#[]⟩, .int .i64 0] 125)) C s i zeroP) := CX.new h
 have HR : Hid (∀ w', CX w w' C s i zeroP → Calls Tryz.prog 229 #[.pointer (some ⟨C, 0, none⟩), .func (.func 176) #[] #[]] w' fun e w'' => e = .returned (.string (s.extract i j)) ∧ CX w w'' C s j zeroP) := fun w' hX => by
  have := crun_any 176 digitB tell_digit.1 tell_digit.2 hX.ct hi hs
  rw [← hj] at this
  exact this.mono fun e w'' ⟨q1, q2, q3⟩ => ⟨q1, hX.run q2 q3⟩
 have HN : Hid (∀ w', CX w w' C s j zeroP → Calls Tryz.prog 237 #[.string (s.extract i j)] w' fun e w'' => e = .returned (.tuple #[.int .i64 n, .bool true]) ∧ CX w w'' C s j zeroP) := fun w' hX => (hC w').mono fun e w'' ⟨q1, q2⟩ => ⟨q1, hX.kept q2⟩
 generalize s.extract i j = d at *
 clear h hC hN
 go_enter Tryz.func232, Tryz.ntmps232
 go_wp2_with fail
 go_at_call 229
 refine (HR.out _ HX0.out).mono ?_
 rintro e w2 ⟨rfl, hX2⟩
 have HN2 := HN.out w2 hX2
 clear HR HN hX2 HX0
 go_wp2_with fail
 go_at_call 237
 refine HN2.mono ?_
 rintro e w3 ⟨rfl, hX3⟩
 obtain ⟨W, hW, hXW⟩ := hX3.fin ⟨1, 0, ⟨#[]⟩, n⟩
 obtain ⟨c0, c1, c2, c3⟩ := hX3.box.cells
 have f0 := hX3.box.fz 0
 have f1 := hX3.box.fz 1
 have f2 := hX3.box.fz 2
 have f3 := hX3.box.fz 3
 obtain ⟨r0, r1, r2, r3⟩ := hXW.box.cells
 simp only at r0 r1 r2 r3
 have HW : Hid (putK w3 w.heap.size ⟨1, 0, ⟨#[]⟩, n⟩ = W) := hW
 have HXW : Hid (CX w W C s j ⟨1, 0, ⟨#[]⟩, n⟩) := hXW
 clear hW hXW hX3 HN2
 go_wp2
 have hW := HW.out
 unfold putK at hW
 simp only [Int.natCast_zero] at hW
 rw [hW]
 refine bodyPost_ret (v := pkV ⟨1, 0, ⟨#[]⟩, n⟩) ?_ rfl ?_
 ·simp [results, go_sem, r0, r1, r2, r3, pkV]
 ·exact ⟨rfl, HXW.out.gr, HXW.out.ct⟩

end Go.Proofs.YtgmmfpdekefamaaGreatDoor

namespace Go.Proofs.YtgmmfpdekefamaaGreatDoor
open Go.RowKit
set_option linter.unusedVariables false
set_option maxRecDepth 100000

theorem CX.newS {w : World} {C : Nat} {s : ByteArray} {i : Nat} (h : CtA w C s i) (j : Nat) : CX w ((w.setCell ⟨C, 1, none⟩ (.int .i64 (j : Int))).alloc (.cells #[.int .i64 0, .int .i64 0, .string ⟨#[]⟩, .int .i64 0] 125)) C s j zeroP := by
 have hsz : (w.setCell ⟨C, 1, none⟩ (.int .i64 (j : Int))).heap.size = w.heap.size := by simp [World.setCell]
 have hb := alloc_below (w.setCell ⟨C, 1, none⟩ (.int .i64 (j : Int))) (.cells #[.int .i64 0, .int .i64 0, .string ⟨#[]⟩, .int .i64 0] 125)
 refine ⟨gT (gSet w C 1 _) (grownA_below hb _), (hb.block C (by rw [hsz]; exact h.lt)).trans (h.set j), ?_, h.lt⟩
 have := allocAtA (w.setCell ⟨C, 1, none⟩ (.int .i64 (j : Int))) (.cells #[.int .i64 0, .int .i64 0, .string ⟨#[]⟩, .int .i64 0] 125)
 rw [hsz] at this
 exact this
/-- what the program's token of a place is -/
def plP (n : Int) : PTk := if 1 ≤ n ∧ n ≤ 20 then ⟨3, 0, ⟨#[]⟩, n⟩ else zeroP
set_option maxHeartbeats 4000000 in
theorem cplace_any (hP : PIntC) {w : World} {C : Nat} {s : ByteArray} {i j : Nat} {n : Int} (h : CtA w C s i) (hi : i < s.size) (hs : s.size ≤ 70000) (hN : numE s (i + 1) = some (n, j)) :
  Calls Tryz.prog 234 #[.pointer (some ⟨C, 0, none⟩)] w fun e w' => e = .returned (pkV (plP n)) ∧ w.grownBy w' (some C) ∧ CtA w' C s j := by
 obtain ⟨hj, hij, hjs, hC⟩ := num_calls hP hi hs hN
 have hlt0 := h.lt
 have c1w := h.c1
 have hfzw := h.fz 1
 have hw1 : IntKind.i64.wrap ((i : Int) + 1) = (i : Int) + 1 := by rw [IntKind.wrap_i64]; omega
 have hX1 : CX w ((w.setCell ⟨C, 1, none⟩ (.int .i64 ((i : Int) + 1))).alloc (.cells #[.int .i64 0, .int .i64 0, .string ⟨#[]⟩, .int .i64 0] 125)) C s (i + 1) zeroP := CX.newS h (i + 1)
 have HX1 : Hid (CX w ((w.setCell ⟨C, 1, none⟩ (.int .i64 ((i : Int) + 1))).alloc (.cells #[.int .i64 0, .int .i64 0, .string ⟨#[]⟩, .int .i64 0] 125)) C s (i + 1) zeroP) := hX1
 have HR : Hid (∀ w', CX w w' C s (i + 1) zeroP → Calls Tryz.prog 229 #[.pointer (some ⟨C, 0, none⟩), .func (.func 176) #[] #[]] w' fun e w'' => e = .returned (.string (s.extract (i + 1) j)) ∧ CX w w'' C s j zeroP) := fun w' hX => by
  have := crun_any 176 digitB tell_digit.1 tell_digit.2 hX.ct (by omega) hs
  rw [← hj] at this
  exact this.mono fun e w'' ⟨q1, q2, q3⟩ => ⟨q1, hX.run q2 q3⟩
 have HN : Hid (∀ w', CX w w' C s j zeroP → Calls Tryz.prog 237 #[.string (s.extract (i + 1) j)] w' fun e w'' => e = .returned (.tuple #[.int .i64 n, .bool true]) ∧ CX w w'' C s j zeroP) := fun w' hX => (hC w').mono fun e w'' ⟨q1, q2⟩ => ⟨q1, hX.kept q2⟩
 have HP : Hid (∀ w, Calls Tryz.prog 91 #[.int .i64 n] w fun e w' => e = .returned (.bool (decide (n ≥ 1) && decide (n ≤ 20))) ∧ w' = w) := fun w => aplace_any n w
 generalize s.extract (i + 1) j = d at *
 clear h hC hN hX1
 have HPl : Hid (plP n = if 1 ≤ n ∧ n ≤ 20 then ⟨3, 0, ⟨#[]⟩, n⟩ else zeroP) := rfl
 generalize plP n = pl at *
 by_cases hn : 1 ≤ n ∧ n ≤ 20
 ·have hb : (decide (n ≥ 1) && decide (n ≤ 20)) = true := by simp; exact hn
  rw [hb] at HP
  have hpl := HPl.out
  rw [if_pos hn] at hpl
  subst hpl
  clear hb hn HPl
  go_enter Tryz.func234, Tryz.ntmps234
  go_wp2_with fail
  go_at_call 229
  refine (HR.out _ HX1.out).mono ?_
  rintro e w2 ⟨rfl, hX2⟩
  have HN2 := HN.out w2 hX2
  clear HR HN hX2 HX1 hlt0 c1w hfzw
  go_wp2_with fail
  go_at_call 237
  refine HN2.mono ?_
  rintro e w3 ⟨rfl, hX3⟩
  clear HN2
  go_wp2_with fail
  go_at_call 91
  refine (HP.out _).mono ?_
  rintro e wq ⟨rfl, hwq⟩
  obtain rfl := hwq.symm
  clear hwq
  obtain ⟨W, hW, hXW⟩ := hX3.fin ⟨3, 0, ⟨#[]⟩, n⟩
  obtain ⟨c0, c1, c2, c3⟩ := hX3.box.cells
  have f0 := hX3.box.fz 0
  have f1 := hX3.box.fz 1
  have f2 := hX3.box.fz 2
  have f3 := hX3.box.fz 3
  obtain ⟨r0, r1, r2, r3⟩ := hXW.box.cells
  simp only at r0 r1 r2 r3
  have HW : Hid (putK w3 w.heap.size ⟨3, 0, ⟨#[]⟩, n⟩ = W) := hW
  have HXW : Hid (CX w W C s j ⟨3, 0, ⟨#[]⟩, n⟩) := hXW
  clear hW hXW hX3 HP
  go_wp2
  have hW := HW.out
  unfold putK at hW
  simp only [Int.natCast_zero] at hW
  rw [hW]
  refine bodyPost_ret (v := pkV ⟨3, 0, ⟨#[]⟩, n⟩) ?_ rfl ?_
  ·simp [results, go_sem, r0, r1, r2, r3, pkV]
  ·exact ⟨rfl, HXW.out.gr, HXW.out.ct⟩
 ·have hb : (decide (n ≥ 1) && decide (n ≤ 20)) = false := by
   rw [Bool.and_eq_false_iff]
   by_cases h1 : 1 ≤ n
   ·exact .inr (decide_eq_false fun h => hn ⟨h1, h⟩)
   ·exact .inl (decide_eq_false h1)
  rw [hb] at HP
  have hpl := HPl.out
  rw [if_neg hn] at hpl
  subst hpl
  clear hb hn HPl
  go_enter Tryz.func234, Tryz.ntmps234
  go_wp2_with fail
  go_at_call 229
  refine (HR.out _ HX1.out).mono ?_
  rintro e w2 ⟨rfl, hX2⟩
  have HN2 := HN.out w2 hX2
  clear HR HN hX2 HX1 hlt0 c1w hfzw
  go_wp2_with fail
  go_at_call 237
  refine HN2.mono ?_
  rintro e w3 ⟨rfl, hX3⟩
  clear HN2
  go_wp2_with fail
  go_at_call 91
  refine (HP.out _).mono ?_
  rintro e wq ⟨rfl, hwq⟩
  obtain rfl := hwq.symm
  clear hwq
  obtain ⟨W, hW, hXW⟩ := hX3.fin zeroP
  obtain ⟨c0, c1, c2, c3⟩ := hX3.box.cells
  have f0 := hX3.box.fz 0
  have f1 := hX3.box.fz 1
  have f2 := hX3.box.fz 2
  have f3 := hX3.box.fz 3
  obtain ⟨r0, r1, r2, r3⟩ := hXW.box.cells
  simp only [zeroP] at r0 r1 r2 r3
  have HW : Hid (putK w3 w.heap.size zeroP = W) := hW
  have HXW : Hid (CX w W C s j zeroP) := hXW
  clear hW hXW hX3 HP
  go_wp2
  have hW := HW.out
  unfold putK at hW
  simp only [zeroP, Int.natCast_zero] at hW
  rw [hW]
  refine bodyPost_ret (v := pkV zeroP) ?_ rfl ?_
  ·simp [results, go_sem, r0, r1, r2, r3, pkV, zeroP]
  ·exact ⟨rfl, HXW.out.gr, HXW.out.ct⟩

/-- what the program's token of a word is -/
def wdP (x : ByteArray) : PTk := if keptL x.toList = true ∨ 0 < kidsL x.toList then ⟨6, 0, x, 0⟩ else ⟨4, 0, x, 0⟩
set_option maxHeartbeats 4000000 in
theorem cword_any {w : World} {C : Nat} {s : ByteArray} {i : Nat} (h : CtA w C s i) (hi : i ≤ s.size) (hs : s.size ≤ 70000) :
  Calls Tryz.prog 233 #[.pointer (some ⟨C, 0, none⟩)] w fun e w' => e = .returned (pkV (wdP (s.extract i (run wordB s i)))) ∧ w.grownBy w' (some C) ∧ CtA w' C s (run wordB s i) := by
 have HX0 : Hid (CX w (w.alloc (.cells #[.int .i64 0, .int .i64 0, .string ⟨#[]⟩, .int .i64 0] 125)) C s i zeroP) := CX.new h
 have HR : Hid (∀ w', CX w w' C s i zeroP → Calls Tryz.prog 229 #[.pointer (some ⟨C, 0, none⟩), .func (.func 154) #[] #[]] w' fun e w'' => e = .returned (.string (s.extract i (run wordB s i))) ∧ CX w w'' C s (run wordB s i) zeroP) := fun w' hX => (crun_any 154 wordB tell_word.1 tell_word.2 hX.ct hi hs).mono fun e w'' ⟨q1, q2, q3⟩ => ⟨q1, hX.run q2 q3⟩
 generalize run wordB s i = j at *
 generalize s.extract i j = d at *
 have HK : Hid (∀ w, Calls Tryz.prog 153 #[.string d] w fun e w' => e = .returned (.bool (keptL d.toList)) ∧ w' = w) := fun w => keyword_any d w
 have HT : Hid (∀ w, Calls Tryz.prog 95 #[.string d] w fun e w' => e = .returned (.int .i64 (kidsL d.toList)) ∧ w' = w) := fun w => takes_any d w
 have HPl : Hid (wdP d = if keptL d.toList = true ∨ 0 < kidsL d.toList then ⟨6, 0, d, 0⟩ else ⟨4, 0, d, 0⟩) := rfl
 generalize wdP d = pl at *
 generalize kidsL d.toList = kd at *
 clear h
 cases hk : keptL d.toList
 ·rw [hk] at HK HPl
  clear hk
  by_cases hkd : 0 < kd
  ·have hpl := HPl.out
   rw [if_pos (.inr hkd)] at hpl
   subst hpl
   clear HPl
   go_enter Tryz.func233, Tryz.ntmps233
   go_wp2_with fail
   go_at_call 229
   refine (HR.out _ HX0.out).mono ?_
   rintro e w3 ⟨rfl, hX3⟩
   clear HR HX0
   go_wp2_with fail
   go_at_call 153
   refine (HK.out _).mono ?_
   rintro e wq ⟨rfl, hwq⟩
   obtain rfl := hwq.symm
   clear hwq HK
   go_wp2_with fail
   go_at_call 95
   refine (HT.out _).mono ?_
   rintro e wq ⟨rfl, hwq⟩
   obtain rfl := hwq.symm
   clear hwq HT
   obtain ⟨W, hW, hXW⟩ := hX3.fin ⟨6, 0, d, 0⟩
   obtain ⟨c0, c1, c2, c3⟩ := hX3.box.cells
   have f0 := hX3.box.fz 0
   have f1 := hX3.box.fz 1
   have f2 := hX3.box.fz 2
   have f3 := hX3.box.fz 3
   obtain ⟨r0, r1, r2, r3⟩ := hXW.box.cells
   simp only at r0 r1 r2 r3
   have HW : Hid (putK w3 w.heap.size ⟨6, 0, d, 0⟩ = W) := hW
   have HXW : Hid (CX w W C s j ⟨6, 0, d, 0⟩) := hXW
   clear hW hXW hX3 
   go_wp2
   have hW := HW.out
   unfold putK at hW
   simp only [Int.natCast_zero] at hW
   rw [hW]
   refine bodyPost_ret (v := pkV ⟨6, 0, d, 0⟩) ?_ rfl ?_
   ·simp [results, go_sem, r0, r1, r2, r3, pkV]
   ·exact ⟨rfl, HXW.out.gr, HXW.out.ct⟩
  ·have hpl := HPl.out
   rw [if_neg (by simp; omega)] at hpl
   subst hpl
   clear HPl
   go_enter Tryz.func233, Tryz.ntmps233
   go_wp2_with fail
   go_at_call 229
   refine (HR.out _ HX0.out).mono ?_
   rintro e w3 ⟨rfl, hX3⟩
   clear HR HX0
   go_wp2_with fail
   go_at_call 153
   refine (HK.out _).mono ?_
   rintro e wq ⟨rfl, hwq⟩
   obtain rfl := hwq.symm
   clear hwq HK
   go_wp2_with fail
   go_at_call 95
   refine (HT.out _).mono ?_
   rintro e wq ⟨rfl, hwq⟩
   obtain rfl := hwq.symm
   clear hwq HT
   obtain ⟨W, hW, hXW⟩ := hX3.fin ⟨4, 0, d, 0⟩
   obtain ⟨c0, c1, c2, c3⟩ := hX3.box.cells
   have f0 := hX3.box.fz 0
   have f1 := hX3.box.fz 1
   have f2 := hX3.box.fz 2
   have f3 := hX3.box.fz 3
   obtain ⟨r0, r1, r2, r3⟩ := hXW.box.cells
   simp only at r0 r1 r2 r3
   have HW : Hid (putK w3 w.heap.size ⟨4, 0, d, 0⟩ = W) := hW
   have HXW : Hid (CX w W C s j ⟨4, 0, d, 0⟩) := hXW
   clear hW hXW hX3 
   go_wp2
   have hW := HW.out
   unfold putK at hW
   simp only [Int.natCast_zero] at hW
   rw [hW]
   refine bodyPost_ret (v := pkV ⟨4, 0, d, 0⟩) ?_ rfl ?_
   ·simp [results, go_sem, r0, r1, r2, r3, pkV]
   ·exact ⟨rfl, HXW.out.gr, HXW.out.ct⟩
 ·rw [hk] at HK HPl
  clear hk
  have hpl := HPl.out
  rw [if_pos (.inl rfl)] at hpl
  subst hpl
  clear HPl HT
  go_enter Tryz.func233, Tryz.ntmps233
  go_wp2_with fail
  go_at_call 229
  refine (HR.out _ HX0.out).mono ?_
  rintro e w3 ⟨rfl, hX3⟩
  clear HR HX0
  go_wp2_with fail
  go_at_call 153
  refine (HK.out _).mono ?_
  rintro e wq ⟨rfl, hwq⟩
  obtain rfl := hwq.symm
  clear hwq HK
  obtain ⟨W, hW, hXW⟩ := hX3.fin ⟨6, 0, d, 0⟩
  obtain ⟨c0, c1, c2, c3⟩ := hX3.box.cells
  have f0 := hX3.box.fz 0
  have f1 := hX3.box.fz 1
  have f2 := hX3.box.fz 2
  have f3 := hX3.box.fz 3
  obtain ⟨r0, r1, r2, r3⟩ := hXW.box.cells
  simp only at r0 r1 r2 r3
  have HW : Hid (putK w3 w.heap.size ⟨6, 0, d, 0⟩ = W) := hW
  have HXW : Hid (CX w W C s j ⟨6, 0, d, 0⟩) := hXW
  clear hW hXW hX3 
  go_wp2
  have hW := HW.out
  unfold putK at hW
  simp only [Int.natCast_zero] at hW
  rw [hW]
  refine bodyPost_ret (v := pkV ⟨6, 0, d, 0⟩) ?_ rfl ?_
  ·simp [results, go_sem, r0, r1, r2, r3, pkV]
  ·exact ⟨rfl, HXW.out.gr, HXW.out.ct⟩

end Go.Proofs.YtgmmfpdekefamaaGreatDoor

namespace Go.Proofs.YtgmmfpdekefamaaGreatDoor
open Go.RowKit
set_option linter.unusedVariables false
set_option maxRecDepth 100000

def sgL : List ByteArray := [⟨#[61, 61]⟩, ⟨#[43, 43]⟩, ⟨#[61]⟩, ⟨#[60]⟩, ⟨#[43]⟩, ⟨#[45]⟩, ⟨#[42]⟩, ⟨#[47]⟩, ⟨#[37]⟩, ⟨#[40]⟩, ⟨#[41]⟩, ⟨#[91]⟩, ⟨#[93]⟩, ⟨#[44]⟩]
def prA (s : ByteArray) (i : Nat) (x : ByteArray) : Bool := Lib.hasPrefix (s.extract i s.size).data.toList x.data.toList
def HPreC : Prop := ∀ (s p : ByteArray) (w : World), Calls Tryz.prog 174 #[.string s, .string p] w fun e w' => e = .returned (.bool (Lib.hasPrefix s.data.toList p.data.toList)) ∧ w' = w
theorem lt_of_cellQ {w : World} {b o : Nat} {v : Value} (h : w.cell? ⟨b, o, none⟩ = some v) : b < w.heap.size := by
 rcases Nat.lt_or_ge b w.heap.size with h' | h'
 ·exact h'
 ·simp [World.cell?, Array.getElem?_eq_none h'] at h
/-- the signs in memory -/
def SgA (w : World) (A : Nat) : Prop := w.heap[A]? = some (.cells #[.string ⟨#[61, 61]⟩, .string ⟨#[43, 43]⟩, .string ⟨#[61]⟩, .string ⟨#[60]⟩, .string ⟨#[43]⟩, .string ⟨#[45]⟩, .string ⟨#[42]⟩, .string ⟨#[47]⟩, .string ⟨#[37]⟩, .string ⟨#[40]⟩, .string ⟨#[41]⟩, .string ⟨#[91]⟩, .string ⟨#[93]⟩, .string ⟨#[44]⟩] 9 (0, 0))
theorem SgA.at {w : World} {A : Nat} (h : SgA w A) {k : Nat} (hk : k < 14) : w.cell? ⟨A, k, none⟩ = some (.string (sgL.getD k emptyT)) := by
 refine cellsAtA h k _ ?_
 match k, hk with
 | 0, _ => rfl
 | 1, _ => rfl
 | 2, _ => rfl
 | 3, _ => rfl
 | 4, _ => rfl
 | 5, _ => rfl
 | 6, _ => rfl
 | 7, _ => rfl
 | 8, _ => rfl
 | 9, _ => rfl
 | 10, _ => rfl
 | 11, _ => rfl
 | 12, _ => rfl
 | 13, _ => rfl
theorem SgA.new {w : World} : SgA (w.alloc (.cells #[.string ⟨#[61, 61]⟩, .string ⟨#[43, 43]⟩, .string ⟨#[61]⟩, .string ⟨#[60]⟩, .string ⟨#[43]⟩, .string ⟨#[45]⟩, .string ⟨#[42]⟩, .string ⟨#[47]⟩, .string ⟨#[37]⟩, .string ⟨#[40]⟩, .string ⟨#[41]⟩, .string ⟨#[91]⟩, .string ⟨#[93]⟩, .string ⟨#[44]⟩] 9)) w.heap.size := allocAtA w _
theorem find_step {α : Type} {p : α → Bool} {l : List α} {k : Nat} (d : α) (h : k < l.length) : (l.drop k).find? p = if p (l.getD k d) = true then some (l.getD k d) else (l.drop (k + 1)).find? p := by
 rw [List.drop_eq_getElem_cons h, List.find?_cons]
 have e : l.getD k d = l[k] := by simp [List.getD, h]
 rw [e]
 cases p l[k] <;> simp
theorem sg_small : ∀ k, k < 14 → (sgL.getD k emptyT).size ≤ 2 ∧ 1 ≤ (sgL.getD k emptyT).size := by decide

set_option maxHeartbeats 8000000 in
theorem csign_any (hH : HPreC) {w : World} {C : Nat} {s : ByteArray} {i : Nat} {x : ByteArray} (h : CtA w C s i) (hi : i < s.size) (hs : s.size ≤ 70000) (hf : sgL.find? (prA s i) = some x) :
  Calls Tryz.prog 236 #[.pointer (some ⟨C, 0, none⟩)] w fun e w' => e = .returned (pkV ⟨6, 0, x, 0⟩) ∧ w.grownBy w' (some C) ∧ CtA w' C s (i + x.size) := by
 have hX0 : CX w (w.alloc (.cells #[.int .i64 0, .int .i64 0, .string ⟨#[]⟩, .int .i64 0] 125)) C s i zeroP := CX.new h
 have hX1 := hX0.kept (alloc_below (w.alloc (.cells #[.int .i64 0, .int .i64 0, .string ⟨#[]⟩, .int .i64 0] 125)) (.cells #[.string ⟨#[61, 61]⟩, .string ⟨#[43, 43]⟩, .string ⟨#[61]⟩, .string ⟨#[60]⟩, .string ⟨#[43]⟩, .string ⟨#[45]⟩, .string ⟨#[42]⟩, .string ⟨#[47]⟩, .string ⟨#[37]⟩, .string ⟨#[40]⟩, .string ⟨#[41]⟩, .string ⟨#[91]⟩, .string ⟨#[93]⟩, .string ⟨#[44]⟩] 9))
 have HX1 : Hid (CX w ((w.alloc (.cells #[.int .i64 0, .int .i64 0, .string ⟨#[]⟩, .int .i64 0] 125)).alloc (.cells #[.string ⟨#[61, 61]⟩, .string ⟨#[43, 43]⟩, .string ⟨#[61]⟩, .string ⟨#[60]⟩, .string ⟨#[43]⟩, .string ⟨#[45]⟩, .string ⟨#[42]⟩, .string ⟨#[47]⟩, .string ⟨#[37]⟩, .string ⟨#[40]⟩, .string ⟨#[41]⟩, .string ⟨#[91]⟩, .string ⟨#[93]⟩, .string ⟨#[44]⟩] 9)) C s i zeroP) := hX1
 have hA := @SgA.new (w.alloc (.cells #[.int .i64 0, .int .i64 0, .string ⟨#[]⟩, .int .i64 0] 125))
 rw [alloc_size] at hA
 have HA : Hid (SgA ((w.alloc (.cells #[.int .i64 0, .int .i64 0, .string ⟨#[]⟩, .int .i64 0] 125)).alloc (.cells #[.string ⟨#[61, 61]⟩, .string ⟨#[43, 43]⟩, .string ⟨#[61]⟩, .string ⟨#[60]⟩, .string ⟨#[43]⟩, .string ⟨#[45]⟩, .string ⟨#[42]⟩, .string ⟨#[47]⟩, .string ⟨#[37]⟩, .string ⟨#[40]⟩, .string ⟨#[41]⟩, .string ⟨#[91]⟩, .string ⟨#[93]⟩, .string ⟨#[44]⟩] 9)) (w.heap.size + 1)) := hA
 have HH : Hid (∀ (k : Nat) (w : World), Calls Tryz.prog 174 #[.string (s.extract i s.size), .string (sgL.getD k emptyT)] w fun e w' => e = .returned (.bool (prA s i (sgL.getD k emptyT))) ∧ w' = w) := fun k w => hH _ _ w
 have HF : Hid (sgL.find? (prA s i) = some x) := hf
 have HCw : Hid (C < w.heap.size) := h.lt
 clear h hX0 hX1 hA hf hH
 go_enter Tryz.func236, Tryz.ntmps236
 go_wp2
 go_loopw [7] (fun kv wr => ∃ k : Nat, kv = .int .i64 k ∧ k ≤ 14 ∧ Hid (CX w wr C s i zeroP) ∧ Hid (SgA wr (w.heap.size + 1)) ∧ Hid ((sgL.drop k).find? (prA s i) = some x)) (fun kv _ => 14 - (intOf kv).toNat)
 case atStart => exact ⟨0, rfl, by omega, HX1, HA, HF⟩
 case round =>
  obtain ⟨k, rfl, hk, HXr, HAr, HFr⟩ := hrel
  by_cases hlt : k < 14
  ·have hltI : (k : Int) < 14 := by omega
   have ck := HAr.out.at hlt
   have hstep := find_step (p := prA s i) (l := sgL) emptyT (k := k) hlt
   have hsz := sg_small k hlt
   have HHk := HH.out k
   generalize sgL.getD k emptyT = y at *
   have hAlt : w.heap.size + 1 < wr.heap.size := lt_of_cellQ ck
   have c0 := HXr.out.ct.c0
   have c1 := HXr.out.ct.c1
   have hClt := HXr.out.ct.lt
   have hCfz := HXr.out.ct.fz 1
   have hiI : (i : Int) ≤ (s.size : Int) := by omega
   by_cases hp : prA s i y = true
   ·rw [if_pos hp] at hstep
    have HY : Hid (y = x) := by show _ = _; have := hstep.symm.trans HFr.out; exact Option.some.inj this
    have HHk2 : Hid (∀ w, Calls Tryz.prog 174 #[.string (s.extract i s.size), .string y] w fun e w' => e = .returned (.bool true) ∧ w' = w) := by have := HHk; rw [hp] at this; exact this
    clear HHk hstep hp HFr HF HH
    go_wp2_with fail
    go_region_held3 (fun w' => w'.cell? ⟨C, 0, none⟩ = some (.string s) ∧ w'.cell? ⟨C, 1, none⟩ = some (.int .i64 (i : Int))) (go_keep) ((go_at_call 174; refine (HHk2.out _).mono ?_; rintro e wq ⟨rfl, hwq⟩; obtain rfl := hwq.symm; clear hwq))
    all_goals
     have hXd := HXr.out
     have hw1 : IntKind.i64.wrap ((i : Int) + (y.size : Int)) = (i : Int) + (y.size : Int) := by rw [IntKind.wrap_i64]; omega
     have hX9 := hXd.setC (i + y.size)
     have hWC : Hid (∃ W9, wr.setCell ⟨C, 1, none⟩ (.int .i64 ((i : Int) + (y.size : Int))) = W9 ∧ CX w W9 C s (i + y.size) zeroP) := ⟨_, rfl, hX9⟩
     obtain ⟨w9, hW9, hX9'⟩ := hWC.out
     clear hX9 hWC hXd
     obtain ⟨W, hW, hXW⟩ := hX9'.fin ⟨6, 0, y, 0⟩
     obtain ⟨b0, b1, b2, b3⟩ := HXr.out.box.cells
     have f0 := HXr.out.box.fz 0
     have f1 := HXr.out.box.fz 1
     have f2 := HXr.out.box.fz 2
     have f3 := HXr.out.box.fz 3
     have hne9 := HXr.out.ne
     obtain ⟨r0, r1, r2, r3⟩ := hXW.box.cells
     simp only at r0 r1 r2 r3
     have HW : Hid (putK (wr.setCell ⟨C, 1, none⟩ (.int .i64 ((i : Int) + (y.size : Int)))) w.heap.size ⟨6, 0, y, 0⟩ = W) := by show _ = _; rw [hW9]; exact hW
     have HXW : Hid (CX w W C s (i + y.size) ⟨6, 0, y, 0⟩) := hXW
     clear hW hXW hX9' hW9 HHk2 HXr HAr ck
     go_wp2
     have hW := HW.out
     unfold putK at hW
     simp only [Int.natCast_zero] at hW
     rw [hW]
     refine bodyPost_ret (v := pkV ⟨6, 0, y, 0⟩) ?_ rfl ?_
     ·simp [results, go_sem, r0, r1, r2, r3, pkV]
     ·rw [← HY.out]
      exact ⟨rfl, grownA_drewR (n := 1) HXW.out.gr, HXW.out.ct⟩
   ·have hpf : prA s i y = false := by simpa using hp
    rw [if_neg hp] at hstep
    have HN : Hid ((sgL.drop (k + 1)).find? (prA s i) = some x) := by show _ = _; rw [← hstep]; exact HFr.out
    have HHk2 : Hid (∀ w, Calls Tryz.prog 174 #[.string (s.extract i s.size), .string y] w fun e w' => e = .returned (.bool false) ∧ w' = w) := by have := HHk; rw [hpf] at this; exact this
    clear HHk hstep hp hpf HFr HF HH
    go_wp2_with fail
    go_region_held3 (fun w' => w'.cell? ⟨C, 0, none⟩ = some (.string s) ∧ w'.cell? ⟨C, 1, none⟩ = some (.int .i64 (i : Int))) (go_keep) ((go_at_call 174; refine (HHk2.out _).mono ?_; rintro e wq ⟨rfl, hwq⟩; obtain rfl := hwq.symm; clear hwq))
    all_goals
     go_wp2
     go_roundw
     case rel => exact ⟨k + 1, by go_num, by omega, HXr.out.drewN 1, HAr.out, HN⟩
     case measure => simp [intOf]; omega
  ·exfalso
   have hk14 : k = 14 := by omega
   have := HFr.out
   rw [hk14] at this
   cases this

end Go.Proofs.YtgmmfpdekefamaaGreatDoor
