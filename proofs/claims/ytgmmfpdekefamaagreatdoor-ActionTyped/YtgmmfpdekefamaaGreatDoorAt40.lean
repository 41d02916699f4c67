/- Texts of the proof, put together: QQuoB, QCut, QCutB. -/
import Derived.Test.YtgmmfpdekefamaaGreatDoorAt39
import Derived.Test.YtgmmfpdekefamaaGreatDoorAt35
namespace Go.Proofs.YtgmmfpdekefamaaGreatDoor
open Go.RowKit
set_option linter.unusedVariables false
set_option maxRecDepth 100000

theorem QI.start {w : World} {C : Nat} {s : ByteArray} {i : Nat} (h : CtA w C s i) (hU : UtfW w) (hb : 16 ≤ C) (j : Nat) (hj : j ≤ s.size) : QI w (((w.setCell ⟨C, 1, none⟩ (.int .i64 (j : Int))).alloc (.cells #[.int .i64 0, .int .i64 0, .string ⟨#[]⟩, .int .i64 0] 125)).alloc (.cells #[.pointer none, .slice none 0 0] 173)) C s j emptyT := by
 have h1 := CX.newS h j
 have hal := alloc_below ((w.setCell ⟨C, 1, none⟩ (.int .i64 (j : Int))).alloc (.cells #[.int .i64 0, .int .i64 0, .string ⟨#[]⟩, .int .i64 0] 125)) (.cells #[.pointer none, .slice none 0 0] 173)
 have h2 := h1.kept hal
 have hsz : ((w.setCell ⟨C, 1, none⟩ (.int .i64 (j : Int))).alloc (.cells #[.int .i64 0, .int .i64 0, .string ⟨#[]⟩, .int .i64 0] 125)).heap.size = w.heap.size + 1 := by rw [alloc_size]; simp [World.setCell]
 refine ⟨h2, ?_, hU.kept h2.gr hb, hb, by show (0 : Nat) ≤ j; omega, hj⟩
 have hA := allocAtA ((w.setCell ⟨C, 1, none⟩ (.int .i64 (j : Int))).alloc (.cells #[.int .i64 0, .int .i64 0, .string ⟨#[]⟩, .int .i64 0] 125)) (.cells #[.pointer none, .slice none 0 0] 173)
 rw [hsz] at hA
 exact bld_new (rest := []) (Nat.le_refl _) tk_builder hA

theorem QI.drewN {w0 w : World} {C : Nat} {s : ByteArray} {i : Nat} {t : ByteArray} (h : QI w0 w C s i t) (n : Nat) : QI w0 (w.drewN n) C s i t := h.move (grownA_drewN w n _) h.cx.ct (Nat.le_refl _) h.le.2

theorem CX.keptB {w0 w w' : World} {C : Nat} {s : ByteArray} {i : Nat} {u : PTk} (h : CX w0 w C s i u) (hB : Below (w0.heap.size + 1) w w') : CX w0 w' C s i u := by
 have hne := h.ne
 exact ⟨⟨hB.os.trans h.gr.os, hB.tape.trans h.gr.tape, hB.output.trans h.gr.output, Nat.le_trans h.gr.size hB.size, fun b hb1 hb2 => (hB.block b (by omega)).trans (h.gr.block b hb1 hb2)⟩, (hB.block C (by omega)).trans h.ct, (hB.block _ (by omega)).trans h.box, hne⟩
set_option maxHeartbeats 8000000 in
theorem cquoted_any {w : World} {C : Nat} {s : ByteArray} {i j f : Nat} {x : ByteArray} (h : CtA w C s i) (hU : UtfW w) (hbig : 16 ≤ C) (hi : i < s.size) (hs : s.size ≤ 70000) (hq : quoE s f (i + 1) emptyT = some (x, j)) :
  Calls Tryz.prog 235 #[.pointer (some ⟨C, 0, none⟩)] w fun e w' => e = .returned (pkV ⟨2, 0, x, 0⟩) ∧ w.grownBy w' (some C) ∧ CtA w' C s j := by
 have hlt0 := h.lt
 have c1w := h.c1
 have hfzw := h.fz 1
 have hw1 : IntKind.i64.wrap ((i : Int) + 1) = (i : Int) + 1 := by rw [IntKind.wrap_i64]; omega
 have hQ0 := QI.start h hU hbig (i + 1) (by omega)
 have HQ0 : Hid (QI w (((w.setCell ⟨C, 1, none⟩ (.int .i64 ((i : Int) + 1))).alloc (.cells #[.int .i64 0, .int .i64 0, .string ⟨#[]⟩, .int .i64 0] 125)).alloc (.cells #[.pointer none, .slice none 0 0] 173)) C s (i + 1) emptyT) := hQ0
 have HF : Hid (quoE s f (i + 1) emptyT = some (x, j)) := hq
 clear h hU hQ0 hq
 go_enter Tryz.func235, Tryz.ntmps235
 go_wp2
 go_loopg [] (s.size - (i + 1)) (fun g wr => ∃ (k f : Nat) (t : ByteArray), k ≤ s.size ∧ Hid (g = s.size - k) ∧ Hid (QI w wr C s k t) ∧ Hid (quoE s f k t = some (x, j)))
 case atStart => exact ⟨i + 1, f, emptyT, by omega, rfl, HQ0, HF⟩
 case round =>
  clear HQ0 HF hlt0 c1w hfzw hw1
  obtain ⟨k, f', t, hk, HG, HQ, HFk⟩ := hrel
  obtain ⟨hks, ho, h10, hcase⟩ := quo_step HFk.out
  have htk := HQ.out.le.1
  have c0 := HQ.out.cx.ct.c0
  have c1 := HQ.out.cx.ct.c1
  have hClt := HQ.out.cx.ct.lt
  have hCfz := HQ.out.cx.ct.fz 1
  have hkI : (k : Int) < (s.size : Int) := by omega
  have hkI2 : (k : Int) ≤ (s.size : Int) := by omega
  have hdl := dec_le s k hks
  have hdw := dec_width s k
  have hdr := dec_rune s k
  have hgo := go_decode hks
  have HD : Hid (∀ w', QI w w' C s k t → Calls Tryz.prog 238 #[.string (s.extract k s.size)] w' fun e w'' => e = .returned (.tuple #[.int .i32 (Utf8.decode s k).1, .int .i64 (Utf8.decode s k).2]) ∧ QI w w'' C s k t) := fun w' hX => by
   have := dec_any hX.utf (s.extract k s.size)
   rw [hgo] at this
   exact this.mono fun e w'' ⟨q1, q2⟩ => ⟨q1, hX.move (grownA_below q2 _) ((q2.block C hX.cx.ct.lt).trans hX.cx.ct) (Nat.le_refl _) hX.le.2⟩
  go_wp2_with fail
  go_quiet (fail)
  have HQ1 : Hid (QI w (wr.drewN nq) C s k t) := HQ.out.drewN nq
  generalize wr.drewN nq = w1 at *
  clear c0 c1 hClt hCfz HQ
  have c0 := HQ1.out.cx.ct.c0
  have c1 := HQ1.out.cx.ct.c1
  have hClt := HQ1.out.cx.ct.lt
  have HQd : Hid (QI w w1.drew C s k t) := HQ1.out.drewN 1
  obtain ⟨r, hr⟩ : ∃ r, (Utf8.decode s k).1 = r := ⟨_, rfl⟩
  obtain ⟨n, hn⟩ : ∃ n, (Utf8.decode s k).2 = n := ⟨_, rfl⟩
  rw [hn] at hdl hdw
  rw [hr] at hdr
  rw [hr, hn] at HD
  have HDn : Hid ((Utf8.decode s k).1 = r ∧ (Utf8.decode s k).2 = n) := ⟨hr, hn⟩
  clear hr hn hgo HFk
  go_wp2_with fail
  go_region_held3 (fun w' => w'.cell? ⟨C, 0, none⟩ = some (.string s) ∧ w'.cell? ⟨C, 1, none⟩ = some (.int .i64 (k : Int))) (go_keep) ((go_at_call 238; refine (HD.out _ HQd.out).mono ?_; rintro e w2 ⟨rfl, hQ2⟩; have f0 := hQ2.cx.ct.c0; have f1 := hQ2.cx.ct.c1))
  all_goals
   have HQ2 : Hid (QI w w2 C s k t) := hQ2
   clear HD HQd HQ1 c0 c1 hClt
   have hClt := hQ2.cx.ct.lt
   have hCfz := hQ2.cx.ct.fz 1
   clear hQ2
   have hw2 : IntKind.i64.wrap ((k : Int) + (n : Int)) = (k : Int) + (n : Int) := by rw [IntKind.wrap_i64]; omega
   have HQ3 : Hid (∃ w3, w2.setCell ⟨C, 1, none⟩ (.int .i64 ((k : Int) + (n : Int))) = w3 ∧ QI w w3 C s (k + n) t) := ⟨_, rfl, HQ2.out.move (gSetB (show w2.grownBy w2 (some C) from ⟨rfl, rfl, rfl, Nat.le_refl _, fun _ _ _ => rfl⟩) 1 _) (HQ2.out.cx.ct.set (k + n)) (by omega) hdl⟩
   obtain ⟨w3, hw3, hQ3⟩ := HQ3.out
   have HW3 : Hid (w2.setCell ⟨C, 1, none⟩ (.int .i64 ((k : Int) + (n : Int))) = w3) := hw3
   clear hw3 HQ3 HQ2
   rcases hcase with ⟨h34, hy⟩ | ⟨h34, h92, f2, hf2⟩ | ⟨h92, hk1, f2, c, hc, hf2⟩
   ·-- the end
    have hrn := dec_asc (s := s) (i := k) (by omega)
    obtain ⟨rfl, rfl⟩ : r = 34 ∧ n = 1 := by
     obtain ⟨e1, e2⟩ := HDn.out
     rw [hrn] at e1 e2
     exact ⟨by rw [← e1]; exact h34, e2.symm⟩
    obtain ⟨rfl, rfl⟩ : x = t ∧ j = k + 1 := by cases hy; exact ⟨rfl, rfl⟩
    have HStr : Hid (Calls Tryz.prog 98 #[.pointer (some ⟨w.heap.size + 1, 0, none⟩)] w3 fun e w' => e = .returned (.string x) ∧ CX w w' C s (k + 1) zeroP) := by
     refine (bstr_any x.data.toList hQ3.bld (Nat.le_trans (by have := hQ3.bld.lt; omega) (Nat.le_refl _))).mono ?_
     rintro e w' ⟨q1, q2⟩
     exact ⟨by rw [q1], hQ3.cx.keptB q2⟩
    clear hQ3 hy HDn
    have hw3 : w2.setCell ⟨C, 1, none⟩ (.int .i64 ((k : Int) + 1)) = w3 := HW3.out
    have HW3' : Hid (w2.setCell ⟨C, 1, none⟩ (.int .i64 ((k : Int) + 1)) = w3) := hw3
    clear hw3 HW3
    go_wp2_with fail
    rw [HW3'.out]
    go_at_call 98
    refine HStr.out.mono ?_
    rintro e w4 ⟨rfl, hX4⟩
    clear HStr HW3' f0 f1 hClt hCfz
    obtain ⟨W, hW, hXW⟩ := hX4.fin ⟨2, 0, x, 0⟩
    obtain ⟨c0, c1, c2, c3⟩ := hX4.box.cells
    have f0 := hX4.box.fz 0
    have f1 := hX4.box.fz 1
    have f2 := hX4.box.fz 2
    have f3 := hX4.box.fz 3
    obtain ⟨r0, r1, r2, r3⟩ := hXW.box.cells
    simp only at r0 r1 r2 r3
    have HW : Hid (putK w4 w.heap.size ⟨2, 0, x, 0⟩ = W) := hW
    have HXW : Hid (CX w W C s (k + 1) ⟨2, 0, x, 0⟩) := hXW
    clear hW hXW hX4 
    go_wp2
    have hW := HW.out
    unfold putK at hW
    simp only [Int.natCast_zero] at hW
    rw [hW]
    refine bodyPost_ret (v := pkV ⟨2, 0, x, 0⟩) ?_ rfl ?_
    ·simp [results, go_sem, r0, r1, r2, r3, pkV]
    ·exact ⟨rfl, HXW.out.gr, HXW.out.ct⟩
   ·-- any other point
    have hr34 : r ≠ 34 := fun e => h34 (q_head hks ho (by omega) (HDn.out.1.trans e))
    have hr10 : r ≠ 10 := fun e => h10 (q_head hks ho (by omega) (HDn.out.1.trans e))
    have hr92 : r ≠ 92 := fun e => h92 (q_head hks ho (by omega) (HDn.out.1.trans e))
    have hbad : ¬ (r = 65533 ∧ n = 1) := fun ⟨e1, e2⟩ => by
     unfold okAt at ho
     rw [HDn.out.1, HDn.out.2, e1, e2] at ho
     cases ho
    have e34 : ((r : Int) == 34) = false := by rw [beq_eq_false_iff_ne]; omega
    have e10 : ((r : Int) == 10) = false := by rw [beq_eq_false_iff_ne]; omega
    have e92 : ((r : Int) == 92) = false := by rw [beq_eq_false_iff_ne]; omega
    have henc := enc_dec s k hks ho
    rw [HDn.out.1, HDn.out.2] at henc
    have HWr : Hid (Calls Tryz.prog 239 #[.pointer (some ⟨w.heap.size + 1, 0, none⟩), .int .i32 (r : Int)] w3 fun e w' => (∃ m : Int, e = .returned (.tuple #[.int .i64 m, .nilIface])) ∧ QI w w' C s (k + n) (t ++ s.extract k (k + n))) := by
     have hts := hQ3.le
     refine (wrune_any (r : Int) (by omega) (by omega) hQ3.bld ?_ ?_).mono ?_
     ·unfold Lib.byteCells; rw [List.length_map, Array.length_toList]; show t.size + 4 ≤ _; omega
     ·have := hQ3.bld.lt; omega
     ·rintro e w' ⟨q1, q2, q3⟩
      refine ⟨q1, hQ3.wrote ?_ q3 ?_⟩
      ·have hce : Lib.byteCells t.data.toList ++ Lib.runeCells (r : Int) = Lib.byteCells (t ++ s.extract k (k + n)).data.toList := by
        rw [← Lib.byteCells_encodeRune, henc]
        unfold Lib.byteCells
        rw [← List.map_append]
        rw [ByteArray.data_append, Array.toList_append, ByteArray.data_extract, Array.toList_extract, List.extract_eq_take_drop, Nat.add_sub_cancel_left]
       rw [← hce]
       exact q2.bld
      ·rw [ByteArray.size_append, ByteArray.size_extract]; omega
    have HF2 : Hid (quoE s f2 (k + n) (t ++ s.extract k (k + n)) = some (x, j)) := by rw [← HDn.out.2]; exact hf2
    clear hQ3 HDn hf2 h34 h92 hr34 hr10 hr92 henc
    by_cases h65 : r = 65533
    ·have e65 : ((r : Int) == 65533) = true := by rw [beq_iff_eq]; omega
     have hn1 : ((n : Int) == 1) = false := by rw [beq_eq_false_iff_ne]; omega
     clear hbad h65
     go_wp2_with fail
     rw [HW3.out]
     go_at_call 239
     refine HWr.out.mono ?_
     rintro e w5 ⟨⟨m, rfl⟩, hQ5⟩
     have HQ5 : Hid (QI w w5 C s (k + n) (t ++ s.extract k (k + n))) := hQ5
     clear hQ5 HWr HW3 f0 f1 hClt hCfz
     go_wp2
     go_roundg (s.size - (k + n))
     case rel => exact ⟨k + n, f2, _, hdl, rfl, HQ5, HF2⟩
     have := HG.out
     omega
    ·have e65 : ((r : Int) == 65533) = false := by rw [beq_eq_false_iff_ne]; omega
     clear hbad h65
     go_wp2_with fail
     rw [HW3.out]
     go_at_call 239
     refine HWr.out.mono ?_
     rintro e w5 ⟨⟨m, rfl⟩, hQ5⟩
     have HQ5 : Hid (QI w w5 C s (k + n) (t ++ s.extract k (k + n))) := hQ5
     clear hQ5 HWr HW3 f0 f1 hClt hCfz
     go_wp2
     go_roundg (s.size - (k + n))
     case rel => exact ⟨k + n, f2, _, hdl, rfl, HQ5, HF2⟩
     have := HG.out
     omega
   ·-- behind a stroke
    have hrn := dec_asc (s := s) (i := k) (by omega)
    obtain ⟨rfl, rfl⟩ : r = 92 ∧ n = 1 := by
     obtain ⟨e1, e2⟩ := HDn.out
     rw [hrn] at e1 e2
     exact ⟨by rw [← e1]; exact h92, e2.symm⟩
    have hw3 : w2.setCell ⟨C, 1, none⟩ (.int .i64 ((k : Int) + 1)) = w3 := HW3.out
    have HW3' : Hid (w2.setCell ⟨C, 1, none⟩ (.int .i64 ((k : Int) + 1)) = w3) := hw3
    have HEs : Hid (Calls Tryz.prog 228 #[.pointer (some ⟨C, 0, none⟩)] w3 fun e w' => e = .returned (.tuple #[.int .u8 (c.toNat : Int), .bool true]) ∧ QI w w' C s (k + 2) t) := by
     refine (cescaped_any (x := c.toNat) hQ3.cx.ct hk1 hs hc).mono ?_
     rintro e w' ⟨q1, q2, q3⟩
     exact ⟨q1, hQ3.move q2 q3 (by omega) (by omega)⟩
    have HWb : Hid (∀ W, QI w W C s (k + 2) t → Calls Tryz.prog 158 #[.pointer (some ⟨w.heap.size + 1, 0, none⟩), .int .u8 (c.toNat : Int)] W fun e w' => e = .returned .nilIface ∧ QI w w' C s (k + 2) (t ++ ⟨#[c]⟩)) := fun W hX => by
     refine (wbyte_any (c.toNat : Int) hX.bld ?_ ?_).mono ?_
     ·unfold Lib.byteCells; rw [List.length_map, Array.length_toList]; show t.size ≤ _; omega
     ·have := hX.bld.lt; omega
     ·rintro e w' ⟨q1, q2, q3⟩
      refine ⟨q1, hX.wrote ?_ q3 ?_⟩
      ·have hce : Lib.byteCells t.data.toList ++ [.int .u8 (c.toNat : Int)] = Lib.byteCells (t ++ ⟨#[c]⟩).data.toList := by
        rw [ByteArray.data_append, Array.toList_append, Lib.byteCells_append]
        rfl
       rw [← hce]
       exact q2.bld
      ·rw [ByteArray.size_append]; show t.size + 1 ≤ _; omega
    have HF2 : Hid (quoE s f2 (k + 2) (t ++ ⟨#[c]⟩) = some (x, j)) := hf2
    clear hQ3 HDn hf2 hw3 HW3 hc hrn
    go_wp2_with fail
    rw [HW3'.out]
    go_at_call 228
    refine HEs.out.mono ?_
    rintro e w4 ⟨rfl, hQ4⟩
    have HWb4 := HWb.out w4 hQ4
    clear hQ4 HEs HW3' HWb f0 f1 hClt hCfz
    go_wp2_with fail
    go_at_call 158
    refine HWb4.mono ?_
    rintro e w5 ⟨rfl, hQ5⟩
    have HQ5 : Hid (QI w w5 C s (k + 2) (t ++ ⟨#[c]⟩)) := hQ5
    clear hQ5 HWb4
    go_wp2
    go_roundg (s.size - (k + 2))
    case rel => exact ⟨k + 2, f2, _, by omega, rfl, HQ5, HF2⟩
    have := HG.out
    omega

end Go.Proofs.YtgmmfpdekefamaaGreatDoor

namespace Go.Proofs.YtgmmfpdekefamaaGreatDoor
open Go.RowKit
set_option linter.unusedVariables false
set_option maxRecDepth 100000

theorem rest_cons {s : ByteArray} {i : Nat} (hi : i < s.size) : (s.extract i s.size).data.toList = s.get! i :: (s.data.toList.drop (i + 1)) := by
 have hl : i < s.data.toList.length := by rw [Array.length_toList]; exact hi
 have hz : s.data.toList.length = s.size := by rw [Array.length_toList]; rfl
 have hg : s.get! i = s.data.toList[i] := by
  rw [get_bangA, Array.getElem_toList, Array.getElem?_eq_getElem (by simpa using hl)]
  rfl
 rw [ByteArray.data_extract, Array.toList_extract, List.extract_eq_take_drop, List.take_of_length_le (by rw [List.length_drop]; omega), List.drop_eq_getElem_cons hl, hg]
theorem u8_of {b : UInt8} {n : Nat} (h : b.toNat = n) (hn : n < 256) : b = n.toUInt8 := by
 apply UInt8.toNat_inj.1
 rw [h]
 have : (n.toUInt8).toNat = n % 256 := by simp
 omega
theorem find_two (b : UInt8) (l : List UInt8) (h : b = 61 ∨ b = 43) : sgL.find? (fun x => Lib.hasPrefix (b :: b :: l) x.data.toList) = some ⟨#[b, b]⟩ := by
 rcases h with rfl | rfl
 ·simp [sgL, Lib.hasPrefix, List.isPrefixOf]
 ·simp [sgL, Lib.hasPrefix, List.isPrefixOf]
theorem find_one (b : UInt8) (l : List UInt8) (h : b = 40 ∨ b = 41 ∨ b = 91 ∨ b = 93 ∨ b = 44 ∨ b = 60 ∨ b = 45 ∨ b = 42 ∨ b = 47 ∨ b = 37) : sgL.find? (fun x => Lib.hasPrefix (b :: l) x.data.toList) = some ⟨#[b]⟩ := by
 rcases h with rfl | rfl | rfl | rfl | rfl | rfl | rfl | rfl | rfl | rfl
 all_goals simp [sgL, Lib.hasPrefix, List.find?, List.isPrefixOf]
theorem find_eqp (b : UInt8) (l : List UInt8) (h : b = 61 ∨ b = 43) (hl : [b].isPrefixOf l = false) : sgL.find? (fun x => Lib.hasPrefix (b :: l) x.data.toList) = some ⟨#[b]⟩ := by
 rcases h with rfl | rfl
 ·simp [sgL, Lib.hasPrefix, List.find?, List.isPrefixOf, hl]
 ·simp [sgL, Lib.hasPrefix, List.find?, List.isPrefixOf, hl]
theorem drop_cons1 {s : ByteArray} {i : Nat} (hi : i < s.size) : s.data.toList.drop i = s.get! i :: s.data.toList.drop (i + 1) := by
 have hl : i < s.data.toList.length := by rw [Array.length_toList]; exact hi
 have hg : s.get! i = s.data.toList[i] := by
  rw [get_bangA, Array.getElem_toList, Array.getElem?_eq_getElem (by simpa using hl)]
  rfl
 rw [List.drop_eq_getElem_cons hl, hg]
theorem sg_find {s : ByteArray} {i : Nat} (hi : i < s.size) (h : 0 < sgnE s i) : sgL.find? (prA s i) = some (s.extract i (i + sgnE s i)) := by
 have hz : s.data.toList.length = s.size := by rw [Array.length_toList]; rfl
 have hp : prA s i = fun x => Lib.hasPrefix (s.get! i :: s.data.toList.drop (i + 1)) x.data.toList := by
  funext x
  unfold prA
  rw [rest_cons hi]
 rw [hp]
 unfold sgnE at h ⊢
 by_cases h2 : i + 1 < s.size ∧ (((s.get! i).toNat = 61 ∧ (s.get! (i + 1)).toNat = 61) ∨ ((s.get! i).toNat = 43 ∧ (s.get! (i + 1)).toNat = 43))
 ·rw [if_pos h2]
  have hb : s.get! (i + 1) = s.get! i := by
   apply UInt8.toNat_inj.1
   rcases h2.2 with ⟨a, b⟩ | ⟨a, b⟩ <;> omega
  have hx : s.extract i (i + 2) = ⟨#[s.get! i, s.get! i]⟩ := at_extract (s := s) (i := i) (x := ⟨#[s.get! i, s.get! i]⟩) (At.cons.2 ⟨⟨hi, rfl⟩, At.one.2 ⟨h2.1, hb⟩⟩) (by omega)
  rw [hx, drop_cons1 h2.1, hb]
  refine find_two _ _ ?_
  rcases h2.2 with ⟨a, _⟩ | ⟨a, _⟩
  ·exact .inl (u8_of (n := 61) a (by decide))
  ·exact .inr (u8_of (n := 43) a (by decide))
 ·rw [if_neg h2] at h ⊢
  by_cases hb : sgnB (s.get! i).toNat = true
  ·rw [if_pos hb]
   have hx : s.extract i (i + 1) = ⟨#[s.get! i]⟩ := at_extract (s := s) (i := i) (x := ⟨#[s.get! i]⟩) (At.one.2 ⟨hi, rfl⟩) (by omega)
   rw [hx]
   by_cases h6 : (s.get! i).toNat = 61 ∨ (s.get! i).toNat = 43
   ·refine find_eqp _ _ (h6.imp (fun a => u8_of (n := 61) a (by decide)) (fun a => u8_of (n := 43) a (by decide))) ?_
    by_cases h1 : i + 1 < s.size
    ·rw [drop_cons1 h1]
     have hne : (s.get! i == s.get! (i + 1)) = false := by
      rw [beq_eq_false_iff_ne]
      intro e
      refine h2 ⟨h1, ?_⟩
      rw [← e]
      rcases h6 with a | a
      ·exact .inl ⟨a, a⟩
      ·exact .inr ⟨a, a⟩
     simp [List.isPrefixOf, hne]
    ·rw [List.drop_eq_nil_of_le (by omega)]
     rfl
   ·refine find_one _ _ ?_
    unfold sgnB at hb
    simp only [Bool.or_eq_true, beq_iff_eq] at hb
    have k : ∀ n : Nat, n < 256 → (s.get! i).toNat = n → s.get! i = n.toUInt8 := fun n hn a => u8_of a hn
    rcases hb with ((((((((((a | a) | a) | a) | a) | a) | a) | a) | a) | a) | a) | a
    ·exact .inl (k 40 (by omega) a)
    ·exact .inr (.inl (k 41 (by omega) a))
    ·exact .inr (.inr (.inl (k 91 (by omega) a)))
    ·exact .inr (.inr (.inr (.inl (k 93 (by omega) a))))
    ·exact .inr (.inr (.inr (.inr (.inl (k 44 (by omega) a)))))
    ·exact absurd (.inl a) h6
    ·exact .inr (.inr (.inr (.inr (.inr (.inl (k 60 (by omega) a))))))
    ·exact absurd (.inr a) h6
    ·exact .inr (.inr (.inr (.inr (.inr (.inr (.inl (k 45 (by omega) a)))))))
    ·exact .inr (.inr (.inr (.inr (.inr (.inr (.inr (.inl (k 42 (by omega) a))))))))
    ·exact .inr (.inr (.inr (.inr (.inr (.inr (.inr (.inr (.inl (k 47 (by omega) a)))))))))
    ·exact .inr (.inr (.inr (.inr (.inr (.inr (.inr (.inr (.inr (k 37 (by omega) a)))))))))
  ·rw [if_neg hb] at h; omega

end Go.Proofs.YtgmmfpdekefamaaGreatDoor

namespace Go.Proofs.YtgmmfpdekefamaaGreatDoor
open Go.RowKit
set_option linter.unusedVariables false
set_option maxRecDepth 100000

set_option maxHeartbeats 8000000 in
theorem ccut_digit {w : World} {C : Nat} {s : ByteArray} {i jt : Nat} {pk : PTk} (h : CtA w C s i) (hlt2 : i < s.size) (hS : ∀ W, CX w W C s i zeroP → Calls Tryz.prog 232 #[.pointer (some ⟨C, 0, none⟩)] W fun e w' => e = .returned (pkV pk) ∧ CX w w' C s jt zeroP) (hD : digitB ((s.get! i).toNat : Int) = true) :
  Calls Tryz.prog 231 #[.pointer (some ⟨C, 0, none⟩)] w fun e w' => e = .returned (pkV pk) ∧ w.grownBy w' (some C) ∧ CtA w' C s jt := by
 have HX0 : Hid (CX w (w.alloc (.cells #[.int .i64 0, .int .i64 0, .string ⟨#[]⟩, .int .i64 0] 125)) C s i zeroP) := CX.new h
 have c0 := HX0.out.ct.c0
 have c1 := HX0.out.ct.c1
 have hClt := HX0.out.ct.lt
 have c0w := h.c0
 have c1w := h.c1
 have hCltw := h.lt
 have hne : ((i : Int) == (s.size : Int)) = false := by rw [beq_eq_false_iff_ne]; omega
 have hiI : (i : Int) < (s.size : Int) := by omega
 have hgb := get_atA s i hlt2
 obtain ⟨b, hb⟩ : ∃ b : UInt8, s.get! i = b := ⟨_, rfl⟩
 rw [hb] at hgb hD
 obtain ⟨ka, fb, xc, nd⟩ := pk
 have HS : Hid (∀ W, CX w W C s i zeroP → Calls Tryz.prog 232 #[.pointer (some ⟨C, 0, none⟩)] W fun e w' => e = .returned (.agg #[.int .i64 ka, .int .i64 (fb : Int), .string xc, .int .i64 nd]) ∧ CX w w' C s jt zeroP) := hS
 have HDi : Hid (∀ w, Calls Tryz.prog 176 #[.int .u8 (b.toNat : Int)] w fun e w' => e = .returned (.bool (digitB (b.toNat : Int))) ∧ w' = w) := fun w => adigit_any _ w
 rw [hD] at HDi
 clear h hb hS hne
 have hne : ((i : Int) == (s.size : Int)) = false := by rw [beq_eq_false_iff_ne]; omega
 go_enter Tryz.func231, Tryz.ntmps231
 go_wp2_with fail
 go_quiet (fail)
 have HX1 : Hid (CX w ((w.alloc (.cells #[.int .i64 0, .int .i64 0, .string ⟨#[]⟩, .int .i64 0] 125)).drewN nq) C s i zeroP) := HX0.out.drewN nq
 generalize (w.alloc (.cells #[.int .i64 0, .int .i64 0, .string ⟨#[]⟩, .int .i64 0] 125)).drewN nq = w1 at *
 clear c0 c1 hClt HX0
 have c0 := HX1.out.ct.c0
 have c1 := HX1.out.ct.c1
 have hClt := HX1.out.ct.lt
 go_wp2_with fail
 go_quiet (fail)
 have HX2 : Hid (CX w (w1.drewN nq) C s i zeroP) := HX1.out.drewN nq
 generalize w1.drewN nq = w2 at *
 clear c0 c1 hClt HX1 c0w c1w hCltw
 go_wp2_with fail
 go_at_call 176
 refine (HDi.out _).mono ?_
 rintro e wq ⟨rfl, hwq⟩
 obtain rfl := hwq.symm
 clear hwq HDi
 go_wp2_with fail
 go_at_call 232
 refine (HS.out _ HX2.out).mono ?_
 rintro e w3 ⟨rfl, hX3⟩
 clear HS HX2
 obtain ⟨W, hW, hXW⟩ := hX3.fin ⟨ka, fb, xc, nd⟩
 obtain ⟨c0, c1, c2, c3⟩ := hX3.box.cells
 have f0 := hX3.box.fz 0
 have f1 := hX3.box.fz 1
 have f2 := hX3.box.fz 2
 have f3 := hX3.box.fz 3
 obtain ⟨r0, r1, r2, r3⟩ := hXW.box.cells
 simp only at r0 r1 r2 r3
 have HW : Hid (putK w3 w.heap.size ⟨ka, fb, xc, nd⟩ = W) := hW
 have HXW : Hid (CX w W C s jt ⟨ka, fb, xc, nd⟩) := hXW
 clear hW hXW hX3 
 go_wp2
 have hW := HW.out
 unfold putK at hW
 rw [hW]
 refine bodyPost_ret (v := pkV ⟨ka, fb, xc, nd⟩) ?_ rfl ?_
 ·simp [results, go_sem, r0, r1, r2, r3, pkV]
 ·exact ⟨rfl, HXW.out.gr, HXW.out.ct⟩
set_option maxHeartbeats 8000000 in
theorem ccut_word {w : World} {C : Nat} {s : ByteArray} {i jt : Nat} {pk : PTk} (h : CtA w C s i) (hlt2 : i < s.size) (hS : ∀ W, CX w W C s i zeroP → Calls Tryz.prog 233 #[.pointer (some ⟨C, 0, none⟩)] W fun e w' => e = .returned (pkV pk) ∧ CX w w' C s jt zeroP) (hD : digitB ((s.get! i).toNat : Int) = false) (hM : smallB ((s.get! i).toNat : Int) = true) :
  Calls Tryz.prog 231 #[.pointer (some ⟨C, 0, none⟩)] w fun e w' => e = .returned (pkV pk) ∧ w.grownBy w' (some C) ∧ CtA w' C s jt := by
 have HX0 : Hid (CX w (w.alloc (.cells #[.int .i64 0, .int .i64 0, .string ⟨#[]⟩, .int .i64 0] 125)) C s i zeroP) := CX.new h
 have c0 := HX0.out.ct.c0
 have c1 := HX0.out.ct.c1
 have hClt := HX0.out.ct.lt
 have c0w := h.c0
 have c1w := h.c1
 have hCltw := h.lt
 have hne : ((i : Int) == (s.size : Int)) = false := by rw [beq_eq_false_iff_ne]; omega
 have hiI : (i : Int) < (s.size : Int) := by omega
 have hgb := get_atA s i hlt2
 obtain ⟨b, hb⟩ : ∃ b : UInt8, s.get! i = b := ⟨_, rfl⟩
 rw [hb] at hgb hD hM
 obtain ⟨ka, fb, xc, nd⟩ := pk
 have HS : Hid (∀ W, CX w W C s i zeroP → Calls Tryz.prog 233 #[.pointer (some ⟨C, 0, none⟩)] W fun e w' => e = .returned (.agg #[.int .i64 ka, .int .i64 (fb : Int), .string xc, .int .i64 nd]) ∧ CX w w' C s jt zeroP) := hS
 have HDi : Hid (∀ w, Calls Tryz.prog 176 #[.int .u8 (b.toNat : Int)] w fun e w' => e = .returned (.bool (digitB (b.toNat : Int))) ∧ w' = w) := fun w => adigit_any _ w
 have HSm : Hid (∀ w, Calls Tryz.prog 152 #[.int .u8 (b.toNat : Int)] w fun e w' => e = .returned (.bool (smallB (b.toNat : Int))) ∧ w' = w) := fun w => asmall_any _ w
 rw [hD] at HDi
 rw [hM] at HSm
 clear h hb hS hne
 have hne : ((i : Int) == (s.size : Int)) = false := by rw [beq_eq_false_iff_ne]; omega
 go_enter Tryz.func231, Tryz.ntmps231
 go_wp2_with fail
 go_quiet (fail)
 have HX1 : Hid (CX w ((w.alloc (.cells #[.int .i64 0, .int .i64 0, .string ⟨#[]⟩, .int .i64 0] 125)).drewN nq) C s i zeroP) := HX0.out.drewN nq
 generalize (w.alloc (.cells #[.int .i64 0, .int .i64 0, .string ⟨#[]⟩, .int .i64 0] 125)).drewN nq = w1 at *
 clear c0 c1 hClt HX0
 have c0 := HX1.out.ct.c0
 have c1 := HX1.out.ct.c1
 have hClt := HX1.out.ct.lt
 go_wp2_with fail
 go_quiet (fail)
 have HX2 : Hid (CX w (w1.drewN nq) C s i zeroP) := HX1.out.drewN nq
 generalize w1.drewN nq = w2 at *
 clear c0 c1 hClt HX1 c0w c1w hCltw
 go_wp2_with fail
 go_at_call 176
 refine (HDi.out _).mono ?_
 rintro e wq ⟨rfl, hwq⟩
 obtain rfl := hwq.symm
 clear hwq HDi
 go_wp2_with fail
 go_at_call 152
 refine (HSm.out _).mono ?_
 rintro e wq ⟨rfl, hwq⟩
 obtain rfl := hwq.symm
 clear hwq HSm
 go_wp2_with fail
 go_at_call 233
 refine (HS.out _ HX2.out).mono ?_
 rintro e w3 ⟨rfl, hX3⟩
 clear HS HX2
 obtain ⟨W, hW, hXW⟩ := hX3.fin ⟨ka, fb, xc, nd⟩
 obtain ⟨c0, c1, c2, c3⟩ := hX3.box.cells
 have f0 := hX3.box.fz 0
 have f1 := hX3.box.fz 1
 have f2 := hX3.box.fz 2
 have f3 := hX3.box.fz 3
 obtain ⟨r0, r1, r2, r3⟩ := hXW.box.cells
 simp only at r0 r1 r2 r3
 have HW : Hid (putK w3 w.heap.size ⟨ka, fb, xc, nd⟩ = W) := hW
 have HXW : Hid (CX w W C s jt ⟨ka, fb, xc, nd⟩) := hXW
 clear hW hXW hX3 
 go_wp2
 have hW := HW.out
 unfold putK at hW
 rw [hW]
 refine bodyPost_ret (v := pkV ⟨ka, fb, xc, nd⟩) ?_ rfl ?_
 ·simp [results, go_sem, r0, r1, r2, r3, pkV]
 ·exact ⟨rfl, HXW.out.gr, HXW.out.ct⟩
set_option maxHeartbeats 8000000 in
theorem ccut_place {w : World} {C : Nat} {s : ByteArray} {i jt : Nat} {pk : PTk} (h : CtA w C s i) (hlt2 : i < s.size) (hS : ∀ W, CX w W C s i zeroP → Calls Tryz.prog 234 #[.pointer (some ⟨C, 0, none⟩)] W fun e w' => e = .returned (pkV pk) ∧ CX w w' C s jt zeroP) (hD : digitB ((s.get! i).toNat : Int) = false) (hM : smallB ((s.get! i).toNat : Int) = false) (h36 : ((((s.get! i).toNat : Int)) == 36) = true) :
  Calls Tryz.prog 231 #[.pointer (some ⟨C, 0, none⟩)] w fun e w' => e = .returned (pkV pk) ∧ w.grownBy w' (some C) ∧ CtA w' C s jt := by
 have HX0 : Hid (CX w (w.alloc (.cells #[.int .i64 0, .int .i64 0, .string ⟨#[]⟩, .int .i64 0] 125)) C s i zeroP) := CX.new h
 have c0 := HX0.out.ct.c0
 have c1 := HX0.out.ct.c1
 have hClt := HX0.out.ct.lt
 have c0w := h.c0
 have c1w := h.c1
 have hCltw := h.lt
 have hne : ((i : Int) == (s.size : Int)) = false := by rw [beq_eq_false_iff_ne]; omega
 have hiI : (i : Int) < (s.size : Int) := by omega
 have hgb := get_atA s i hlt2
 obtain ⟨b, hb⟩ : ∃ b : UInt8, s.get! i = b := ⟨_, rfl⟩
 rw [hb] at hgb hD hM h36
 obtain ⟨ka, fb, xc, nd⟩ := pk
 have HS : Hid (∀ W, CX w W C s i zeroP → Calls Tryz.prog 234 #[.pointer (some ⟨C, 0, none⟩)] W fun e w' => e = .returned (.agg #[.int .i64 ka, .int .i64 (fb : Int), .string xc, .int .i64 nd]) ∧ CX w w' C s jt zeroP) := hS
 have HDi : Hid (∀ w, Calls Tryz.prog 176 #[.int .u8 (b.toNat : Int)] w fun e w' => e = .returned (.bool (digitB (b.toNat : Int))) ∧ w' = w) := fun w => adigit_any _ w
 have HSm : Hid (∀ w, Calls Tryz.prog 152 #[.int .u8 (b.toNat : Int)] w fun e w' => e = .returned (.bool (smallB (b.toNat : Int))) ∧ w' = w) := fun w => asmall_any _ w
 rw [hD] at HDi
 rw [hM] at HSm
 clear h hb hS hne
 have hne : ((i : Int) == (s.size : Int)) = false := by rw [beq_eq_false_iff_ne]; omega
 go_enter Tryz.func231, Tryz.ntmps231
 go_wp2_with fail
 go_quiet (fail)
 have HX1 : Hid (CX w ((w.alloc (.cells #[.int .i64 0, .int .i64 0, .string ⟨#[]⟩, .int .i64 0] 125)).drewN nq) C s i zeroP) := HX0.out.drewN nq
 generalize (w.alloc (.cells #[.int .i64 0, .int .i64 0, .string ⟨#[]⟩, .int .i64 0] 125)).drewN nq = w1 at *
 clear c0 c1 hClt HX0
 have c0 := HX1.out.ct.c0
 have c1 := HX1.out.ct.c1
 have hClt := HX1.out.ct.lt
 go_wp2_with fail
 go_quiet (fail)
 have HX2 : Hid (CX w (w1.drewN nq) C s i zeroP) := HX1.out.drewN nq
 generalize w1.drewN nq = w2 at *
 clear c0 c1 hClt HX1 c0w c1w hCltw
 go_wp2_with fail
 go_at_call 176
 refine (HDi.out _).mono ?_
 rintro e wq ⟨rfl, hwq⟩
 obtain rfl := hwq.symm
 clear hwq HDi
 go_wp2_with fail
 go_at_call 152
 refine (HSm.out _).mono ?_
 rintro e wq ⟨rfl, hwq⟩
 obtain rfl := hwq.symm
 clear hwq HSm
 go_wp2_with fail
 go_at_call 234
 refine (HS.out _ HX2.out).mono ?_
 rintro e w3 ⟨rfl, hX3⟩
 clear HS HX2
 obtain ⟨W, hW, hXW⟩ := hX3.fin ⟨ka, fb, xc, nd⟩
 obtain ⟨c0, c1, c2, c3⟩ := hX3.box.cells
 have f0 := hX3.box.fz 0
 have f1 := hX3.box.fz 1
 have f2 := hX3.box.fz 2
 have f3 := hX3.box.fz 3
 obtain ⟨r0, r1, r2, r3⟩ := hXW.box.cells
 simp only at r0 r1 r2 r3
 have HW : Hid (putK w3 w.heap.size ⟨ka, fb, xc, nd⟩ = W) := hW
 have HXW : Hid (CX w W C s jt ⟨ka, fb, xc, nd⟩) := hXW
 clear hW hXW hX3 
 go_wp2
 have hW := HW.out
 unfold putK at hW
 rw [hW]
 refine bodyPost_ret (v := pkV ⟨ka, fb, xc, nd⟩) ?_ rfl ?_
 ·simp [results, go_sem, r0, r1, r2, r3, pkV]
 ·exact ⟨rfl, HXW.out.gr, HXW.out.ct⟩
set_option maxHeartbeats 8000000 in
theorem ccut_quoted {w : World} {C : Nat} {s : ByteArray} {i jt : Nat} {pk : PTk} (h : CtA w C s i) (hlt2 : i < s.size) (hS : ∀ W, CX w W C s i zeroP → Calls Tryz.prog 235 #[.pointer (some ⟨C, 0, none⟩)] W fun e w' => e = .returned (pkV pk) ∧ CX w w' C s jt zeroP) (hD : digitB ((s.get! i).toNat : Int) = false) (hM : smallB ((s.get! i).toNat : Int) = false) (h36 : ((((s.get! i).toNat : Int)) == 36) = false) (h34 : ((((s.get! i).toNat : Int)) == 34) = true) :
  Calls Tryz.prog 231 #[.pointer (some ⟨C, 0, none⟩)] w fun e w' => e = .returned (pkV pk) ∧ w.grownBy w' (some C) ∧ CtA w' C s jt := by
 have HX0 : Hid (CX w (w.alloc (.cells #[.int .i64 0, .int .i64 0, .string ⟨#[]⟩, .int .i64 0] 125)) C s i zeroP) := CX.new h
 have c0 := HX0.out.ct.c0
 have c1 := HX0.out.ct.c1
 have hClt := HX0.out.ct.lt
 have c0w := h.c0
 have c1w := h.c1
 have hCltw := h.lt
 have hne : ((i : Int) == (s.size : Int)) = false := by rw [beq_eq_false_iff_ne]; omega
 have hiI : (i : Int) < (s.size : Int) := by omega
 have hgb := get_atA s i hlt2
 obtain ⟨b, hb⟩ : ∃ b : UInt8, s.get! i = b := ⟨_, rfl⟩
 rw [hb] at hgb hD hM h36 h34
 obtain ⟨ka, fb, xc, nd⟩ := pk
 have HS : Hid (∀ W, CX w W C s i zeroP → Calls Tryz.prog 235 #[.pointer (some ⟨C, 0, none⟩)] W fun e w' => e = .returned (.agg #[.int .i64 ka, .int .i64 (fb : Int), .string xc, .int .i64 nd]) ∧ CX w w' C s jt zeroP) := hS
 have HDi : Hid (∀ w, Calls Tryz.prog 176 #[.int .u8 (b.toNat : Int)] w fun e w' => e = .returned (.bool (digitB (b.toNat : Int))) ∧ w' = w) := fun w => adigit_any _ w
 have HSm : Hid (∀ w, Calls Tryz.prog 152 #[.int .u8 (b.toNat : Int)] w fun e w' => e = .returned (.bool (smallB (b.toNat : Int))) ∧ w' = w) := fun w => asmall_any _ w
 rw [hD] at HDi
 rw [hM] at HSm
 clear h hb hS hne
 have hne : ((i : Int) == (s.size : Int)) = false := by rw [beq_eq_false_iff_ne]; omega
 go_enter Tryz.func231, Tryz.ntmps231
 go_wp2_with fail
 go_quiet (fail)
 have HX1 : Hid (CX w ((w.alloc (.cells #[.int .i64 0, .int .i64 0, .string ⟨#[]⟩, .int .i64 0] 125)).drewN nq) C s i zeroP) := HX0.out.drewN nq
 generalize (w.alloc (.cells #[.int .i64 0, .int .i64 0, .string ⟨#[]⟩, .int .i64 0] 125)).drewN nq = w1 at *
 clear c0 c1 hClt HX0
 have c0 := HX1.out.ct.c0
 have c1 := HX1.out.ct.c1
 have hClt := HX1.out.ct.lt
 go_wp2_with fail
 go_quiet (fail)
 have HX2 : Hid (CX w (w1.drewN nq) C s i zeroP) := HX1.out.drewN nq
 generalize w1.drewN nq = w2 at *
 clear c0 c1 hClt HX1 c0w c1w hCltw
 go_wp2_with fail
 go_at_call 176
 refine (HDi.out _).mono ?_
 rintro e wq ⟨rfl, hwq⟩
 obtain rfl := hwq.symm
 clear hwq HDi
 go_wp2_with fail
 go_at_call 152
 refine (HSm.out _).mono ?_
 rintro e wq ⟨rfl, hwq⟩
 obtain rfl := hwq.symm
 clear hwq HSm
 go_wp2_with fail
 go_at_call 235
 refine (HS.out _ HX2.out).mono ?_
 rintro e w3 ⟨rfl, hX3⟩
 clear HS HX2
 obtain ⟨W, hW, hXW⟩ := hX3.fin ⟨ka, fb, xc, nd⟩
 obtain ⟨c0, c1, c2, c3⟩ := hX3.box.cells
 have f0 := hX3.box.fz 0
 have f1 := hX3.box.fz 1
 have f2 := hX3.box.fz 2
 have f3 := hX3.box.fz 3
 obtain ⟨r0, r1, r2, r3⟩ := hXW.box.cells
 simp only at r0 r1 r2 r3
 have HW : Hid (putK w3 w.heap.size ⟨ka, fb, xc, nd⟩ = W) := hW
 have HXW : Hid (CX w W C s jt ⟨ka, fb, xc, nd⟩) := hXW
 clear hW hXW hX3 
 go_wp2
 have hW := HW.out
 unfold putK at hW
 rw [hW]
 refine bodyPost_ret (v := pkV ⟨ka, fb, xc, nd⟩) ?_ rfl ?_
 ·simp [results, go_sem, r0, r1, r2, r3, pkV]
 ·exact ⟨rfl, HXW.out.gr, HXW.out.ct⟩
set_option maxHeartbeats 8000000 in
theorem ccut_sign {w : World} {C : Nat} {s : ByteArray} {i jt : Nat} {pk : PTk} (h : CtA w C s i) (hlt2 : i < s.size) (hS : ∀ W, CX w W C s i zeroP → Calls Tryz.prog 236 #[.pointer (some ⟨C, 0, none⟩)] W fun e w' => e = .returned (pkV pk) ∧ CX w w' C s jt zeroP) (hD : digitB ((s.get! i).toNat : Int) = false) (hM : smallB ((s.get! i).toNat : Int) = false) (h36 : ((((s.get! i).toNat : Int)) == 36) = false) (h34 : ((((s.get! i).toNat : Int)) == 34) = false) :
  Calls Tryz.prog 231 #[.pointer (some ⟨C, 0, none⟩)] w fun e w' => e = .returned (pkV pk) ∧ w.grownBy w' (some C) ∧ CtA w' C s jt := by
 have HX0 : Hid (CX w (w.alloc (.cells #[.int .i64 0, .int .i64 0, .string ⟨#[]⟩, .int .i64 0] 125)) C s i zeroP) := CX.new h
 have c0 := HX0.out.ct.c0
 have c1 := HX0.out.ct.c1
 have hClt := HX0.out.ct.lt
 have c0w := h.c0
 have c1w := h.c1
 have hCltw := h.lt
 have hne : ((i : Int) == (s.size : Int)) = false := by rw [beq_eq_false_iff_ne]; omega
 have hiI : (i : Int) < (s.size : Int) := by omega
 have hgb := get_atA s i hlt2
 obtain ⟨b, hb⟩ : ∃ b : UInt8, s.get! i = b := ⟨_, rfl⟩
 rw [hb] at hgb hD hM h36 h34
 obtain ⟨ka, fb, xc, nd⟩ := pk
 have HS : Hid (∀ W, CX w W C s i zeroP → Calls Tryz.prog 236 #[.pointer (some ⟨C, 0, none⟩)] W fun e w' => e = .returned (.agg #[.int .i64 ka, .int .i64 (fb : Int), .string xc, .int .i64 nd]) ∧ CX w w' C s jt zeroP) := hS
 have HDi : Hid (∀ w, Calls Tryz.prog 176 #[.int .u8 (b.toNat : Int)] w fun e w' => e = .returned (.bool (digitB (b.toNat : Int))) ∧ w' = w) := fun w => adigit_any _ w
 have HSm : Hid (∀ w, Calls Tryz.prog 152 #[.int .u8 (b.toNat : Int)] w fun e w' => e = .returned (.bool (smallB (b.toNat : Int))) ∧ w' = w) := fun w => asmall_any _ w
 rw [hD] at HDi
 rw [hM] at HSm
 clear h hb hS hne
 have hne : ((i : Int) == (s.size : Int)) = false := by rw [beq_eq_false_iff_ne]; omega
 go_enter Tryz.func231, Tryz.ntmps231
 go_wp2_with fail
 go_quiet (fail)
 have HX1 : Hid (CX w ((w.alloc (.cells #[.int .i64 0, .int .i64 0, .string ⟨#[]⟩, .int .i64 0] 125)).drewN nq) C s i zeroP) := HX0.out.drewN nq
 generalize (w.alloc (.cells #[.int .i64 0, .int .i64 0, .string ⟨#[]⟩, .int .i64 0] 125)).drewN nq = w1 at *
 clear c0 c1 hClt HX0
 have c0 := HX1.out.ct.c0
 have c1 := HX1.out.ct.c1
 have hClt := HX1.out.ct.lt
 go_wp2_with fail
 go_quiet (fail)
 have HX2 : Hid (CX w (w1.drewN nq) C s i zeroP) := HX1.out.drewN nq
 generalize w1.drewN nq = w2 at *
 clear c0 c1 hClt HX1 c0w c1w hCltw
 go_wp2_with fail
 go_at_call 176
 refine (HDi.out _).mono ?_
 rintro e wq ⟨rfl, hwq⟩
 obtain rfl := hwq.symm
 clear hwq HDi
 go_wp2_with fail
 go_at_call 152
 refine (HSm.out _).mono ?_
 rintro e wq ⟨rfl, hwq⟩
 obtain rfl := hwq.symm
 clear hwq HSm
 go_wp2_with fail
 go_at_call 236
 refine (HS.out _ HX2.out).mono ?_
 rintro e w3 ⟨rfl, hX3⟩
 clear HS HX2
 obtain ⟨W, hW, hXW⟩ := hX3.fin ⟨ka, fb, xc, nd⟩
 obtain ⟨c0, c1, c2, c3⟩ := hX3.box.cells
 have f0 := hX3.box.fz 0
 have f1 := hX3.box.fz 1
 have f2 := hX3.box.fz 2
 have f3 := hX3.box.fz 3
 obtain ⟨r0, r1, r2, r3⟩ := hXW.box.cells
 simp only at r0 r1 r2 r3
 have HW : Hid (putK w3 w.heap.size ⟨ka, fb, xc, nd⟩ = W) := hW
 have HXW : Hid (CX w W C s jt ⟨ka, fb, xc, nd⟩) := hXW
 clear hW hXW hX3 
 go_wp2
 have hW := HW.out
 unfold putK at hW
 rw [hW]
 refine bodyPost_ret (v := pkV ⟨ka, fb, xc, nd⟩) ?_ rfl ?_
 ·simp [results, go_sem, r0, r1, r2, r3, pkV]
 ·exact ⟨rfl, HXW.out.gr, HXW.out.ct⟩

end Go.Proofs.YtgmmfpdekefamaaGreatDoor
