/- Texts of the proof, put together: ACut, ACutG. -/
import Derived.Test.YtgmmfpdekefamaaGreatDoorAt10
import Derived.Test.YtgmmfpdekefamaaGreatDoorAt04
namespace Go.Proofs.YtgmmfpdekefamaaGreatDoor
open Go.RowKit
set_option linter.unusedVariables false
set_option maxRecDepth 100000

/-- the two blocks of Cut: what it answers, and the token that it makes -/
structure CutB (w0 w : World) (t : Tok) : Prop where
 below : Below w0.heap.size w0 w
 box : TokAt w (w0.heap.size + 1) t
 res : ∃ u, TokAt w w0.heap.size u
theorem CutB.new (w : World) (u t : Tok) : CutB w ((w.alloc (.cells #[.int .i64 u.kind, .string u.text, .int .i64 u.fr, .int .i64 u.fin, .int .i64 u.num] 71)).alloc (.cells #[.int .i64 t.kind, .string t.text, .int .i64 t.fr, .int .i64 t.fin, .int .i64 t.num] 71)) t := by
 obtain ⟨h1, h2, t', h3⟩ := TwoT.new w u t
 have := TokAt.new (w.alloc (.cells #[.int .i64 u.kind, .string u.text, .int .i64 u.fr, .int .i64 u.fin, .int .i64 u.num] 71)) t
 rw [alloc_size] at this
 exact ⟨h1, this, u, h2⟩
theorem CutB.after {w0 w w' : World} {t : Tok} (h : CutB w0 w t) (hb : Below w.heap.size w w') : CutB w0 w' t := by
 obtain ⟨u, hu⟩ := h.res
 exact ⟨h.below.trans (hb.mono h.below.size), h.box.below hb h.box.lt, u, hu.below hb hu.lt⟩
theorem CutB.set {w0 w : World} {t t' : Tok} (h : CutB w0 w t) (j : Nat) (v : Value) (ht : TokAt (w.setCell ⟨w0.heap.size + 1, j, none⟩ v) (w0.heap.size + 1) t') : CutB w0 (w.setCell ⟨w0.heap.size + 1, j, none⟩ v) t' := by
 obtain ⟨u, hu⟩ := h.res
 exact ⟨belowSetA h.below (by omega) j v, ht, u, hu.other (by omega) j v⟩
/-- answering a token -/
theorem CutB.ret {w0 w : World} {t : Tok} (h : CutB w0 w t) (t' : Tok) : ∃ W, putT w w0.heap.size t' = W ∧ Below w0.heap.size w0 W ∧ TokAt W w0.heap.size t' := by
 obtain ⟨u, hu⟩ := h.res
 exact ⟨_, rfl, below_putT h.below (Nat.le_refl _) t', hu.put t'⟩
theorem CutB.resFz {w0 w : World} {t : Tok} (h : CutB w0 w t) : (∀ j, w.frozen? ⟨w0.heap.size, j, none⟩ = false) ∧ ∃ a b c d e, w.cell? ⟨w0.heap.size, 0, none⟩ = some a ∧ w.cell? ⟨w0.heap.size, 1, none⟩ = some b ∧ w.cell? ⟨w0.heap.size, 2, none⟩ = some c ∧ w.cell? ⟨w0.heap.size, 3, none⟩ = some d ∧ w.cell? ⟨w0.heap.size, 4, none⟩ = some e := by
 obtain ⟨u, hu⟩ := h.res
 obtain ⟨d0, d1, d2, d3, d4⟩ := hu.cells
 exact ⟨hu.fz, _, _, _, _, _, d0, d1, d2, d3, d4⟩

/-- where the token in a block ends -/
def toOf (w : World) (B : Nat) : Nat := match w.cell? ⟨B, 3, none⟩ with
 | some (.int _ q) => q.toNat
 | _ => 0
theorem toOf_at {w : World} {B : Nat} {t : Tok} (h : TokAt w B t) : toOf w B = t.fin := by
 obtain ⟨_, _, _, c3, _⟩ := h.cells
 simp [toOf, c3]

set_option maxHeartbeats 8000000 in
theorem rcut_e (s : ByteArray) (p : Nat) (hp : p ≤ s.size) (hs : s.size ≤ 70000) (w : World) :
  Calls Tryz.prog 55 #[.string s, .int .i64 p, .bool false] w (CutP s (cutE s p) w) := by
 have hrun := run_le blankB s hp
 unfold cutE
 have HB : Hid (∀ w, Calls Tryz.prog 109 #[.string s, .int .i64 p, .bool false] w fun e w' => e = .returned (.tuple #[.int .i64 (run blankB s p), .bool true]) ∧ w' = w) := fun w => rblanks_e s p w hp (by omega)
 generalize run blankB s p = i at *
 have HT0 : Hid (CutB w ((w.alloc (.cells #[.int .i64 0, .string ⟨#[]⟩, .int .i64 0, .int .i64 0, .int .i64 0] 71)).alloc (.cells #[.int .i64 0, .string ⟨#[]⟩, .int .i64 i, .int .i64 i, .int .i64 0] 71)) ⟨0, emptyT, i, i, 0⟩) := CutB.new w zeroT ⟨0, emptyT, i, i, 0⟩
 generalize hres : cutAt s i = res
 have HR : Hid (cutAt s i = res) := hres
 clear hres
 go_enter Tryz.func55, Tryz.ntmps55
 go_wp2_with fail
 go_at_call 109
 refine (HB.out _).mono ?_
 rintro e w' ⟨rfl, rfl⟩
 clear HB
 by_cases hi : i < s.size
 ·have hne : ((i : Int) == (s.size : Int)) = false := by rw [beq_eq_false_iff_ne]; omega
  have hb := get_atA s i hi
  have HD : Hid (∀ w, Calls Tryz.prog 110 #[.int .u8 ((s.get! i).toNat : Int)] w fun e w' => e = .returned (.bool (digitB ((s.get! i).toNat : Int))) ∧ w' = w) := fun w => rdigit_any _ w
  have HS : Hid (∀ w, Calls Tryz.prog 111 #[.int .u8 ((s.get! i).toNat : Int)] w fun e w' => e = .returned (.bool (smallB ((s.get! i).toNat : Int))) ∧ w' = w) := fun w => rsmall_any _ w
  go_wp2_with fail
  go_at_call 110
  refine (HD.out _).mono ?_
  rintro e w' ⟨rfl, rfl⟩
  go_wp2_with fail
  go_at_call 111
  refine (HS.out _).mono ?_
  rintro e w' ⟨rfl, rfl⟩
  clear HD HS
  cases hd : digitB ((s.get! i).toNat : Int)
  ·cases h36 : (((s.get! i).toNat : Int) == 36)
   ·cases h34 : (((s.get! i).toNat : Int) == 34)
    ·cases hsm : smallB ((s.get! i).toNat : Int)
     ·-- a sign
      have HV : Hid (res = if 0 < sgnE s i then some ⟨6, s.extract i (i + sgnE s i), i, i + sgnE s i, 0⟩ else none) := by
       show _ = _
       rw [← HR.out]
       unfold cutAt
       have e36 : ¬ (s.get! i).toNat = 36 := fun h => by rw [h] at h36; cases h36
       have e34 : ¬ (s.get! i).toNat = 34 := fun h => by rw [h] at h34; cases h34
       rw [if_pos hi, if_neg (by rw [hd]; simp), if_neg e36, if_neg e34, if_neg (by rw [hsm]; simp)]
      have HQ : Hid (∀ w, Calls Tryz.prog 115 #[.string s, .int .i64 i, .bool false] w fun e w' => e = .returned (.string (s.extract i (i + sgnE s i))) ∧ ∃ n, w' = w.drewN n) := fun w => rsign_any s i (by omega) hi w
      have hsl := sgn_le s i hi
      have hxs : (s.extract i (i + sgnE s i)).size = sgnE s i := by rw [ByteArray.size_extract]; omega
      clear HR
      go_wp2_with fail
      generalize (w.alloc (.cells #[.int .i64 0, .string ⟨#[]⟩, .int .i64 0, .int .i64 0, .int .i64 0] 71)).alloc (.cells #[.int .i64 0, .string ⟨#[]⟩, .int .i64 i, .int .i64 i, .int .i64 0] 71) = w2 at *
      go_at_call 115
      refine (HQ.out _).mono ?_
      rintro e w3 ⟨rfl, n, rfl⟩
      clear HQ
      have HT1 : Hid (CutB w (w2.drewN n) ⟨0, emptyT, i, i, 0⟩) := HT0.out.after ⟨rfl, rfl, rfl, Nat.le_refl _, fun _ _ => rfl⟩
      clear HT0
      generalize w2.drewN n = w3 at *
      generalize hsg : sgnE s i = sg at *
      generalize hxg : s.extract i (i + sg) = X at *
      have HXG : Hid (s.extract i (i + sg) = X) := hxg
      clear hxg hsg
      obtain ⟨c0, c1, c2, c3, c4⟩ := HT1.out.box.cells
      simp only at c0 c1 c2 c3 c4
      have f0 := HT1.out.box.fz 0
      have f1 := HT1.out.box.fz 1
      have f3 := HT1.out.box.fz 3
      have HA := HT1.out.set 1 _ (HT1.out.box.set1 X)
      have HB := HA.set 3 _ (HA.box.set3 (i + sg))
      have HC := HB.set 0 _ (HB.box.set0 6)
      by_cases h0 : 0 < sg
      ·have hne2 : (X.toList == []) = false := by
        rw [Lib.toList_data, beq_eq_false_iff_ne]
        intro h
        have h1 : X.data.toList.length = X.size := by simp
        rw [h] at h1
        simp at h1
        omega
       have hne3 : X.toList.isEmpty = false := by rw [List.isEmpty_eq_false_iff]; intro h; rw [h] at hne2; cases hne2
       have hbs : w.heap.size < w.heap.size + 1 := by omega
       have hiw : IntKind.i64.wrap ((i : Int) + (sg : Int)) = ((i + sg : Nat) : Int) := by rw [IntKind.wrap_i64]; omega
       obtain ⟨W, hW, hbW, hTW⟩ := HC.ret ⟨6, X, i, i + sg, 0⟩
       obtain ⟨r0, r1, r2, r3, r4⟩ := hTW.cells
       simp only at r0 r1 r2 r3 r4
       have HW9 : Hid (putT (((w3.setCell ⟨w.heap.size + 1, 1, none⟩ (.string X)).setCell ⟨w.heap.size + 1, 3, none⟩ (.int .i64 ((i + sg : Nat) : Int))).setCell ⟨w.heap.size + 1, 0, none⟩ (.int .i64 6)) w.heap.size ⟨6, X, i, i + sg, 0⟩ = W) := hW
       have HBW : Hid (Below w.heap.size w W) := hbW
       obtain ⟨hfz9, a0, a1, a2, a3, a4, d0, d1, d2, d3, d4⟩ := HT1.out.resFz
       have g0 := hfz9 0
       have g1 := hfz9 1
       have g2 := hfz9 2
       have g3 := hfz9 3
       have g4 := hfz9 4
       clear hW hTW hbW hfz9 HA HB HC HT1 
       go_wp2
       have hW := HW9.out
       unfold putT at hW
       simp only [Int.natCast_add] at hW
       rw [hW]
       refine bodyPost_ret (v := tokV ⟨6, X, i, i + sg, 0⟩) ?_ rfl ?_
       ·simp [results, go_sem, r0, r1, r2, r3, r4, tokV]
       ·exact ⟨HBW.out, ⟨6, X, i, i + sg, 0⟩, rfl, .inl ⟨by simp, by rw [HV.out, if_pos h0]⟩, by simp only; omega, by simp only; omega⟩
      ·have hX0 : X = emptyT := by
        have : X.data.size = 0 := by show X.size = 0; omega
        have := Array.eq_empty_of_size_eq_zero this
        cases X
        simp only at this
        subst this
        rfl
       have hne3 : X.toList.isEmpty = true := by rw [hX0, Lib.toList_data]; rfl
       have hne2 : (X.toList == []) = true := by rw [hX0, Lib.toList_data]; rfl
       have HF := HC.set 0 _ (HC.box.set0 7)
       obtain ⟨q0, q1, q2, q3, q4⟩ := HF.box.cells
       simp only [Int.natCast_add] at q0 q1 q2 q3 q4
       have hbs : w.heap.size < w.heap.size + 1 := by omega
       have hiw : IntKind.i64.wrap ((i : Int) + (sg : Int)) = ((i + sg : Nat) : Int) := by rw [IntKind.wrap_i64]; omega
       obtain ⟨W, hW, hbW, hTW⟩ := HF.ret ⟨7, X, i, i + sg, 0⟩
       obtain ⟨r0, r1, r2, r3, r4⟩ := hTW.cells
       simp only at r0 r1 r2 r3 r4
       have HW9 : Hid (putT ((((w3.setCell ⟨w.heap.size + 1, 1, none⟩ (.string X)).setCell ⟨w.heap.size + 1, 3, none⟩ (.int .i64 ((i + sg : Nat) : Int))).setCell ⟨w.heap.size + 1, 0, none⟩ (.int .i64 6)).setCell ⟨w.heap.size + 1, 0, none⟩ (.int .i64 7)) w.heap.size ⟨7, X, i, i + sg, 0⟩ = W) := hW
       have HBW : Hid (Below w.heap.size w W) := hbW
       obtain ⟨hfz9, a0, a1, a2, a3, a4, d0, d1, d2, d3, d4⟩ := HT1.out.resFz
       have g0 := hfz9 0
       have g1 := hfz9 1
       have g2 := hfz9 2
       have g3 := hfz9 3
       have g4 := hfz9 4
       clear hW hTW hbW hfz9 HA HB HC HT1 HF hX0
       go_wp2
       have hW := HW9.out
       unfold putT at hW
       simp only [Int.natCast_add] at hW
       rw [hW]
       refine bodyPost_ret (v := tokV ⟨7, X, i, i + sg, 0⟩) ?_ rfl ?_
       ·simp [results, go_sem, r0, r1, r2, r3, r4, tokV]
       ·exact ⟨HBW.out, ⟨7, X, i, i + sg, 0⟩, rfl, .inr ⟨rfl, by rw [HV.out, if_neg h0]⟩, by simp only; omega, by simp only; omega⟩
     ·-- a word
      have HV : Hid (res = some ⟨4, s.extract i (run wordB s i), i, run wordB s i, 0⟩) := by
       show _ = _
       rw [← HR.out]
       unfold cutAt
       have e36 : ¬ (s.get! i).toNat = 36 := fun h => by rw [h] at h36; cases h36
       have e34 : ¬ (s.get! i).toNat = 34 := fun h => by rw [h] at h34; cases h34
       rw [if_pos hi, if_neg (by rw [hd]; simp), if_neg e36, if_neg e34, if_pos hsm]
      clear HR
      go_wp2
      have HT1 : Hid (CutB w ((w.alloc (.cells #[.int .i64 0, .string ⟨#[]⟩, .int .i64 0, .int .i64 0, .int .i64 0] 71)).alloc (.cells #[.int .i64 4, .string ⟨#[]⟩, .int .i64 i, .int .i64 i, .int .i64 0] 71)) ⟨4, emptyT, i, i, 0⟩) := CutB.new w zeroT ⟨4, emptyT, i, i, 0⟩
      generalize (w.alloc (.cells #[.int .i64 0, .string ⟨#[]⟩, .int .i64 0, .int .i64 0, .int .i64 0] 71)).alloc (.cells #[.int .i64 4, .string ⟨#[]⟩, .int .i64 i, .int .i64 i, .int .i64 0] 71) = w2 at *
      clear HT0
      go_loopw [12, 13] (fun _ _ wr => ∃ pos : Nat, i ≤ pos ∧ pos ≤ s.size ∧ Hid (run wordB s pos = run wordB s i) ∧ Hid (CutB w wr ⟨4, emptyT, i, pos, 0⟩)) (fun _ _ wr => s.size - toOf wr (w.heap.size + 1))
      case atStart => exact ⟨i, by omega, by omega, rfl, HT1⟩
      case round =>
       obtain ⟨pos, hip, hps, HRu, HT⟩ := hrel
       obtain ⟨c0, c1, c2, c3, c4⟩ := HT.out.box.cells
       simp only at c0 c1 c2 c3 c4
       have hfz : Hid (∀ j, wr.frozen? ⟨w.heap.size + 1, j, none⟩ = false) := HT.out.box.fz
       have htoO : toOf wr (w.heap.size + 1) = pos := toOf_at HT.out.box
       by_cases hlt : pos < s.size
       ·have hbp := get_atA s pos hlt
        have HD2 : Hid (∀ w, Calls Tryz.prog 110 #[.int .u8 ((s.get! pos).toNat : Int)] w fun e w' => e = .returned (.bool (digitB ((s.get! pos).toNat : Int))) ∧ w' = w) := fun w => rdigit_any _ w
        have HS2 : Hid (∀ w, Calls Tryz.prog 111 #[.int .u8 ((s.get! pos).toNat : Int)] w fun e w' => e = .returned (.bool (smallB ((s.get! pos).toNat : Int))) ∧ w' = w) := fun w => rsmall_any _ w
        have HGo : Hid (wordB ((s.get! pos).toNat : Int) = true → run wordB s (pos + 1) = run wordB s i) := fun h => by rw [← HRu.out]; exact (run_step hlt h).symm
        have HSt : Hid (wordB ((s.get! pos).toNat : Int) = false → run wordB s i = pos) := fun h => by rw [← HRu.out]; exact run_stop fun _ => h
        have HW : Hid (wordB ((s.get! pos).toNat : Int) = (smallB ((s.get! pos).toNat : Int) || digitB ((s.get! pos).toNat : Int) || !(((s.get! pos).toNat : Int) != 95))) := by
         show _ = _
         unfold wordB
         congr 1
         cases h : (((s.get! pos).toNat : Int) != 95)
         ·rw [bne_eq_false_iff_eq] at h; simp [h]
         ·rw [bne_iff_ne] at h; simp [h]
        clear HRu
        go_wp2_with fail
        go_at_call 111
        refine (HS2.out _).mono ?_
        rintro e w' ⟨rfl, hw⟩
        obtain rfl := hw.symm
        clear hw
        go_wp2_with fail
        go_at_call 110
        refine (HD2.out _).mono ?_
        rintro e w' ⟨rfl, hw⟩
        obtain rfl := hw.symm
        clear hw
        clear HS2 HD2
        cases e1 : smallB ((s.get! pos).toNat : Int)
        ·cases e2 : digitB ((s.get! pos).toNat : Int)
         ·cases e3 : (((s.get! pos).toNat : Int) != 95)
          ·have HE : Hid (run wordB s (pos + 1) = run wordB s i) := HGo.out (by rw [HW.out, e1, e2, e3]; rfl)
           have f3 := hfz.out 3
           have HT2 : Hid (CutB w (wr.setCell ⟨w.heap.size + 1, 3, none⟩ (.int .i64 ((pos + 1 : Nat) : Int))) ⟨4, emptyT, i, pos + 1, 0⟩) := HT.out.set 3 _ (HT.out.box.set3 (pos + 1))
           clear HGo HSt HW HT
           go_wp2
           go_roundw
           case rel => exact ⟨pos + 1, by omega, by omega, HE, HT2⟩
           case measure => rw [htoO]; exact Nat.lt_of_le_of_lt (Nat.le_of_eq (congrArg (s.size - ·) (toOf_at HT2.out.box))) (by simp only; omega)
          ·have HE : Hid (run wordB s i = pos) := HSt.out (by rw [HW.out, e1, e2, e3]; rfl)
           clear HGo HSt HW
           have HB3 : Hid (CutB w (wr.setCell ⟨w.heap.size + 1, 1, none⟩ (.string (s.extract i pos))) ⟨4, s.extract i pos, i, pos, 0⟩) := HT.out.set 1 _ (HT.out.box.set1 _)
           have f1 := hfz.out 1
           obtain ⟨W, hW, hbW, hTW⟩ := HB3.out.ret ⟨4, s.extract i pos, i, pos, 0⟩
           obtain ⟨r0, r1, r2, r3, r4⟩ := hTW.cells
           simp only at r0 r1 r2 r3 r4
           have HW9 : Hid (putT (wr.setCell ⟨w.heap.size + 1, 1, none⟩ (.string (s.extract i pos))) w.heap.size ⟨4, s.extract i pos, i, pos, 0⟩ = W) := hW
           have HBW : Hid (Below w.heap.size w W) := hbW
           obtain ⟨hfz9, a0, a1, a2, a3, a4, d0, d1, d2, d3, d4⟩ := HT.out.resFz
           have g0 := hfz9 0
           have g1 := hfz9 1
           have g2 := hfz9 2
           have g3 := hfz9 3
           have g4 := hfz9 4
           have hbs : w.heap.size < w.heap.size + 1 := by omega
           clear hW hTW hbW hfz9 HB3 HT htoO
           go_wp2
           have hW := HW9.out
           unfold putT at hW
           rw [hW]
           refine bodyPost_ret (v := tokV ⟨4, s.extract i pos, i, pos, 0⟩) ?_ rfl ?_
           ·simp [results, go_sem, r0, r1, r2, r3, r4, tokV]
           ·exact ⟨HBW.out, ⟨4, s.extract i pos, i, pos, 0⟩, rfl, .inl ⟨by simp, by rw [HV.out, HE.out]⟩, by simp only; omega, by simp only; omega⟩
         ·have HE : Hid (run wordB s (pos + 1) = run wordB s i) := HGo.out (by rw [HW.out, e1, e2]; rfl)
          have f3 := hfz.out 3
          have HT2 : Hid (CutB w (wr.setCell ⟨w.heap.size + 1, 3, none⟩ (.int .i64 ((pos + 1 : Nat) : Int))) ⟨4, emptyT, i, pos + 1, 0⟩) := HT.out.set 3 _ (HT.out.box.set3 (pos + 1))
          clear HGo HSt HW HT
          go_wp2
          go_roundw
          case rel => exact ⟨pos + 1, by omega, by omega, HE, HT2⟩
          case measure => rw [htoO]; exact Nat.lt_of_le_of_lt (Nat.le_of_eq (congrArg (s.size - ·) (toOf_at HT2.out.box))) (by simp only; omega)
        ·have HE : Hid (run wordB s (pos + 1) = run wordB s i) := HGo.out (by rw [HW.out, e1]; rfl)
         have f3 := hfz.out 3
         have HT2 : Hid (CutB w (wr.setCell ⟨w.heap.size + 1, 3, none⟩ (.int .i64 ((pos + 1 : Nat) : Int))) ⟨4, emptyT, i, pos + 1, 0⟩) := HT.out.set 3 _ (HT.out.box.set3 (pos + 1))
         clear HGo HSt HW HT
         go_wp2
         go_roundw
         case rel => exact ⟨pos + 1, by omega, by omega, HE, HT2⟩
         case measure => rw [htoO]; exact Nat.lt_of_le_of_lt (Nat.le_of_eq (congrArg (s.size - ·) (toOf_at HT2.out.box))) (by simp only; omega)
       ·obtain rfl : pos = s.size := by omega
        have HE : Hid (run wordB s i = s.size) := by show _ = _; rw [← HRu.out]; exact run_stop fun h => absurd h hlt
        clear HRu
        have HB3 : Hid (CutB w (wr.setCell ⟨w.heap.size + 1, 1, none⟩ (.string (s.extract i s.size))) ⟨4, s.extract i s.size, i, s.size, 0⟩) := HT.out.set 1 _ (HT.out.box.set1 _)
        have f1 := hfz.out 1
        obtain ⟨W, hW, hbW, hTW⟩ := HB3.out.ret ⟨4, s.extract i s.size, i, s.size, 0⟩
        obtain ⟨r0, r1, r2, r3, r4⟩ := hTW.cells
        simp only at r0 r1 r2 r3 r4
        have HW9 : Hid (putT (wr.setCell ⟨w.heap.size + 1, 1, none⟩ (.string (s.extract i s.size))) w.heap.size ⟨4, s.extract i s.size, i, s.size, 0⟩ = W) := hW
        have HBW : Hid (Below w.heap.size w W) := hbW
        obtain ⟨hfz9, a0, a1, a2, a3, a4, d0, d1, d2, d3, d4⟩ := HT.out.resFz
        have g0 := hfz9 0
        have g1 := hfz9 1
        have g2 := hfz9 2
        have g3 := hfz9 3
        have g4 := hfz9 4
        have hbs : w.heap.size < w.heap.size + 1 := by omega
        clear hW hTW hbW hfz9 HB3 HT htoO
        go_wp2
        have hW := HW9.out
        unfold putT at hW
        rw [hW]
        refine bodyPost_ret (v := tokV ⟨4, s.extract i s.size, i, s.size, 0⟩) ?_ rfl ?_
        ·simp [results, go_sem, r0, r1, r2, r3, r4, tokV]
        ·exact ⟨HBW.out, ⟨4, s.extract i s.size, i, s.size, 0⟩, rfl, .inl ⟨by simp, by rw [HV.out, HE.out]⟩, by simp only; omega, by simp only; omega⟩
    ·-- a text
     have HQ : Hid (∀ w, Calls Tryz.prog 113 #[.string s, .agg #[.int .i64 0, .string ⟨#[]⟩, .int .i64 i, .int .i64 i, .int .i64 0]] w (QuP s w i i 0 (quoE s (s.size - i) (i + 1) emptyT))) := fun w => rquoted_any s hs ⟨0, emptyT, i, i, 0⟩ hi rfl (by simp only; omega) w
     have HV : Hid (res = (quoE s (s.size - i) (i + 1) emptyT).map fun x => ⟨2, x.1, i, x.2, 0⟩) := by
      show _ = _
      rw [← HR.out]
      unfold cutAt
      rw [beq_iff_eq] at h34
      have e36 : ¬ (s.get! i).toNat = 36 := by omega
      rw [if_pos hi, if_neg (by rw [hd]; simp), if_neg e36, if_pos (by omega)]
     clear HR
     go_wp2_with fail
     generalize (w.alloc (.cells #[.int .i64 0, .string ⟨#[]⟩, .int .i64 0, .int .i64 0, .int .i64 0] 71)).alloc (.cells #[.int .i64 0, .string ⟨#[]⟩, .int .i64 i, .int .i64 i, .int .i64 0] 71) = w2 at *
     go_at_call 113
     refine (HQ.out _).mono ?_
     rintro e w3 ⟨hb3, ⟨k', x', f', t', n'⟩, rfl, hf, hn, hk, ht⟩
     simp only at hf hn hk ht
     subst hf
     subst hn
     have HB3 : Hid (CutB w w3 ⟨0, emptyT, f', f', 0⟩) := HT0.out.after hb3
     have HK : Hid ((k' ≠ 7 ∧ res = some ⟨k', x', f', t', 0⟩) ∨ (k' = 7 ∧ res = none)) := by
      rcases hk with ⟨h, h2⟩ | ⟨h, h2, _⟩
      ·exact .inl ⟨by omega, by rw [HV.out, h2, h]; rfl⟩
      ·exact .inr ⟨h, by rw [HV.out, h2]; rfl⟩
     clear hk hb3 HT0 HV HQ
     unfold tokV
     simp only
     obtain ⟨W, hW, hbW, hTW⟩ := HB3.out.ret ⟨k', x', f', t', 0⟩
     obtain ⟨r0, r1, r2, r3, r4⟩ := hTW.cells
     simp only at r0 r1 r2 r3 r4
     have HW : Hid (putT w3 w.heap.size ⟨k', x', f', t', 0⟩ = W) := hW
     have HBW : Hid (Below w.heap.size w W) := hbW
     obtain ⟨hfz, a0, a1, a2, a3, a4, d0, d1, d2, d3, d4⟩ := HB3.out.resFz
     have g0 := hfz 0
     have g1 := hfz 1
     have g2 := hfz 2
     have g3 := hfz 3
     have g4 := hfz 4
     clear hW hTW hbW hfz HB3
     go_wp2
     have hW := HW.out
     unfold putT at hW
     rw [hW]
     refine bodyPost_ret (v := tokV ⟨k', x', f', t', 0⟩) ?_ rfl ?_
     ·simp [results, go_sem, r0, r1, r2, r3, r4, tokV]
     ·exact ⟨HBW.out, ⟨k', x', f', t', 0⟩, rfl, HK.out, by simp only; omega, ht⟩
   ·-- a place
    have HQ : Hid (∀ w, Calls Tryz.prog 112 #[.string s, .agg #[.int .i64 0, .string ⟨#[]⟩, .int .i64 i, .int .i64 i, .int .i64 0], .int .i64 3, .int .i64 ((i + 1 : Nat) : Int)] w fun e w' => Below w.heap.size w w' ∧ ∃ t' : Tok, e = .returned (tokV t') ∧ t'.fr = i ∧ t'.text = emptyT ∧ ((t'.kind = 3 ∧ numE s (i + 1) = some (t'.num, t'.fin)) ∨ (t'.kind = 7 ∧ numE s (i + 1) = none)) ∧ t'.fin ≤ s.size) := fun w => rnumeral_any s (by omega) ⟨0, emptyT, i, i, 0⟩ 3 (i + 1) (by omega) w
    have HV : Hid (res = (numE s (i + 1)).map fun x => ⟨3, emptyT, i, x.2, x.1⟩) := by
     show _ = _
     rw [← HR.out]
     unfold cutAt
     rw [beq_iff_eq] at h36; rw [if_pos hi, if_neg (by rw [hd]; simp), if_pos (by omega)]
    clear HR
    go_wp2_with fail
    generalize (w.alloc (.cells #[.int .i64 0, .string ⟨#[]⟩, .int .i64 0, .int .i64 0, .int .i64 0] 71)).alloc (.cells #[.int .i64 0, .string ⟨#[]⟩, .int .i64 i, .int .i64 i, .int .i64 0] 71) = w2 at *
    go_at_call 112
    refine (HQ.out _).mono ?_
    rintro e w3 ⟨hb3, ⟨k', x', f', t', n'⟩, rfl, hf, hn, hk, ht⟩
    simp only at hf hn hk ht
    subst hf
    subst hn
    have HB3 : Hid (CutB w w3 ⟨0, emptyT, f', f', 0⟩) := HT0.out.after hb3
    have HK : Hid ((k' ≠ 7 ∧ res = some ⟨k', emptyT, f', t', n'⟩) ∨ (k' = 7 ∧ res = none)) := by
     rcases hk with ⟨h, h2⟩ | ⟨h, h2⟩
     ·exact .inl ⟨by omega, by rw [HV.out, h2, h]; rfl⟩
     ·exact .inr ⟨h, by rw [HV.out, h2]; rfl⟩
    clear hk hb3 HT0 HV HQ
    unfold tokV
    simp only
    obtain ⟨W, hW, hbW, hTW⟩ := HB3.out.ret ⟨k', emptyT, f', t', n'⟩
    obtain ⟨r0, r1, r2, r3, r4⟩ := hTW.cells
    simp only at r0 r1 r2 r3 r4
    have HW : Hid (putT w3 w.heap.size ⟨k', emptyT, f', t', n'⟩ = W) := hW
    have HBW : Hid (Below w.heap.size w W) := hbW
    obtain ⟨hfz, a0, a1, a2, a3, a4, d0, d1, d2, d3, d4⟩ := HB3.out.resFz
    have g0 := hfz 0
    have g1 := hfz 1
    have g2 := hfz 2
    have g3 := hfz 3
    have g4 := hfz 4
    clear hW hTW hbW hfz HB3
    go_wp2
    have hW := HW.out
    unfold putT at hW
    rw [hW]
    refine bodyPost_ret (v := tokV ⟨k', emptyT, f', t', n'⟩) ?_ rfl ?_
    ·simp [results, go_sem, r0, r1, r2, r3, r4, tokV]
    ·exact ⟨HBW.out, ⟨k', emptyT, f', t', n'⟩, rfl, HK.out, by simp only; omega, ht⟩
  ·-- a number
   have HQ : Hid (∀ w, Calls Tryz.prog 112 #[.string s, .agg #[.int .i64 0, .string ⟨#[]⟩, .int .i64 i, .int .i64 i, .int .i64 0], .int .i64 1, .int .i64 i] w fun e w' => Below w.heap.size w w' ∧ ∃ t' : Tok, e = .returned (tokV t') ∧ t'.fr = i ∧ t'.text = emptyT ∧ ((t'.kind = 1 ∧ numE s i = some (t'.num, t'.fin)) ∨ (t'.kind = 7 ∧ numE s i = none)) ∧ t'.fin ≤ s.size) := fun w => rnumeral_any s (by omega) ⟨0, emptyT, i, i, 0⟩ 1 i (by omega) w
   have HV : Hid (res = (numE s i).map fun x => ⟨1, emptyT, i, x.2, x.1⟩) := by
    show _ = _
    rw [← HR.out]
    unfold cutAt
    rw [if_pos hi, if_pos hd]
   clear HR
   go_wp2_with fail
   generalize (w.alloc (.cells #[.int .i64 0, .string ⟨#[]⟩, .int .i64 0, .int .i64 0, .int .i64 0] 71)).alloc (.cells #[.int .i64 0, .string ⟨#[]⟩, .int .i64 i, .int .i64 i, .int .i64 0] 71) = w2 at *
   go_at_call 112
   refine (HQ.out _).mono ?_
   rintro e w3 ⟨hb3, ⟨k', x', f', t', n'⟩, rfl, hf, hn, hk, ht⟩
   simp only at hf hn hk ht
   subst hf
   subst hn
   have HB3 : Hid (CutB w w3 ⟨0, emptyT, f', f', 0⟩) := HT0.out.after hb3
   have HK : Hid ((k' ≠ 7 ∧ res = some ⟨k', emptyT, f', t', n'⟩) ∨ (k' = 7 ∧ res = none)) := by
    rcases hk with ⟨h, h2⟩ | ⟨h, h2⟩
    ·exact .inl ⟨by omega, by rw [HV.out, h2, h]; rfl⟩
    ·exact .inr ⟨h, by rw [HV.out, h2]; rfl⟩
   clear hk hb3 HT0 HV HQ
   unfold tokV
   simp only
   obtain ⟨W, hW, hbW, hTW⟩ := HB3.out.ret ⟨k', emptyT, f', t', n'⟩
   obtain ⟨r0, r1, r2, r3, r4⟩ := hTW.cells
   simp only at r0 r1 r2 r3 r4
   have HW : Hid (putT w3 w.heap.size ⟨k', emptyT, f', t', n'⟩ = W) := hW
   have HBW : Hid (Below w.heap.size w W) := hbW
   obtain ⟨hfz, a0, a1, a2, a3, a4, d0, d1, d2, d3, d4⟩ := HB3.out.resFz
   have g0 := hfz 0
   have g1 := hfz 1
   have g2 := hfz 2
   have g3 := hfz 3
   have g4 := hfz 4
   clear hW hTW hbW hfz HB3
   go_wp2
   have hW := HW.out
   unfold putT at hW
   rw [hW]
   refine bodyPost_ret (v := tokV ⟨k', emptyT, f', t', n'⟩) ?_ rfl ?_
   ·simp [results, go_sem, r0, r1, r2, r3, r4, tokV]
   ·exact ⟨HBW.out, ⟨k', emptyT, f', t', n'⟩, rfl, HK.out, by simp only; omega, ht⟩
 ·obtain rfl : i = s.size := by omega
  have HV : Hid (res = some ⟨0, emptyT, s.size, s.size, 0⟩) := by show _ = _; rw [← HR.out]; unfold cutAt; rw [if_neg hi]
  clear HR
  go_wp2
  have HT := TwoT.new w ⟨0, emptyT, s.size, s.size, 0⟩ ⟨0, emptyT, s.size, s.size, 0⟩
  obtain ⟨hb, hT, _⟩ := HT
  obtain ⟨r0, r1, r2, r3, r4⟩ := hT.cells
  simp only [emptyT] at hb r0 r1 r2 r3 r4
  generalize (w.alloc (.cells #[.int .i64 0, .string ⟨#[]⟩, .int .i64 s.size, .int .i64 s.size, .int .i64 0] 71)).alloc (.cells #[.int .i64 0, .string ⟨#[]⟩, .int .i64 s.size, .int .i64 s.size, .int .i64 0] 71) = W at *
  refine bodyPost_ret (v := tokV ⟨0, emptyT, s.size, s.size, 0⟩) ?_ rfl ?_
  ·simp [results, go_sem, r0, r1, r2, r3, r4, tokV, emptyT]
  ·exact ⟨hb, ⟨0, emptyT, s.size, s.size, 0⟩, rfl, .inl ⟨by simp, HV.out⟩, by simp, by simp⟩

end Go.Proofs.YtgmmfpdekefamaaGreatDoor

namespace Go.Proofs.YtgmmfpdekefamaaGreatDoor
open Go.RowKit
set_option linter.unusedVariables false
set_option maxRecDepth 100000

theorem wholeZ_empty {s : ByteArray} (h : s.size = 0) : wholeZ s = none := by
 unfold wholeZ
 rw [if_neg (by omega), if_neg (by omega)]
theorem numE_goes {s : ByteArray} {i : Nat} {n : Int} {j : Nat} (hi : i ≤ s.size) (h : numE s i = some (n, j)) : i < j ∧ j ≤ s.size := by
 have hr := run_le digitB s hi
 unfold numE at h
 simp only at h
 cases hw : wholeZ (s.extract i (run digitB s i)) with
 | none => rw [hw] at h; cases h
 | some m =>
  rw [hw] at h
  simp only at h
  have hne : i ≠ run digitB s i := fun e => by
   have := wholeZ_empty (s := s.extract i (run digitB s i)) (by rw [ByteArray.size_extract]; omega)
   rw [this] at hw
   cases hw
  split at h
  ·cases h
  ·simp only [Option.some.injEq, Prod.mk.injEq] at h
   omega
theorem quoE_goes (s : ByteArray) : ∀ (f i : Nat) (t x : ByteArray) (j : Nat), quoE s f i t = some (x, j) → i < j ∧ j ≤ s.size
 | 0, i, t, x, j, h => by cases h
 | f + 1, i, t, x, j, h => by
  rw [quoE] at h
  by_cases h1 : i < s.size
  ·rw [if_pos h1] at h
   split at h
   ·cases h
   ·split at h
    ·simp only [Option.some.injEq, Prod.mk.injEq] at h; omega
    ·split at h
     ·have := quoE_goes s f _ _ _ _ h
      have hw := dec_width s i
      omega
     ·split at h
      ·split at h
       ·have := quoE_goes s f _ _ _ _ h; omega
       ·split at h
        ·have := quoE_goes s f _ _ _ _ h; omega
        ·split at h
         ·have := quoE_goes s f _ _ _ _ h; omega
         ·cases h
      ·cases h
  ·rw [if_neg h1] at h; cases h
theorem cut_goes {s : ByteArray} {p : Nat} {u : Tok} (hp : p ≤ s.size) (h : cutE s p = some u) : p ≤ u.fr ∧ u.fr ≤ s.size ∧ u.fin ≤ s.size ∧ (u.kind ≠ 0 → u.fr < u.fin) ∧ (u.kind = 0 → u.fr = s.size ∧ u.fin = s.size) ∧ u.kind ≠ 7 ∧ u.kind ≠ 5 := by
 have hr := run_le blankB s hp
 unfold cutE at h
 generalize run blankB s p = i at *
 unfold cutAt at h
 by_cases hi : i < s.size
 ·rw [if_pos hi] at h
  split at h
  ·cases hn : numE s i with
   | none => rw [hn] at h; cases h
   | some x =>
    obtain ⟨n, j⟩ := x
    rw [hn] at h
    obtain rfl := Option.some.inj h
    have := numE_goes (by omega) hn
    simp only
    refine ⟨by omega, by omega, by omega, fun _ => by omega, fun h => by omega, by omega, by omega⟩
  ·split at h
   ·cases hn : numE s (i + 1) with
    | none => rw [hn] at h; cases h
    | some x =>
     obtain ⟨n, j⟩ := x
     rw [hn] at h
     obtain rfl := Option.some.inj h
     have := numE_goes (by omega) hn
     simp only
     refine ⟨by omega, by omega, by omega, fun _ => by omega, fun h => by omega, by omega, by omega⟩
   ·split at h
    ·cases hn : quoE s (s.size - i) (i + 1) emptyT with
     | none => rw [hn] at h; cases h
     | some x =>
      obtain ⟨n, j⟩ := x
      rw [hn] at h
      obtain rfl := Option.some.inj h
      have := quoE_goes _ _ _ _ _ _ hn
      simp only
      refine ⟨by omega, by omega, by omega, fun _ => by omega, fun h => by omega, by omega, by omega⟩
    ·split at h
     ·rename_i hsm
      obtain rfl := Option.some.inj h
      have hw := run_le wordB s (show i ≤ s.size by omega)
      have hst : run wordB s i = run wordB s (i + 1) := run_step hi (by unfold wordB; rw [hsm]; rfl)
      have hw2 := run_le wordB s (show i + 1 ≤ s.size by omega)
      simp only
      refine ⟨by omega, by omega, by omega, fun _ => by omega, fun h => by omega, by omega, by omega⟩
     ·split at h
      ·rename_i hs
       obtain rfl := Option.some.inj h
       have : i + sgnE s i ≤ s.size := by
        unfold sgnE
        split
        ·omega
        ·split <;> omega
       simp only
       refine ⟨by omega, by omega, by omega, fun _ => by omega, fun h => by omega, by omega, by omega⟩
      ·cases h
 ·rw [if_neg hi] at h
  obtain rfl := Option.some.inj h
  simp only
  refine ⟨by omega, by omega, by omega, fun h => by omega, fun _ => by omega, by omega, by omega⟩

end Go.Proofs.YtgmmfpdekefamaaGreatDoor
