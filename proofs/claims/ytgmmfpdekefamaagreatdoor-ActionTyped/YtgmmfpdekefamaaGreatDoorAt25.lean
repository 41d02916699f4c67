/- Texts of the proof, put together: QMad. -/
import Derived.Test.YtgmmfpdekefamaaGreatDoorAt24
import Derived.Test.YtgmmfpdekefamaaGreatDoorAt16
import Derived.BigRegion
namespace Go.Proofs.YtgmmfpdekefamaaGreatDoor
open Go.RowKit
set_option linter.unusedVariables false
set_option linter.unusedSimpArgs false
set_option maxRecDepth 100000

theorem acalled_any {w : World} {lv : Value} {l : List Sh} (f : ByteArray) (h : ShsR w lv l) (hlen : (l.length : Int) = kidsL f.toList) (h0 : 0 < l.length) (hN : (l.getD 0 noS).1 ≤ 100000) : Calls Tryz.prog 128 #[.string f, lv] w (GotS w (callP f.toList l)) := by
 unfold callP
 cases h1 : (f.toList == [108, 101, 110])
 ·cases h3 : (f.toList == [116, 101, 120, 116])
  ·cases h4 : (f.toList == [105, 110, 116])
   ·cases h5 : (f.toList == [110, 111, 100, 101])
    ·cases h6 : (f.toList == [116, 97, 103])
     ·cases h7 : (f.toList == [107, 105, 100, 115])
      ·have h2 : (f.toList == [97, 116]) = true := by
        unfold kidsL at hlen
        rw [h1, h3, h4, h5, h6, h7] at hlen
        cases h2 : (f.toList == [97, 116])
        ·rw [h2] at hlen
         have hz : (l.length : Int) = 0 := hlen
         omega
        ·rfl
       have hl3 : l.length = 3 := by
        have e2 : f.toList = [97, 116] := by simpa using h2
        rw [e2, show kidsL [97, 116] = 3 from rfl] at hlen
        omega
       refine acall_at h1 h3 h4 h5 h6 h7 h hl3 hN ?_
       show _ = _
       rw [h2]; simp
      ·have h2 : (f.toList == [97, 116]) = false := by
        have e2 : f.toList = [107, 105, 100, 115] := by simpa using h7
        rw [e2]; rfl
       refine acall_kids h1 h3 h4 h5 h6 h7 h h0 ?_
       show _ = _
       rw [h2, ar_one]; simp
     ·have h2 : (f.toList == [97, 116]) = false := by
       have e2 : f.toList = [116, 97, 103] := by simpa using h6
       rw [e2]; rfl
      refine acall_tag h1 h3 h4 h5 h6 h h0 ?_
      show _ = _
      rw [h2, ar_one]; simp
    ·have e2 : f.toList = [110, 111, 100, 101] := by simpa using h5
     have h2 : (f.toList == [97, 116]) = false := by rw [e2]; rfl
     have hl2 : 1 < l.length := by
      rw [e2, show kidsL [110, 111, 100, 101] = 2 from rfl] at hlen
      omega
     refine acall_node h1 h3 h4 h5 h hl2 ?_
     show _ = _
     rw [h2]; simp
   ·have e2 : f.toList = [105, 110, 116] := by simpa using h4
    have h2 : (f.toList == [97, 116]) = false := by rw [e2]; rfl
    have hl2 : 1 < l.length := by
     rw [e2, show kidsL [105, 110, 116] = 2 from rfl] at hlen
     omega
    refine acall_int h1 h3 h4 h hl2 ?_
    show _ = _
    rw [h2, ar_two]; simp [intB]
  ·have h2 : (f.toList == [97, 116]) = false := by
    have e2 : f.toList = [116, 101, 120, 116] := by simpa using h3
    rw [e2]; rfl
   refine acall_text h1 h3 h h0 ?_
   show _ = _
   rw [h2, ar_one]; simp
 ·refine acall_len h1 h h0 ?_
  show _ = _
  simp



set_option maxHeartbeats 8000000 in
/-- num -/
theorem made_num {w : World} {b : Nat} {lv : Value} {l : List Sh} {O : Option Sh}  (hb : b < w.heap.size) (e0 : w.cell? ⟨b, 0, none⟩ = some (.int .i64 1)) (h : ShsR w lv l) (HV : Hid (O = some (0, 1))) : Calls Tryz.prog 70 #[.pointer (some ⟨b, 0, none⟩), lv] w (GotS w O) := by
 have HS0 : Hid (S1 w (w.alloc (.cells #[.int .i64 0, .int .i64 0] 89))) := S1.new w
 have HS1 : Hid (∀ W, Calls Tryz.prog 123 #[.int .i64 1] W fun e w' => e = .returned (.agg #[.int .i64 0, .int .i64 1]) ∧ Below W.heap.size W w') := fun W => asimple_any 1 W
 clear h
 go_enter Tryz.func70, Tryz.ntmps70
 go_wp2_with fail
 generalize w.alloc (.cells #[.int .i64 0, .int .i64 0] 89) = w3 at *
 go_at_call 123
 refine (HS1.out _).mono ?_
 rintro e w4 ⟨rfl, hb4⟩
 have HS4 := HS0.out.after hb4
 have HR4 := HS4.r
 have r0 := HR4.c0
 have r1 := HR4.c1
 have f0 := HR4.fz 0
 have f1 := HR4.fz 1
 have rr := HR4.lt
 obtain ⟨W, hW, hbW, _, hTW⟩ := HR4.ret HS4.bel (Nat.le_refl _) 0 1
 have HW : Hid (putS w4 w.heap.size 0 1 = W) := hW
 have s0 := hTW.c0
 have s1 := hTW.c1
 have HBW : Hid (Below w.heap.size w W) := hbW
 clear hb4 HS4 HR4 HS0 HS1 hW hbW hTW
 go_wp2
 have hW := HW.out
 unfold putS at hW
 rw [hW]
 refine bodyPost_ret (v := .tuple #[.agg #[.int .i64 0, .int .i64 1], .bool true]) ?_ rfl ?_
 ·simp [results, go_sem, s0, s1]
 ·exact GotS.yes (s := (0, 1)) HV.out HBW.out


set_option maxHeartbeats 8000000 in
/-- text -/
theorem made_text {w : World} {b : Nat} {lv : Value} {l : List Sh} {O : Option Sh}  (hb : b < w.heap.size) (e0 : w.cell? ⟨b, 0, none⟩ = some (.int .i64 2)) (h : ShsR w lv l) (HV : Hid (O = some (0, 2))) : Calls Tryz.prog 70 #[.pointer (some ⟨b, 0, none⟩), lv] w (GotS w O) := by
 have HS0 : Hid (S1 w (w.alloc (.cells #[.int .i64 0, .int .i64 0] 89))) := S1.new w
 have HS2 : Hid (∀ W, Calls Tryz.prog 123 #[.int .i64 2] W fun e w' => e = .returned (.agg #[.int .i64 0, .int .i64 2]) ∧ Below W.heap.size W w') := fun W => asimple_any 2 W
 clear h
 go_enter Tryz.func70, Tryz.ntmps70
 go_wp2_with fail
 generalize w.alloc (.cells #[.int .i64 0, .int .i64 0] 89) = w3 at *
 go_at_call 123
 refine (HS2.out _).mono ?_
 rintro e w4 ⟨rfl, hb4⟩
 have HS4 := HS0.out.after hb4
 have HR4 := HS4.r
 have r0 := HR4.c0
 have r1 := HR4.c1
 have f0 := HR4.fz 0
 have f1 := HR4.fz 1
 have rr := HR4.lt
 obtain ⟨W, hW, hbW, _, hTW⟩ := HR4.ret HS4.bel (Nat.le_refl _) 0 2
 have HW : Hid (putS w4 w.heap.size 0 2 = W) := hW
 have s0 := hTW.c0
 have s1 := hTW.c1
 have HBW : Hid (Below w.heap.size w W) := hbW
 clear hb4 HS4 HR4 HS0 HS2 hW hbW hTW
 go_wp2
 have hW := HW.out
 unfold putS at hW
 rw [hW]
 refine bodyPost_ret (v := .tuple #[.agg #[.int .i64 0, .int .i64 2], .bool true]) ?_ rfl ?_
 ·simp [results, go_sem, s0, s1]
 ·exact GotS.yes (s := (0, 2)) HV.out HBW.out


set_option maxHeartbeats 8000000 in
/-- minus -/
theorem made_neg {w : World} {b : Nat} {lv : Value} {l : List Sh} {O : Option Sh} (hl : l.length = 1) (hb : b < w.heap.size) (e0 : w.cell? ⟨b, 0, none⟩ = some (.int .i64 8)) (h : ShsR w lv l) (HV : Hid (O = if arP l [1] 0 = true then some (0, 1) else none)) : Calls Tryz.prog 70 #[.pointer (some ⟨b, 0, none⟩), lv] w (GotS w O) := by
 have HS0 : Hid (S1 w (w.alloc (.cells #[.int .i64 0, .int .i64 0] 89))) := S1.new w
 have HS1 : Hid (∀ W, Calls Tryz.prog 123 #[.int .i64 1] W fun e w' => e = .returned (.agg #[.int .i64 0, .int .i64 1]) ∧ Below W.heap.size W w') := fun W => asimple_any 1 W
 have HA : Hid (∀ W kv, Below w.heap.size w W → IntsR W kv [1] → Calls Tryz.prog 124 #[lv, kv] W fun e w' => e = .returned (.bool (arP l [1] 0)) ∧ Below W.heap.size W w') := fun W kv hW hk => aare_any (h.below hW) hk (by simp; omega) (by simp)
 generalize arP l [1] 0 = R at *
 clear h
 go_enter Tryz.func70, Tryz.ntmps70
 go_wp2_with fail
 generalize w.alloc (.cells #[.int .i64 0, .int .i64 0] 89) = w3 at *
 go_at_call 123
 refine (HS1.out _).mono ?_
 rintro e w4 ⟨rfl, hb4⟩
 have hb5 := alloc_below w4 (.cells #[.int .i64 1] 3)
 have HI : Hid (IntsR (w4.alloc (.cells #[.int .i64 1] 3)) (.slice (some ⟨w4.heap.size, 0, none⟩) 1 1) [1]) := ints_new w4 [1]
 have HS5 : Hid (S1 w (w4.alloc (.cells #[.int .i64 1] 3))) := (HS0.out.after hb4).after hb5
 clear hb4 hb5 HS0 HS1
 go_wp2_with fail
 generalize w4.heap.size = bq at *
 generalize w4.alloc (.cells #[.int .i64 1] 3) = w5 at *
 go_at_call 124
 refine (HA.out _ _ HS5.out.bel HI.out).mono ?_
 rintro e w6 ⟨rfl, hb6⟩
 have HS6 := HS5.out.after hb6
 have HR6 := HS6.r
 have r0 := HR6.c0
 have r1 := HR6.c1
 have f0 := HR6.fz 0
 have f1 := HR6.fz 1
 have rr := HR6.lt
 obtain ⟨W, hW, hbW, _, hTW⟩ := HR6.ret HS6.bel (Nat.le_refl _) 0 1
 have HW : Hid (putS w6 w.heap.size 0 1 = W) := hW
 have s0 := hTW.c0
 have s1 := hTW.c1
 have HG : Hid (GotS w O (.returned (.tuple #[shV (0, 1), .bool R])) W) := GotS.bool (s := (0, 1)) HV.out hbW
 clear hb6 HS6 HR6 HS5 HI HA hW hbW hTW HV
 go_wp2
 have hW := HW.out
 unfold putS at hW
 rw [hW]
 refine bodyPost_ret (v := .tuple #[.agg #[.int .i64 0, .int .i64 1], .bool R]) ?_ rfl ?_
 ·simp [results, go_sem, s0, s1]
 ·exact HG.out


set_option maxHeartbeats 8000000 in
/-- operators -/
theorem made_op {w : World} {b : Nat} {lv : Value} {l : List Sh} {O : Option Sh} {tx : ByteArray} (e2 : w.cell? ⟨b, 2, none⟩ = some (.string tx)) (hl : l.length = 2) (h0 : OkS (l.getD 0 noS)) (h1 : OkS (l.getD 1 noS)) (hb : b < w.heap.size) (e0 : w.cell? ⟨b, 0, none⟩ = some (.int .i64 7)) (h : ShsR w lv l) (HV : Hid (O = opP tx.toList (l.getD 0 noS) (l.getD 1 noS))) : Calls Tryz.prog 70 #[.pointer (some ⟨b, 0, none⟩), lv] w (GotS w O) := by
 have HS0 : Hid (S1 w (w.alloc (.cells #[.int .i64 0, .int .i64 0] 89))) := S1.new w
 have HP : Hid (∀ W, Below w.heap.size w W → Calls Tryz.prog 126 #[.string tx, lv] W (GotS W O)) := fun W hW => by
  rw [HV.out]
  exact aoperated_any tx (h.below hW) hl h0 h1
 clear h HV
 go_enter Tryz.func70, Tryz.ntmps70
 go_wp2_with fail
 generalize w.alloc (.cells #[.int .i64 0, .int .i64 0] 89) = w3 at *
 go_at_call 126
 refine (HP.out _ HS0.out.bel).mono ?_
 rintro e w6 ⟨hb6, u, yes, rfl, hy, hs⟩
 have HS6 := HS0.out.after hb6
 have HR6 := HS6.r
 have HY : Hid (yes = O.isSome ∧ ∀ s, O = some s → u = s) := ⟨hy, hs⟩
 have r0 := HR6.c0
 have r1 := HR6.c1
 have f0 := HR6.fz 0
 have f1 := HR6.fz 1
 have rr := HR6.lt
 obtain ⟨W, hW, hbW, _, hTW⟩ := HR6.ret HS6.bel (Nat.le_refl _) u.1 u.2
 have HW : Hid (putS w6 w.heap.size u.1 u.2 = W) := hW
 have s0 := hTW.c0
 have s1 := hTW.c1
 have HBW : Hid (Below w.heap.size w W) := hbW
 unfold shV
 clear hb6 HS6 HR6 HS0 HP hW hbW hTW hy hs
 go_wp2
 have hW := HW.out
 unfold putS at hW
 rw [hW]
 refine bodyPost_ret (v := .tuple #[.agg #[.int .i64 u.1, .int .i64 u.2], .bool yes]) ?_ rfl ?_
 ·simp [results, go_sem, s0, s1]
 ·exact ⟨HBW.out, u, yes, rfl, HY.out⟩


set_option maxHeartbeats 8000000 in
/-- lists -/
theorem made_list {w : World} {b : Nat} {lv : Value} {l : List Sh} {O : Option Sh} (hl : l.length ≤ 1000) (hN : ∀ s ∈ l, s.1 ≤ 100000) (hb : b < w.heap.size) (e0 : w.cell? ⟨b, 0, none⟩ = some (.int .i64 9)) (h : ShsR w lv l) (HV : Hid (O = lstP l)) : Calls Tryz.prog 70 #[.pointer (some ⟨b, 0, none⟩), lv] w (GotS w O) := by
 have HS0 : Hid (S1 w (w.alloc (.cells #[.int .i64 0, .int .i64 0] 89))) := S1.new w
 have HP : Hid (∀ W, Below w.heap.size w W → Calls Tryz.prog 127 #[lv] W (GotS W O)) := fun W hW => by
  rw [HV.out]
  exact alistof_any (h.below hW) hl hN
 clear h HV
 go_enter Tryz.func70, Tryz.ntmps70
 go_wp2_with fail
 generalize w.alloc (.cells #[.int .i64 0, .int .i64 0] 89) = w3 at *
 go_at_call 127
 refine (HP.out _ HS0.out.bel).mono ?_
 rintro e w6 ⟨hb6, u, yes, rfl, hy, hs⟩
 have HS6 := HS0.out.after hb6
 have HR6 := HS6.r
 have HY : Hid (yes = O.isSome ∧ ∀ s, O = some s → u = s) := ⟨hy, hs⟩
 have r0 := HR6.c0
 have r1 := HR6.c1
 have f0 := HR6.fz 0
 have f1 := HR6.fz 1
 have rr := HR6.lt
 obtain ⟨W, hW, hbW, _, hTW⟩ := HR6.ret HS6.bel (Nat.le_refl _) u.1 u.2
 have HW : Hid (putS w6 w.heap.size u.1 u.2 = W) := hW
 have s0 := hTW.c0
 have s1 := hTW.c1
 have HBW : Hid (Below w.heap.size w W) := hbW
 unfold shV
 clear hb6 HS6 HR6 HS0 HP hW hbW hTW hy hs
 go_wp2
 have hW := HW.out
 unfold putS at hW
 rw [hW]
 refine bodyPost_ret (v := .tuple #[.agg #[.int .i64 u.1, .int .i64 u.2], .bool yes]) ?_ rfl ?_
 ·simp [results, go_sem, s0, s1]
 ·exact ⟨HBW.out, u, yes, rfl, HY.out⟩


set_option maxHeartbeats 8000000 in
/-- functions -/
theorem made_call {w : World} {b : Nat} {lv : Value} {l : List Sh} {O : Option Sh} {tx : ByteArray} (e2 : w.cell? ⟨b, 2, none⟩ = some (.string tx)) (hlen : (l.length : Int) = kidsL tx.toList) (h0 : 0 < l.length) (hN : (l.getD 0 noS).1 ≤ 100000) (hb : b < w.heap.size) (e0 : w.cell? ⟨b, 0, none⟩ = some (.int .i64 10)) (h : ShsR w lv l) (HV : Hid (O = callP tx.toList l)) : Calls Tryz.prog 70 #[.pointer (some ⟨b, 0, none⟩), lv] w (GotS w O) := by
 have HS0 : Hid (S1 w (w.alloc (.cells #[.int .i64 0, .int .i64 0] 89))) := S1.new w
 have HP : Hid (∀ W, Below w.heap.size w W → Calls Tryz.prog 128 #[.string tx, lv] W (GotS W O)) := fun W hW => by
  rw [HV.out]
  exact acalled_any tx (h.below hW) hlen h0 hN
 clear h HV hlen h0
 go_enter Tryz.func70, Tryz.ntmps70
 go_wp2_with fail
 generalize w.alloc (.cells #[.int .i64 0, .int .i64 0] 89) = w3 at *
 go_at_call 128
 refine (HP.out _ HS0.out.bel).mono ?_
 rintro e w6 ⟨hb6, u, yes, rfl, hy, hs⟩
 have HS6 := HS0.out.after hb6
 have HR6 := HS6.r
 have HY : Hid (yes = O.isSome ∧ ∀ s, O = some s → u = s) := ⟨hy, hs⟩
 have r0 := HR6.c0
 have r1 := HR6.c1
 have f0 := HR6.fz 0
 have f1 := HR6.fz 1
 have rr := HR6.lt
 obtain ⟨W, hW, hbW, _, hTW⟩ := HR6.ret HS6.bel (Nat.le_refl _) u.1 u.2
 have HW : Hid (putS w6 w.heap.size u.1 u.2 = W) := hW
 have s0 := hTW.c0
 have s1 := hTW.c1
 have HBW : Hid (Below w.heap.size w W) := hbW
 unfold shV
 clear hb6 HS6 HR6 HS0 HP hW hbW hTW hy hs
 go_wp2
 have hW := HW.out
 unfold putS at hW
 rw [hW]
 refine bodyPost_ret (v := .tuple #[.agg #[.int .i64 u.1, .int .i64 u.2], .bool yes]) ?_ rfl ?_
 ·simp [results, go_sem, s0, s1]
 ·exact ⟨HBW.out, u, yes, rfl, HY.out⟩


end Go.Proofs.YtgmmfpdekefamaaGreatDoor
