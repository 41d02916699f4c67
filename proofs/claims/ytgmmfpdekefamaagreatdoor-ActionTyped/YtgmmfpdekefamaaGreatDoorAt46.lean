/- Texts of the proof, put together: QLaw. -/
import Derived.Test.YtgmmfpdekefamaaGreatDoorAt32
import Derived.Test.YtgmmfpdekefamaaGreatDoorAt33
import Derived.Test.YtgmmfpdekefamaaGreatDoorAt45
import Derived.Test.YtgmmfpdekefamaaGreatDoorAt35
namespace Go.Proofs.YtgmmfpdekefamaaGreatDoor
open Go.RowKit
set_option linter.unusedVariables false
set_option linter.unusedSimpArgs false
set_option maxRecDepth 100000

set_option maxHeartbeats 4000000 in
theorem told_nil (w : World) : Calls Tryz.prog 11 #[.nilIface, .nilIface, .int .i64 (-1)] w fun e w' => e = .returned (.bool true) ∧ Below w.heap.size w w' := by
 have HD : Hid (Calls Tryz.prog 29 #[.nilIface] w fun e w' => e = .returned (.tuple #[.int .i64 0, .int .i64 (-1)]) ∧ w' = w) := code_nil w
 go_enter Tryz.func11, Tryz.ntmps11
 go_wp2_with fail
 go_at_call 29
 refine HD.out.mono ?_
 rintro e wq ⟨rfl, hwq⟩
 obtain rfl := hwq.symm
 clear hwq
 go_wp2_with fail
 go_at_call 29
 refine HD.out.mono ?_
 rintro e wq ⟨rfl, hwq⟩
 obtain rfl := hwq.symm
 clear hwq
 go_wp2_with fail
 go_ret
 exact ⟨rfl, Below.refl _ _⟩

set_option maxHeartbeats 4000000 in
theorem rsame_zero (w : World) : Calls Tryz.prog 41 #[.agg #[.int .i64 0, .pointer none], .agg #[.int .i64 0, .pointer none]] w fun e w' => e = .returned (.bool true) ∧ Below w.heap.size w w' := by
 have HB : Hid (Below w.heap.size w ((w.alloc (.cells #[.int .i64 0, .pointer none] 44)).alloc (.cells #[.int .i64 0, .pointer none] 44))) := two_below w _ _
 go_enter Tryz.func41, Tryz.ntmps41
 go_wp2
 go_ret
 exact ⟨rfl, HB.out⟩
set_option maxHeartbeats 4000000 in
theorem lsame_of {w : World} {k k2 : Int} {q q2 : Option Addr} (H : Hid (∀ W, Below w.heap.size w W → Calls Tryz.prog 41 #[.agg #[.int .i64 k, .pointer q], .agg #[.int .i64 k2, .pointer q2]] W fun e w' => e = .returned (.bool true) ∧ Below w.heap.size w w')) : Calls Tryz.prog 19 #[.agg #[.int .i64 k, .pointer q], .agg #[.int .i64 k2, .pointer q2]] w fun e w' => e = .returned (.bool true) ∧ Below w.heap.size w w' := by
 have HB : Hid (Below w.heap.size w ((w.alloc (.cells #[.int .i64 k, .pointer q] 44)).alloc (.cells #[.int .i64 k2, .pointer q2] 44))) := two_below w _ _
 have HC := H.out _ HB.out
 clear H
 go_enter Tryz.func19, Tryz.ntmps19
 go_wp2_with fail
 go_at_call 41
 refine HC.mono ?_
 rintro e w2 ⟨rfl, hb2⟩
 have HB2 : Hid (Below w.heap.size w w2) := hb2
 clear hb2 HC HB
 go_wp2_with fail
 go_ret
 exact ⟨rfl, HB2.out⟩
theorem same_refl (l : Nat) (b : Int) : sameB l b l b = true := by unfold sameB; simp

/-- the answers of both checks agree -/
def BothC (w : World) (a3 a4 : Addr) (k k2 : Int) (q q2 : Option Addr) (er er2 : Value) : Prop := ∀ W, Below w.heap.size w W → Calls Tryz.prog 11 #[er, er2, .int .i64 (-1)] W fun e w' => e = .returned (.bool true) ∧ Below W.heap.size W w' ∧ Calls Tryz.prog 19 #[.agg #[.int .i64 k, .pointer q], .agg #[.int .i64 k2, .pointer q2]] w' fun e w'' => e = .returned (.bool true) ∧ Below w'.heap.size w' w''
theorem both_of {w : World} {a : Nat → Addr} (hE : Errs w a) {R : CkR} {k k2 : Int} {q q2 : Option Addr} {er er2 : Value}
  (h1 : (∃ s, R = .ok s ∧ er = .nilIface ∧ TyA (fun _ => True) w s (.agg #[.int .i64 k, .pointer q])) ∨ ∃ b, R = .error b ∧ er = errV (a 3) (a 4) b ∧ k = 0 ∧ q = none)
  (h2 : (∃ s, R = .ok s ∧ er2 = .nilIface ∧ TyA (fun _ => True) w s (.agg #[.int .i64 k2, .pointer q2])) ∨ ∃ b, R = .error b ∧ er2 = errV (a 3) (a 4) b ∧ k2 = 0 ∧ q2 = none) : BothC w (a 3) (a 4) k k2 q q2 er er2 := by
 intro W hW
 rcases h1 with ⟨s, e1, rfl, t1⟩ | ⟨b, e1, rfl, rfl, rfl⟩
 ·rcases h2 with ⟨s2, e2, rfl, t2⟩ | ⟨b2, e2, _⟩
  ·rw [e1] at e2
   cases e2
   refine (told_nil W).mono ?_
   rintro e w' ⟨rfl, hb⟩
   refine ⟨rfl, hb, lsame_of fun W2 hW2 => ?_⟩
   have hb1 := hW.trans (hb.mono hW.size)
   have hb2 := hb1.trans (hW2.mono hb1.size)
   refine (rsame_any _ (TyA.below t1 hb2) (TyA.below t2 hb2)).mono ?_
   rintro e w'' ⟨rfl, hb3⟩
   exact ⟨by rw [same_refl], hW2.trans (hb3.mono hW2.size)⟩
  ·rw [e1] at e2; cases e2
 ·rcases h2 with ⟨s2, e2, _⟩ | ⟨b2, e2, rfl, rfl, rfl⟩
  ·rw [e1] at e2; cases e2
  ·rw [e1] at e2
   cases e2
   have hT : Calls Tryz.prog 11 #[errV (a 3) (a 4) b, errV (a 3) (a 4) b, .int .i64 (-1)] W fun e w' => e = .returned (.bool true) ∧ Below W.heap.size W w' := by
    have hEW := hE.below hW (Nat.le_refl _)
    cases b
    ·exact told_err W a hEW 4 (by omega)
    ·exact told_err W a hEW 3 (by omega)
   refine hT.mono ?_
   rintro e w' ⟨rfl, hb⟩
   refine ⟨rfl, hb, lsame_of fun W2 hW2 => ?_⟩
   refine (rsame_zero W2).mono ?_
   rintro e w'' ⟨rfl, hb3⟩
   exact ⟨rfl, hW2.trans (hb3.mono hW2.size)⟩

theorem UtfW.below {w w' : World} (h : UtfW w) (hbig : 16 ≤ w.heap.size) (hb : Below w.heap.size w w') : UtfW w' := h.g2 (G2.below (R := w.heap.size) (C := w.heap.size) hb) hbig hbig
/-- what the law asks of the world -/
structure LawT (w : World) (a : Nat → Addr) : Prop where
 vd : VdC w
 err : Errs w a
 big : 16 ≤ w.heap.size
theorem LawT.below {w w' : World} {a : Nat → Addr} (h : LawT w a) (hb : Below w.heap.size w w') : LawT w' a := ⟨h.vd.below hb, h.err.below hb (Nat.le_refl _), Nat.le_trans h.big hb.size⟩
theorem LawT.libA {w : World} {a : Nat → Addr} (h : LawT w a) : LibA w := ⟨⟨_, _, h.err.cell 0 (by omega)⟩, ⟨_, _, h.err.cell 1 (by omega)⟩⟩
theorem LawT.env {w : World} {a : Nat → Addr} (h : LawT w a) : EnvA w w := ⟨h.big, fun _ _ => rfl⟩
theorem LawT.envC {w : World} {a : Nat → Addr} (h : LawT w a) : EnvC w (a 3) (a 4) := ⟨h.err.cell 3 (by omega), h.err.cell 4 (by omega)⟩

set_option maxHeartbeats 8000000 in
theorem law_typed {w : World} {a : Nat → Addr} (A : LawT w a) (hU : UtfW w) {s : ByteArray} {v : Value} {zs : List Int} (hz : IntsR w v zs) : Calls Tryz.prog 4 #[.string s, v] w fun e w' => e = .returned (.bool true) ∧ Below w.heap.size w w' := by
 obtain ⟨za, zc, rfl⟩ := hz.slice
 by_cases h1 : 3000 < s.size
 ·have k1 : (3000 : Int) < (s.size : Int) := by omega
  clear A hU hz
  go_enter Tryz.func4, Tryz.ntmps4
  go_wp2
  go_ret
  exact ⟨rfl, Below.refl _ _⟩
 by_cases h2 : 20 < zs.length
 ·have k1 : ¬ (3000 : Int) < (s.size : Int) := by omega
  have k2 : (20 : Int) < (zs.length : Int) := by omega
  clear A hU hz
  go_enter Tryz.func4, Tryz.ntmps4
  go_wp2
  go_ret
  exact ⟨rfl, Below.refl _ _⟩
 have k1 : ¬ (3000 : Int) < (s.size : Int) := by omega
 have k2 : ¬ (20 : Int) < (zs.length : Int) := by omega
 have HR : Hid (Calls Tryz.prog 13 #[.string s] w (RdX w s)) := readexpr_any A.libA A.env (by omega) fun x hx => read_x (by omega) hx
 have HA : Hid (LawT w a ∧ UtfW w ∧ IntsR w (.slice za zs.length zc) zs ∧ s.size ≤ 3000 ∧ zs.length ≤ 20) := ⟨A, hU, hz, by omega, by omega⟩
 clear A hU hz h1 h2
 go_enter Tryz.func4, Tryz.ntmps4
 go_wp2_with fail
 go_at_call 13
 refine HR.out.mono ?_
 rintro e w1 ⟨hb1, ⟨te, pe, z, rfl, _⟩ | ⟨x, p, hrd, hok, rfl, hx1⟩⟩
 ·have HB : Hid (Below w.heap.size w w1) := hb1
  clear hb1 HR HA
  go_wp2
  go_ret
  exact ⟨rfl, HB.out⟩
 ·have A1 := HA.out.1.below hb1
  have HRe : Hid (Calls Tryz.prog 15 #[.string s] w1 fun e w' => ∃ p : Option Addr, e = .returned (.tuple #[.pointer p, .nilIface]) ∧ Below w1.heap.size w1 w' ∧ ExB w1.heap.size w' (.pointer p) x) := aread_any (HA.out.2.1.below HA.out.1.big hb1) A1.vd A1.big (by have := HA.out.2.2.2.1; omega) hrd hok
  have HT : Hid (TxA x ∧ okX x = true) := ⟨read_x (by have := HA.out.2.2.2.1; omega) hrd, hok⟩
  have H1 : Hid (Below w.heap.size w w1 ∧ ExB w.heap.size w1 (.pointer p) x) := ⟨hb1, hx1⟩
  clear A1 hb1 hrd hok hx1 HR
  go_wp2_with fail
  go_at_call 15
  refine HRe.out.mono ?_
  rintro e w2 ⟨p2, rfl, hb2, hx2⟩
  have hb02 := H1.out.1.trans (hb2.mono H1.out.1.size)
  have H2 : Hid (Below w.heap.size w w2 ∧ Expr (fun _ => True) w2 (.pointer p) x ∧ Expr (fun _ => True) w2 (.pointer p2) x) := ⟨hb02, H1.out.2.moved hb2.size fun b hb _ => ⟨trivial, hb2.block b hb⟩, hx2.moved (Nat.le_refl _) fun b hb _ => ⟨trivial, rfl⟩⟩
  have HTy : Hid (Calls Tryz.prog 16 #[.slice za zs.length zc] w2 fun e w' => ∃ lv, e = .returned lv ∧ Below w2.heap.size w2 w' ∧ TysR (fun g => w2.heap.size ≤ g) w' lv (zs.map tySh)) := typesof_any (HA.out.2.2.1.below hb02) HA.out.2.2.2.2
  clear hb02 hb2 hx2 HRe H1
  go_wp2_with fail
  go_at_call 16
  refine HTy.out.mono ?_
  rintro e w3 ⟨lv, rfl, hb3, hl3⟩
  have hb03 := H2.out.1.trans (hb3.mono H2.out.1.size)
  have A3 := HA.out.1.below hb03
  have H3 : Hid (Below w.heap.size w w3 ∧ Expr (fun _ => True) w3 (.pointer p) x ∧ TysR (fun _ => True) w3 lv (zs.map tySh)) := ⟨hb03, H2.out.2.1.moved hb3.size fun b hb _ => ⟨trivial, hb3.block b hb⟩, hl3.imp fun _ _ _ => trivial⟩
  have HLn : Hid ((zs.map tySh).length ≤ 20) := by show _ ≤ _; rw [List.length_map]; exact HA.out.2.2.2.2
  have HC : Hid (Calls Tryz.prog 17 #[.pointer p2, lv] w3 (GotC (fun g => w3.heap.size ≤ g) (a 3) (a 4) w3 (chk (zs.map tySh) x []))) :=
   aCheck_any A3.vd (H2.out.2.2.moved (ok' := fun _ => True) hb3.size fun b hb _ => ⟨trivial, hb3.block b hb⟩) HT.out.1 HT.out.2 A3.envC hl3 (by have := HLn.out; omega) (fun t ht => by obtain ⟨z, _, rfl⟩ := List.mem_map.1 ht; exact tySh_le z) (fun t ht => by obtain ⟨z, _, rfl⟩ := List.mem_map.1 ht; exact tySh_ok z) A3.big
  clear hb03 A3 hb3 hl3 HTy H2
  go_wp2_with fail
  go_at_call 17
  refine HC.out.mono ?_
  rintro e w4 ⟨hb4, k, q, er, rfl, hres⟩
  have hb04 := H3.out.1.trans (hb4.mono H3.out.1.size)
  have ha5 := alloc_below w4 (.cells #[.int .i64 k, .pointer q] 44)
  have hb45 : Below w3.heap.size w3 (w4.alloc (.cells #[.int .i64 k, .pointer q] 44)) := hb4.trans (ha5.mono hb4.size)
  have hb05 := H3.out.1.trans (hb45.mono H3.out.1.size)
  have A5 := HA.out.1.below hb05
  have HC2 : Hid (Calls Tryz.prog 18 #[.pointer p, lv] (w4.alloc (.cells #[.int .i64 k, .pointer q] 44)) (GotC (fun _ => True) (a 3) (a 4) (w4.alloc (.cells #[.int .i64 k, .pointer q] 44)) (chk (zs.map tySh) x []))) :=
   rCheck_any (H3.out.2.1.moved (ok' := fun _ => True) hb45.size fun b hb _ => ⟨trivial, hb45.block b hb⟩) HT.out.1 HT.out.2 A5.envC (H3.out.2.2.below hb45) (by have := HLn.out; omega) (fun _ _ => trivial)
  have H5 : Hid (Below w.heap.size w (w4.alloc (.cells #[.int .i64 k, .pointer q] 44)) ∧ TyAt (w4.alloc (.cells #[.int .i64 k, .pointer q] 44)) w4.heap.size k q ∧ ((∃ s, chk (zs.map tySh) x [] = .ok s ∧ er = .nilIface ∧ TyA (fun _ => True) (w4.alloc (.cells #[.int .i64 k, .pointer q] 44)) s (.agg #[.int .i64 k, .pointer q])) ∨ ∃ b, chk (zs.map tySh) x [] = .error b ∧ er = errV (a 3) (a 4) b ∧ k = 0 ∧ q = none)) := by
   refine ⟨hb05, TyAt.new w4 k q, ?_⟩
   rcases hres with ⟨s, e1, e2, e3⟩ | h
   ·exact .inl ⟨s, e1, e2, (e3.imp fun _ _ _ => trivial).below ha5⟩
   ·exact .inr h
  clear hb04 ha5 hb45 hb05 A5 hb4 hres HC H3
  go_wp2_with fail
  generalize w4.heap.size = X at *
  generalize w4.alloc (.cells #[.int .i64 k, .pointer q] 44) = w5 at *
  go_at_call 18
  refine HC2.out.mono ?_
  rintro e w6 ⟨hb6, k2, q2, er2, rfl, hres2⟩
  have ha7 := alloc_below w6 (.cells #[.int .i64 k2, .pointer q2] 44)
  have hb57 := hb6.trans (ha7.mono hb6.size)
  have hb07 := H5.out.1.trans (hb57.mono H5.out.1.size)
  have H7 : Hid (Below w.heap.size w (w6.alloc (.cells #[.int .i64 k2, .pointer q2] 44)) ∧ TyAt (w6.alloc (.cells #[.int .i64 k2, .pointer q2] 44)) X k q ∧ TyAt (w6.alloc (.cells #[.int .i64 k2, .pointer q2] 44)) w6.heap.size k2 q2 ∧ BothC (w6.alloc (.cells #[.int .i64 k2, .pointer q2] 44)) (a 3) (a 4) k k2 q q2 er er2) := by
   refine ⟨hb07, H5.out.2.1.below hb57 H5.out.2.1.lt, TyAt.new w6 k2 q2, both_of (R := chk (zs.map tySh) x []) (HA.out.1.below hb07).err ?_ ?_⟩
   ·rcases H5.out.2.2 with ⟨s, e1, e2, e3⟩ | h
    ·exact .inl ⟨s, e1, e2, e3.below hb57⟩
    ·exact .inr h
   ·rcases hres2 with ⟨s, e1, e2, e3⟩ | h
    ·exact .inl ⟨s, e1, e2, e3.below ha7⟩
    ·exact .inr h
  clear hres2 ha7 hb57 hb07 hb6 HC2 H5 HT HLn HA
  go_wp2_with fail
  generalize w6.heap.size = Y at *
  generalize w6.alloc (.cells #[.int .i64 k2, .pointer q2] 44) = w7 at *
  have HTo := H7.out.2.2.2 w7 (Below.refl _ _)
  go_at_call 11
  refine HTo.mono ?_
  rintro e w8 ⟨rfl, hb8, hS⟩
  have t0 := (H7.out.2.1.below hb8 H7.out.2.1.lt).c0
  have t1 := (H7.out.2.1.below hb8 H7.out.2.1.lt).c1
  have u0 := (H7.out.2.2.1.below hb8 H7.out.2.2.1.lt).c0
  have u1 := (H7.out.2.2.1.below hb8 H7.out.2.2.1.lt).c1
  have HS : Hid (Calls Tryz.prog 19 #[.agg #[.int .i64 k, .pointer q], .agg #[.int .i64 k2, .pointer q2]] w8 fun e w'' => e = .returned (.bool true) ∧ Below w8.heap.size w8 w'') := hS
  have HB8 : Hid (Below w.heap.size w w8) := H7.out.1.trans (hb8.mono H7.out.1.size)
  clear HTo hb8 hS H7
  go_wp2_with fail
  go_at_call 19
  refine HS.out.mono ?_
  rintro e w9 ⟨rfl, hb9⟩
  have HB9 : Hid (Below w.heap.size w w9) := HB8.out.trans (hb9.mono HB8.out.size)
  clear hb9 HS HB8 t0 t1 u0 u1
  go_wp2
  go_ret
  exact ⟨rfl, HB9.out⟩

end Go.Proofs.YtgmmfpdekefamaaGreatDoor
