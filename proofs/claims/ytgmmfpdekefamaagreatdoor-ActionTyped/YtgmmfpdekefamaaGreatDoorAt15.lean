/- Texts of the proof, put together: ACnt, QTyf, QTyg, QTygN, QTygL, QTygO, QTygI. -/
import Derived.Test.YtgmmfpdekefamaaGreatDoorAt14
import Derived.Test.YtgmmfpdekefamaaGreatDoorAt09
namespace Go.Proofs.YtgmmfpdekefamaaGreatDoor
open Go.RowKit
set_option linter.unusedVariables false
set_option maxRecDepth 100000

/-- all in it is well made -/
def wellE (t : Ex) : Bool := match t with
 | ⟨i, k, z, x, ks⟩ => (i && shapeB k z x ks.length) && (ks.map wellE).all id
theorem wellE_eq (t : Ex) : wellE t = ((t.is && shapeB t.kind t.num t.text t.kids.length) && (t.kids.map wellE).all id) := by obtain ⟨i, k, z, x, ks⟩ := t; rw [wellE]
theorem wellE_kid {t k : Ex} (h : wellE t = true) (hk : k ∈ t.kids) : wellE k = true := by
 rw [wellE_eq, Bool.and_eq_true, List.all_eq_true] at h
 exact h.2 _ (List.mem_map_of_mem hk)
theorem wellE_is {t : Ex} (h : wellE t = true) : t.is = true ∧ shapeB t.kind t.num t.text t.kids.length = true := by
 rw [wellE_eq, Bool.and_eq_true, Bool.and_eq_true] at h
 exact h.1
theorem wellE_of {t : Ex} (h1 : t.is = true) (h2 : shapeB t.kind t.num t.text t.kids.length = true) (h3 : ∀ k ∈ t.kids, wellE k = true) : wellE t = true := by
 rw [wellE_eq, h1, h2, Bool.true_and, Bool.true_and, List.all_eq_true]
 intro b hb
 obtain ⟨k, hk, rfl⟩ := List.mem_map.1 hb
 exact h3 k hk
/-- sizes of texts and of rows of kids, so deep -/
def TxB : Nat → Ex → Prop
 | 0, _ => True
 | n + 1, t => t.text.size ≤ 140737488351232 ∧ t.kids.length ≤ 140737488351232 ∧ ∀ k ∈ t.kids, TxB n k
def TxA (t : Ex) : Prop := ∀ n, TxB n t
theorem TxA.kid {t k : Ex} (h : TxA t) (hk : k ∈ t.kids) : TxA k := fun n => (h (n + 1)).2.2 k hk
theorem TxA.size {t : Ex} (h : TxA t) : t.text.size ≤ 140737488351232 ∧ t.kids.length ≤ 140737488351232 := ⟨(h 1).1, (h 1).2.1⟩

/-- how many there are, with those ahead; -1: it is not valid, or there are too many -/
def cntE (t : Ex) (z : Int) : Int := if wellE t = true ∧ z + (wtE t : Int) ≤ 200 then z + (wtE t : Int) else -1
theorem cntE_not {t : Ex} {z : Int} (h : wellE t = false) : cntE t z = -1 := by unfold cntE; rw [if_neg (by rw [h]; simp)]
theorem wtL_take {ks : List Ex} {i : Nat} (hi : i < ks.length) : wtL (ks.take (i + 1)) = wtL (ks.take i) + wtE (ks.getD i nilE) := by
 rw [List.take_succ_eq_append_getElem hi, wtL_append, wtL_one]
 simp [List.getD, hi]
theorem wtL_split (ks : List Ex) (i : Nat) : wtL ks = wtL (ks.take i) + wtL (ks.drop i) := by
 rw [← wtL_append, List.take_append_drop]
theorem getD_mem {ks : List Ex} {i : Nat} (hi : i < ks.length) : ks.getD i nilE ∈ ks := by
 rw [List.getD_eq_getElem?_getD, List.getElem?_eq_getElem hi]
 exact List.getElem_mem hi
theorem wtL_upto {ks : List Ex} {i : Nat} (hi : i < ks.length) : wtL (ks.take i) + wtE (ks.getD i nilE) ≤ wtL ks := by
 have h1 := wtL_split ks (i + 1)
 have h2 := wtL_take hi
 omega

set_option maxHeartbeats 4000000 in
theorem rcount_any {ok : Nat → Prop} {w : World} : ∀ (n : Nat) {v : Value} {t : Ex} (z : Int), IsEx ok n w v t → TxA t → 0 ≤ z → z ≤ 200 →
  Calls Tryz.prog 26 #[v, .int .i64 z] w fun e w' => e = .returned (.int .i64 (cntE t z)) ∧ w' = w
 | 0, v, t, z, h, _, _, _ => h.elim
 | n + 1, v, t, z, .inl ⟨h1, h2⟩, _, _, _ => by
  subst h2
  have HV : Hid (cntE t z = -1) := by rw [h1]; exact cntE_not (by rw [wellE_eq]; rfl)
  go_enter Tryz.func26, Tryz.ntmps26
  go_wp2
  go_ret
  exact ⟨by rw [HV.out]; rfl, rfl⟩
 | n + 1, v, t, z, .inr ⟨hi, b, kv, h1, h2, h3, h5⟩, hT, hz0, hz2 => by
  subst h1
  obtain ⟨ka, kc, rfl⟩ := h5.slice
  have c0 : w.cell? ⟨b, 0, none⟩ = some (.int .i64 t.kind) := cellsAtA h3 0 _ rfl
  have c1 : w.cell? ⟨b, 1, none⟩ = some (.int .i64 t.num) := cellsAtA h3 1 _ rfl
  have c2 : w.cell? ⟨b, 2, none⟩ = some (.string t.text) := cellsAtA h3 2 _ rfl
  have c3 : w.cell? ⟨b, 3, none⟩ = some (.slice ka t.kids.length kc) := cellsAtA h3 3 _ rfl
  have HS : Hid (Calls Tryz.prog 48 #[.pointer (some ⟨b, 0, none⟩)] w fun e w' => e = .returned (.bool (shapeB t.kind t.num t.text t.kids.length)) ∧ w' = w) := rshape_any hT.size.1 c0 c1 c2 c3
  have hkl := hT.size.2
  by_cases hz : z = 200
  ·have HV : Hid (cntE t z = -1) := by show _ = _; unfold cntE; rw [if_neg]; intro h; have := wtE_pos t; omega
   subst hz
   clear h3 h5 hT HS c0 c1 c2 c3
   go_enter Tryz.func26, Tryz.ntmps26
   go_wp2
   go_ret
   exact ⟨by rw [HV.out]; rfl, rfl⟩
  ·have hge : decide (z ≥ 200) = false := decide_eq_false (by omega)
   cases hsh : shapeB t.kind t.num t.text t.kids.length
   ·rw [hsh] at HS
    have HV : Hid (cntE t z = -1) := cntE_not (by rw [wellE_eq, hsh, Bool.and_false]; rfl)
    clear h3 h5 hT c0 c1 c2 c3
    go_enter Tryz.func26, Tryz.ntmps26
    go_wp2_with (go_at_call 48; refine HS.out.mono ?_; rintro e w' ⟨rfl, hw⟩; obtain rfl := hw.symm; clear hw)
    go_ret
    exact ⟨by rw [HV.out]; rfl, rfl⟩
   ·rw [hsh] at HS
    have HKid : Hid (∀ i, i < t.kids.length → ∀ z', 0 ≤ z' → z' ≤ 200 → ∃ g off u, ka = some ⟨g, off, none⟩ ∧ g < w.heap.size ∧ w.cell? ⟨g, off + i, none⟩ = some u ∧ Calls Tryz.prog 26 #[u, .int .i64 z'] w fun e w' => e = .returned (.int .i64 (cntE (t.kids.getD i nilE) z')) ∧ w' = w) := fun i hik z' h0 h2' => by
     obtain ⟨g, off, u, e1, e2, e3, e4⟩ := h5.at hik
     exact ⟨g, off, u, e1, e2, e3, rcount_any n z' e4 (hT.kid (getD_mem hik)) h0 h2'⟩
    have HW : Hid (wellE t = true ↔ ∀ k ∈ t.kids, wellE k = true) := ⟨fun h k hk => wellE_kid h hk, fun h => wellE_of hi hsh h⟩
    have HWt : Hid (wtE t = 1 + wtL t.kids) := wtE_eq t
    have hw1 : IntKind.i64.wrap (z + 1) = z + 1 := by rw [IntKind.wrap_i64]; omega
    clear h3 h5 hT hsh
    go_enter Tryz.func26, Tryz.ntmps26
    go_wp2_with (go_at_call 48; refine HS.out.mono ?_; rintro e w' ⟨rfl, hw⟩; obtain rfl := hw.symm; clear hw)
    go_loop [1, 6] (fun zv iv => ∃ (i : Nat) (z' : Int), zv = .int .i64 z' ∧ iv = .int .i64 i ∧ i ≤ t.kids.length ∧ z' ≤ 200 ∧ Hid (z' = z + 1 + (wtL (t.kids.take i) : Int)) ∧ Hid (∀ k ∈ t.kids.take i, wellE k = true)) (fun _ iv => t.kids.length - (intOf iv).toNat)
    case atStart => exact ⟨0, z + 1, rfl, rfl, by omega, by omega, by show _ = _; simp [wtL], fun k hk => by simp at hk⟩
    case round =>
     obtain ⟨i, z', rfl, rfl, hil, hz3, HZ, HA⟩ := hrel
     have hz0' : 0 ≤ z' := by have := HZ.out; omega
     by_cases hlt : i < t.kids.length
     ·obtain ⟨g, off, u, rfl, hg, cu, hC⟩ := HKid.out i hlt z' hz0' hz3
      have HC : Hid (Calls Tryz.prog 26 #[u, .int .i64 z'] w fun e w' => e = .returned (.int .i64 (cntE (t.kids.getD i nilE) z')) ∧ w' = w) := hC
      have hltI : (i : Int) < (t.kids.length : Int) := by omega
      by_cases hgood : wellE (t.kids.getD i nilE) = true ∧ z' + (wtE (t.kids.getD i nilE) : Int) ≤ 200
      ·have e1 : cntE (t.kids.getD i nilE) z' = z' + (wtE (t.kids.getD i nilE) : Int) := by unfold cntE; rw [if_pos hgood]
       rw [e1] at HC
       have HZ2 : Hid (z' + (wtE (t.kids.getD i nilE) : Int) = z + 1 + (wtL (t.kids.take (i + 1)) : Int)) := by
        have := HZ.out
        have h2 := wtL_take hlt
        show _ = _
        rw [h2]
        omega
       have HA2 : Hid (∀ k ∈ t.kids.take (i + 1), wellE k = true) := fun k hk => by
        rw [List.take_succ_eq_append_getElem hlt, List.mem_append] at hk
        rcases hk with hk | hk
        ·exact HA.out k hk
        ·have : k = t.kids.getD i nilE := by simp [List.getD, hlt] at hk ⊢; exact hk
         rw [this]
         exact hgood.1
       have hpos : ¬ z' + (wtE (t.kids.getD i nilE) : Int) < 0 := by omega
       have hle := hgood.2
       clear hgood e1 hC HKid HA HZ
       generalize (wtE (t.kids.getD i nilE) : Int) = wk at *
       generalize t.kids.length = nk at *
       go_wp2_with (go_at_call 26; refine HC.out.mono ?_; rintro e w' ⟨rfl, hw⟩; obtain rfl := hw.symm; clear hw)
       go_round
       case rel => exact ⟨i + 1, z' + wk, rfl, by go_num, by omega, hle, HZ2, HA2⟩
       case measure => simp [intOf]; omega
      ·have e1 : cntE (t.kids.getD i nilE) z' = -1 := by unfold cntE; rw [if_neg hgood]
       rw [e1] at HC
       have HV : Hid (cntE t z = -1) := by
        show _ = _
        unfold cntE
        rw [if_neg]
        rintro ⟨q1, q2⟩
        have hwk := HW.out.1 q1 _ (getD_mem hlt)
        have h3 := wtL_upto hlt
        have h4 := HWt.out
        have h5 := HZ.out
        exact hgood ⟨hwk, by omega⟩
       clear hgood e1 hC HKid HA HZ
       generalize t.kids.length = nk at *
       go_wp2_with (go_at_call 26; refine HC.out.mono ?_; rintro e w' ⟨rfl, hw⟩; obtain rfl := hw.symm; clear hw)
       go_ret
       exact ⟨by rw [HV.out]; rfl, rfl⟩
     ·obtain rfl : i = t.kids.length := by omega
      have HV : Hid (cntE t z = z') := by
       have h4 := HWt.out
       have h5 := HZ.out
       have h6 := HA.out
       rw [List.take_of_length_le (Nat.le_refl _)] at h5 h6
       show _ = _
       unfold cntE
       rw [if_pos ⟨HW.out.2 h6, by omega⟩]
       omega
      have hltI : ¬ (t.kids.length : Int) < (t.kids.length : Int) := by omega
      clear HKid HA HZ
      generalize t.kids.length = nk at *
      go_wp2
      go_ret
      exact ⟨by rw [HV.out]; rfl, rfl⟩

/-- valid -/
def okX (t : Ex) : Bool := wellE t && decide (wtE t ≤ 200)
set_option maxHeartbeats 2000000 in
theorem rexprok_any {ok : Nat → Prop} {w : World} {v : Value} {t : Ex} (h : Expr ok w v t) (hT : TxA t) : Calls Tryz.prog 8 #[v] w fun e w' => e = .returned (.bool (okX t)) ∧ w' = w := by
 obtain ⟨n, hn⟩ := h
 have HC : Hid (Calls Tryz.prog 26 #[v, .int .i64 0] w fun e w' => e = .returned (.int .i64 (cntE t 0)) ∧ w' = w) := rcount_any n 0 hn hT (by omega) (by omega)
 have HV : Hid (decide (cntE t 0 > 0) = okX t) := by
  show _ = _
  have hp := wtE_pos t
  unfold okX cntE
  by_cases h1 : wellE t = true
  ·by_cases h2 : wtE t ≤ 200
   ·rw [if_pos ⟨h1, by omega⟩, h1, decide_eq_true h2, decide_eq_true (by omega)]
    rfl
   ·rw [if_neg (fun h => h2 (by omega)), decide_eq_false h2, Bool.and_false]
    rfl
  ·rw [if_neg (fun h => h1 h.1)]
   have : wellE t = false := by simpa using h1
   rw [this]
   rfl
 generalize cntE t 0 = cz at *
 clear hn hT
 cases hd : decide (cz > 0)
 all_goals
  rw [hd] at HV
  go_enter Tryz.func8, Tryz.ntmps8
  go_wp2_with (go_at_call 26; refine HC.out.mono ?_; rintro e w' ⟨rfl, hw⟩; obtain rfl := hw.symm; clear hw)
  go_ret
  exact ⟨by rw [← HV.out]; rfl, rfl⟩

end Go.Proofs.YtgmmfpdekefamaaGreatDoor

namespace Go.Proofs.YtgmmfpdekefamaaGreatDoor
open Go.RowKit
set_option linter.unusedVariables false
set_option maxRecDepth 100000

theorem rtypeofcall_any {ok : Nat → Prop} {w : World} {f : ByteArray} {a : Option Addr} {n c : Nat} {l : List Sh} (h : TysR ok w (.slice a n c) l) (hn : n = l.length) (hlen : (l.length : Int) = kidsL f.toList) (h0 : 0 < l.length) (hok : ∀ g, w.heap.size ≤ g → ok g) :
  Calls Tryz.prog 132 #[.string f, .slice a n c] w (GotJ ok w (callP f.toList l)) := by
 obtain ⟨g, off, q0, q1, q2, rfl, hg, c0, c1, t0, k1, k2⟩ := h.three h0
 subst hn
 unfold callP
 unfold kidsL at hlen
 cases h1 : (f.toList == [108, 101, 110])
 ·cases h2 : (f.toList == [97, 116])
  ·cases h3 : (f.toList == [116, 101, 120, 116])
   ·cases h4 : (f.toList == [105, 110, 116])
    ·cases h5 : (f.toList == [110, 111, 100, 101])
     ·cases h6 : (f.toList == [116, 97, 103])
      ·refine call_kids (k1 := 0) h1 h2 h3 h4 h5 h6 hok h0 hg c0 ?_
       show _ = _
       rw [kd_four t0.ok]; simp
      ·refine call_tag h1 h2 h3 h4 h5 h6 h0 hg c0 ?_
       show _ = _
       rw [kd_four t0.ok]; simp
     ·have hl2 : 1 < l.length := by
       have e2 : f.toList = [110, 111, 100, 101] := by simpa using h5
       rw [e2] at hlen
       simp at hlen
       omega
      obtain ⟨d0, d1, t1⟩ := k1 hl2
      refine call_node h1 h2 h3 h4 h5 hok hl2 hg c0 d0 d1 t1 ?_
      show _ = _
      unfold nodeB
      rw [kd_two t0.ok]; simp
    ·have hl2 : 1 < l.length := by
      have e2 : f.toList = [105, 110, 116] := by simpa using h4
      rw [e2] at hlen
      simp at hlen
      omega
     obtain ⟨d0, d1, t1⟩ := k1 hl2
     refine call_int h1 h2 h3 h4 hl2 hg c0 d0 ?_
     show _ = _
     unfold intB
     rw [kd_two t0.ok, kd_one t1.ok]; simp
   ·refine call_text h1 h2 h3 h0 hg c0 ?_
    show _ = _
    rw [kd_one t0.ok]; simp
  ·have hl3 : 2 < l.length := by
    have e2 : f.toList = [97, 116] := by simpa using h2
    rw [e2] at hlen
    simp at hlen
    omega
   obtain ⟨d0, d1, t1⟩ := k1 (by omega)
   obtain ⟨d4, d5, t2⟩ := k2 hl3
   have hv : (((if (false : Bool) = true then (if lenB (l.getD 0 noS) = true then some (0, 1) else none) else if (true : Bool) = true then atP (l.getD 0 noS) (l.getD 1 noS) (l.getD 2 noS) else none) : Option Sh)) = atP (l.getD 0 noS) (l.getD 1 noS) (l.getD 2 noS) := by simp
   simp only [Bool.false_eq_true, if_false, if_true]
   unfold atP
   rw [← kd_three t0.ok, ← kd_one t1.ok]
   cases hk : ((kd (l.getD 0 noS) == 3) && (kd (l.getD 1 noS) == 1))
   ·exact call_at_no h1 h2 hl3 hg c0 d0 hk (by simp)
   ·rw [Bool.and_eq_true, beq_iff_eq, beq_iff_eq] at hk
    rw [hk.1] at c0 t0
    rw [hk.2] at d0
    rw [if_pos rfl]
    rcases TyM.form t0 with ⟨e1, e2, e3⟩ | ⟨e1, e2, e3⟩ | ⟨l', gz, kz, qz, e1, e2, e3, e4, e5⟩
    ·have := hk.1
     unfold kd at this
     rw [if_pos e1] at this
     omega
    ·have e5 : l.getD 0 noS = (1, 0) := Prod.ext e1 e2
     have e4 : q0 = none := by simpa using e3
     subst e4
     rw [if_pos e5]
     exact call_at_nil h1 h2 hl3 hg c0 c1 d0 d4 d5 t2 rfl
    ·have e6 : q0 = some ⟨gz, 0, none⟩ := by simpa using e2
     subst e6
     by_cases e7 : l.getD 0 noS = (1, 0)
     ·rw [e7] at e1 e5
      simp only at e1 e5
      obtain rfl : l' = 0 := by omega
      have := e5.2
      omega
     ·rw [if_neg e7]
      have e8 : (l.getD 0 noS).1 - 1 = l' := by omega
      rw [e8]
      exact call_at_yes (s0 := (l', (l.getD 0 noS).2)) h1 h2 hl3 hg c0 c1 d0 d4 d5 e4 e5 t2 rfl
 ·refine call_len h1 h0 hg c0 ?_
  show _ = _
  unfold lenB
  rw [kd_two t0.ok, kd_three t0.ok]; simp

end Go.Proofs.YtgmmfpdekefamaaGreatDoor

namespace Go.Proofs.YtgmmfpdekefamaaGreatDoor
open Go.RowKit
set_option linter.unusedVariables false
set_option maxRecDepth 100000

def ifP (a b c : Sh) : Option Sh := (joinP b c).bind fun t => if decide (a = (0, 1)) = true then some t else none
/-- the type of an expression whose kids have types -/
def typP (kind : Int) (tx : List UInt8) (l : List Sh) : Option Sh :=
 if kind = 5 then some (l.getD 1 noS)
 else if kind = 6 then ifP (l.getD 0 noS) (l.getD 1 noS) (l.getD 2 noS)
 else if kind = 8 then (if decide (l.getD 0 noS = (0, 1)) = true then some (l.getD 0 noS) else none)
 else if kind = 9 then lstP l
 else if kind = 7 then opP tx (l.getD 0 noS) (l.getD 1 noS)
 else callP tx l

set_option maxHeartbeats 8000000 in
theorem typ_let {ok : Nat → Prop} {w : World} {b : Nat} {a c : Nat} {g off : Nat} {s1 : Sh} {k1 : Int} {q1 : Option Addr} (hb : b < w.heap.size) (e0 : w.cell? ⟨b, 0, none⟩ = some (.int .i64 5)) (hg : g < w.heap.size) (c2 : w.cell? ⟨g, off + 2, none⟩ = some (.int .i64 k1)) (c3 : w.cell? ⟨g, off + 3, none⟩ = some (.pointer q1)) (ht : TyA ok w s1 (.agg #[.int .i64 k1, .pointer q1])) (hm : 1 < a) :
  Calls Tryz.prog 73 #[.pointer (some ⟨b, 0, none⟩), .slice (some ⟨g, off, none⟩) a c] w (GotJ ok w (some s1)) := by
 have HRA : Hid (TyAt (w.alloc (.cells #[.int .i64 k1, .pointer q1] 44)) w.heap.size k1 q1 ∧ Below w.heap.size w (w.alloc (.cells #[.int .i64 k1, .pointer q1] 44))) := ⟨TyAt.new w k1 q1, alloc_below w _⟩
 have HT : Hid (TyA ok (w.alloc (.cells #[.int .i64 k1, .pointer q1] 44)) s1 (.agg #[.int .i64 k1, .pointer q1])) := ht.below HRA.out.2
 have hmI : (1 : Int) < (a : Int) := by omega
 clear ht
 go_enter Tryz.func73, Tryz.ntmps73
 go_wp2
 generalize w.alloc (.cells #[.int .i64 k1, .pointer q1] 44) = W at *
 have s0 := HRA.out.1.c0
 have s1 := HRA.out.1.c1
 refine bodyPost_ret (v := .tuple #[.agg #[.int .i64 k1, .pointer q1], .bool true]) ?_ rfl ?_
 ·simp [results, go_sem, s0, s1]
 ·exact GotJ.yes rfl HRA.out.2 HT.out
end Go.Proofs.YtgmmfpdekefamaaGreatDoor

namespace Go.Proofs.YtgmmfpdekefamaaGreatDoor
open Go.RowKit
set_option linter.unusedVariables false
set_option maxRecDepth 100000

set_option maxHeartbeats 8000000 in
theorem typ_neg {ok : Nat → Prop} {w : World} {b : Nat} {a c : Nat} {g off : Nat} {s0 : Sh} {k0 : Int} {q0 : Option Addr} {o : Option Sh} (hb : b < w.heap.size) (e0 : w.cell? ⟨b, 0, none⟩ = some (.int .i64 8)) (hg : g < w.heap.size) (c0 : w.cell? ⟨g, off, none⟩ = some (.int .i64 k0)) (c1 : w.cell? ⟨g, off + 1, none⟩ = some (.pointer q0)) (ht : TyA ok w s0 (.agg #[.int .i64 k0, .pointer q0])) (hm : 0 < a) (HV : Hid (o = if (k0 == 1) = true then some s0 else none)) :
  Calls Tryz.prog 73 #[.pointer (some ⟨b, 0, none⟩), .slice (some ⟨g, off, none⟩) a c] w (GotJ ok w o) := by
 have HRA : Hid (TyAt (w.alloc (.cells #[.int .i64 k0, .pointer q0] 44)).drew w.heap.size k0 q0 ∧ Below w.heap.size w (w.alloc (.cells #[.int .i64 k0, .pointer q0] 44)).drew) := ⟨TyAt.new w k0 q0, below_drewG (alloc_below w _) 1⟩
 have HT : Hid (TyA ok (w.alloc (.cells #[.int .i64 k0, .pointer q0] 44)).drew s0 (.agg #[.int .i64 k0, .pointer q0])) := ht.below HRA.out.2
 have hmI : (0 : Int) < (a : Int) := by omega
 clear ht
 have ne1 : w.heap.size ≠ g := by omega
 cases h1 : (k0 == 1)
 all_goals
  go_enter Tryz.func73, Tryz.ntmps73
  go_wp2_with fail
  go_big_region
  go_wp2
  generalize (w.alloc (.cells #[.int .i64 k0, .pointer q0] 44)).drew = W at *
  have s0 := HRA.out.1.c0
  have s1 := HRA.out.1.c1
 ·refine bodyPost_ret (v := .tuple #[.agg #[.int .i64 k0, .pointer q0], .bool false]) ?_ rfl ?_
  ·simp [results, go_sem, s0, s1]
  ·exact GotJ.no (by have := HV.out; rw [h1] at this; simpa using this) HRA.out.2
 ·refine bodyPost_ret (v := .tuple #[.agg #[.int .i64 k0, .pointer q0], .bool true]) ?_ rfl ?_
  ·simp [results, go_sem, s0, s1]
  ·exact GotJ.yes (by have := HV.out; rw [h1] at this; simpa using this) HRA.out.2 HT.out
end Go.Proofs.YtgmmfpdekefamaaGreatDoor

namespace Go.Proofs.YtgmmfpdekefamaaGreatDoor
open Go.RowKit
set_option linter.unusedVariables false
set_option maxRecDepth 100000

set_option maxHeartbeats 8000000 in
theorem typ_list {ok : Nat → Prop} {w : World} {b : Nat} {a : Option Addr} {n c : Nat} {l : List Sh} {o : Option Sh} (hb : b < w.heap.size) (e0 : w.cell? ⟨b, 0, none⟩ = some (.int .i64 9)) (h : TysR ok w (.slice a n c) l) (hl : l.length ≤ 100000) (hok : ∀ g, w.heap.size ≤ g → ok g) (ho : o = lstP l) :
  Calls Tryz.prog 73 #[.pointer (some ⟨b, 0, none⟩), .slice a n c] w (GotJ ok w o) := by
 have HJ : Hid (J1 w (w.alloc (.cells #[.int .i64 0, .pointer none] 44))) := J1.new w
 have HL : Hid (∀ W, Below w.heap.size w W → w.heap.size < W.heap.size → Calls Tryz.prog 130 #[.slice a n c] W (GotJ (fun g => ok g ∧ g ≠ w.heap.size) W o)) := fun W hW hs => by
  rw [ho]
  have h1 : TysR (fun g => ok g ∧ g ≠ w.heap.size) w (.slice a n c) l := by
   obtain ⟨a', c', e1, e2⟩ := h
   refine ⟨a', c', e1, e2.imp id fun ⟨g, off, e, hg, hc⟩ => ⟨g, off, e, hg, fun j hj => ?_⟩⟩
   obtain ⟨k, q, d0, d1, ht⟩ := hc j hj
   exact ⟨k, q, d0, d1, ht.all.imp fun g _ hk => ⟨hk.1, by omega⟩⟩
  exact rtypeoflist_any (h1.below hW) hl fun g hg => ⟨hok g (by omega), by omega⟩
 clear h hok ho
 go_enter Tryz.func73, Tryz.ntmps73
 go_wp2_with fail
 generalize w.alloc (.cells #[.int .i64 0, .pointer none] 44) = w1 at *
 go_at_call 130
 refine (HL.out _ HJ.out.bel HJ.out.r.lt).mono ?_
 rintro e w8 ⟨hb8, k9, q9, yes, rfl, hy, hts⟩
 clear HL
 have HJ8 : Hid (J1 w w8) := HJ.out.after hb8
 have r0 := HJ8.out.r.c0
 have r1 := HJ8.out.r.c1
 have f0 := HJ8.out.r.fz 0
 have f1 := HJ8.out.r.fz 1
 have rr := HJ8.out.r.lt
 obtain ⟨W, hW, hbW, _, hTW⟩ := HJ8.out.r.ret HJ8.out.bel (Nat.le_refl _) k9 q9
 have HW : Hid (putY w8 w.heap.size k9 q9 = W) := hW
 have s0 := hTW.c0
 have s1 := hTW.c1
 have HG : Hid (GotJ ok w o (.returned (.tuple #[.agg #[.int .i64 k9, .pointer q9], .bool yes])) W) := ⟨hbW, k9, q9, yes, rfl, hy, fun s hs => by
  rw [← hW]
  exact ((hts s hs).over (fun g hg => hg.2) k9 q9).imp fun g _ hg => hg.1⟩
 clear hW hbW hTW hts hy hb8 HJ8 HJ
 go_wp2
 have hW := HW.out
 unfold putY at hW
 rw [hW]
 refine bodyPost_ret (v := .tuple #[.agg #[.int .i64 k9, .pointer q9], .bool yes]) ?_ rfl ?_
 ·simp [results, go_sem, s0, s1]
 ·exact HG.out
set_option maxHeartbeats 8000000 in
theorem typ_call {ok : Nat → Prop} {w : World} {b : Nat} {a : Option Addr} {n c : Nat} {l : List Sh} {o : Option Sh} {f : ByteArray} (hb : b < w.heap.size) (e0 : w.cell? ⟨b, 0, none⟩ = some (.int .i64 10)) (e2 : w.cell? ⟨b, 2, none⟩ = some (.string f)) (h : TysR ok w (.slice a n c) l) (hn : n = l.length) (hlen : (l.length : Int) = kidsL f.toList) (h0 : 0 < l.length) (hok : ∀ g, w.heap.size ≤ g → ok g) (ho : o = callP f.toList l) :
  Calls Tryz.prog 73 #[.pointer (some ⟨b, 0, none⟩), .slice a n c] w (GotJ ok w o) := by
 have HJ : Hid (J1 w (w.alloc (.cells #[.int .i64 0, .pointer none] 44))) := J1.new w
 have HL : Hid (∀ W, Below w.heap.size w W → w.heap.size < W.heap.size → Calls Tryz.prog 132 #[.string f, .slice a n c] W (GotJ (fun g => ok g ∧ g ≠ w.heap.size) W o)) := fun W hW hs => by
  rw [ho]
  have h1 : TysR (fun g => ok g ∧ g ≠ w.heap.size) w (.slice a n c) l := by
   obtain ⟨a', c', e1, e2⟩ := h
   refine ⟨a', c', e1, e2.imp id fun ⟨g, off, e, hg, hc⟩ => ⟨g, off, e, hg, fun j hj => ?_⟩⟩
   obtain ⟨k, q, d0, d1, ht⟩ := hc j hj
   exact ⟨k, q, d0, d1, ht.all.imp fun g _ hk => ⟨hk.1, by omega⟩⟩
  exact rtypeofcall_any (h1.below hW) hn hlen h0 fun g hg => ⟨hok g (by omega), by omega⟩
 clear h hok ho hlen hn h0
 go_enter Tryz.func73, Tryz.ntmps73
 go_wp2_with fail
 generalize w.alloc (.cells #[.int .i64 0, .pointer none] 44) = w1 at *
 go_at_call 132
 refine (HL.out _ HJ.out.bel HJ.out.r.lt).mono ?_
 rintro e w8 ⟨hb8, k9, q9, yes, rfl, hy, hts⟩
 clear HL
 have HJ8 : Hid (J1 w w8) := HJ.out.after hb8
 have r0 := HJ8.out.r.c0
 have r1 := HJ8.out.r.c1
 have f0 := HJ8.out.r.fz 0
 have f1 := HJ8.out.r.fz 1
 have rr := HJ8.out.r.lt
 obtain ⟨W, hW, hbW, _, hTW⟩ := HJ8.out.r.ret HJ8.out.bel (Nat.le_refl _) k9 q9
 have HW : Hid (putY w8 w.heap.size k9 q9 = W) := hW
 have s0 := hTW.c0
 have s1 := hTW.c1
 have HG : Hid (GotJ ok w o (.returned (.tuple #[.agg #[.int .i64 k9, .pointer q9], .bool yes])) W) := ⟨hbW, k9, q9, yes, rfl, hy, fun s hs => by
  rw [← hW]
  exact ((hts s hs).over (fun g hg => hg.2) k9 q9).imp fun g _ hg => hg.1⟩
 clear hW hbW hTW hts hy hb8 HJ8 HJ
 go_wp2
 have hW := HW.out
 unfold putY at hW
 rw [hW]
 refine bodyPost_ret (v := .tuple #[.agg #[.int .i64 k9, .pointer q9], .bool yes]) ?_ rfl ?_
 ·simp [results, go_sem, s0, s1]
 ·exact HG.out
end Go.Proofs.YtgmmfpdekefamaaGreatDoor

namespace Go.Proofs.YtgmmfpdekefamaaGreatDoor
open Go.RowKit
set_option linter.unusedVariables false
set_option maxRecDepth 100000

set_option maxHeartbeats 8000000 in
theorem typ_op {ok : Nat → Prop} {w : World} {b : Nat} {a c : Nat} {g off : Nat} {s0 s1 : Sh} {k0 k1 : Int} {q0 q1 : Option Addr} {f : ByteArray} {o : Option Sh} (hb : b < w.heap.size) (e0 : w.cell? ⟨b, 0, none⟩ = some (.int .i64 7)) (e2 : w.cell? ⟨b, 2, none⟩ = some (.string f)) (hg : g < w.heap.size) (c0 : w.cell? ⟨g, off, none⟩ = some (.int .i64 k0)) (c1 : w.cell? ⟨g, off + 1, none⟩ = some (.pointer q0)) (c2 : w.cell? ⟨g, off + 2, none⟩ = some (.int .i64 k1)) (c3 : w.cell? ⟨g, off + 3, none⟩ = some (.pointer q1)) (ht0 : TyA ok w s0 (.agg #[.int .i64 k0, .pointer q0])) (ht1 : TyA ok w s1 (.agg #[.int .i64 k1, .pointer q1])) (hm : 1 < a) (ho : o = opP f.toList s0 s1) :
  Calls Tryz.prog 73 #[.pointer (some ⟨b, 0, none⟩), .slice (some ⟨g, off, none⟩) a c] w (GotJ ok w o) := by
 have HJ : Hid (J1 w (w.alloc (.cells #[.int .i64 0, .pointer none] 44))) := J1.new w
 have hm0 : 0 < a := by omega
 have hmI : (1 : Int) < (a : Int) := by omega
 have HO : Hid (∀ W, Below w.heap.size w W → Calls Tryz.prog 131 #[.string f, .agg #[.int .i64 k0, .pointer q0], .agg #[.int .i64 k1, .pointer q1]] W (GotJ (fun g => ok g ∧ g ≠ w.heap.size) W o)) := fun W hW => by
  rw [ho]
  exact rtypeofop_any f ((ht0.all.imp fun g _ hk => ⟨hk.1, by omega⟩).below hW) ((ht1.all.imp fun g _ hk => ⟨hk.1, by omega⟩).below hW)
 clear ht0 ht1 ho
 go_enter Tryz.func73, Tryz.ntmps73
 go_wp2_with fail
 generalize w.alloc (.cells #[.int .i64 0, .pointer none] 44) = w1 at *
 have hb1 := HJ.out.bel
 have hg1 : g < w1.heap.size := Nat.lt_of_lt_of_le hg hb1.size
 have hbl1 : b < w1.heap.size := Nat.lt_of_lt_of_le hb hb1.size
 have d0 : w1.cell? ⟨g, off, none⟩ = some (.int .i64 k0) := (hb1.cell (p := ⟨g, off, none⟩) hg).trans c0
 have d1 : w1.cell? ⟨g, off + 1, none⟩ = some (.pointer q0) := (hb1.cell (p := ⟨g, off + 1, none⟩) hg).trans c1
 have d2 : w1.cell? ⟨g, off + 2, none⟩ = some (.int .i64 k1) := (hb1.cell (p := ⟨g, off + 2, none⟩) hg).trans c2
 have d3 : w1.cell? ⟨g, off + 3, none⟩ = some (.pointer q1) := (hb1.cell (p := ⟨g, off + 3, none⟩) hg).trans c3
 have d4 : w1.cell? ⟨b, 2, none⟩ = some (.string f) := (hb1.cell (p := ⟨b, 2, none⟩) hb).trans e2
 have HC : Hid (Calls Tryz.prog 131 #[.string f, .agg #[.int .i64 k0, .pointer q0], .agg #[.int .i64 k1, .pointer q1]] w1.drew fun e w' => Below w1.heap.size w1 w' ∧ GotJ (fun g => ok g ∧ g ≠ w.heap.size) w1.drew o e w') := by
  have hd : Below w1.heap.size w1 w1.drew := below_drewG (Below.refl _ _) 1
  refine (HO.out w1.drew (hb1.trans (hd.mono hb1.size))).mono ?_
  rintro e w' h
  exact ⟨hd.trans h.1, h⟩
 have HX : Hid (∀ w', Below w1.heap.size w1 w' → w'.cell? ⟨g, off, none⟩ = some (.int .i64 k0) ∧ w'.cell? ⟨g, off + 1, none⟩ = some (.pointer q0) ∧ w'.cell? ⟨g, off + 2, none⟩ = some (.int .i64 k1) ∧ w'.cell? ⟨g, off + 3, none⟩ = some (.pointer q1) ∧ w'.cell? ⟨b, 2, none⟩ = some (.string f)) := fun w' hb =>
  ⟨(hb.cell (p := ⟨g, off, none⟩) hg1).trans d0, (hb.cell (p := ⟨g, off + 1, none⟩) hg1).trans d1, (hb.cell (p := ⟨g, off + 2, none⟩) hg1).trans d2, (hb.cell (p := ⟨g, off + 3, none⟩) hg1).trans d3, (hb.cell (p := ⟨b, 2, none⟩) hbl1).trans d4⟩
 clear HO hb1
 have ne1 : w.heap.size ≠ g := by omega
 have ne2 : w.heap.size ≠ b := by omega
 go_region_held3 (fun w' => w'.cell? ⟨g, off, none⟩ = some (.int .i64 k0) ∧ w'.cell? ⟨g, off + 1, none⟩ = some (.pointer q0) ∧ w'.cell? ⟨g, off + 2, none⟩ = some (.int .i64 k1) ∧ w'.cell? ⟨g, off + 3, none⟩ = some (.pointer q1) ∧ w'.cell? ⟨b, 2, none⟩ = some (.string f)) (go_keep) ((go_at_call 131; refine HC.out.mono ?_; rintro e w8 ⟨hb8, _, k9, q9, yes, rfl, hy, hts⟩; obtain ⟨y0, y1, y2, y3, y4⟩ := HX.out w8 hb8; have HY : Hid (yes = o.isSome) := hy; clear hy; have HTs : Hid (∀ s, o = some s → TyA (fun g => ok g ∧ g ≠ w.heap.size) w8 s (.agg #[.int .i64 k9, .pointer q9])) := hts; clear hts; have HJ8 : Hid (J1 w w8) := HJ.out.after hb8; have r0 := HJ8.out.r.c0; have r1 := HJ8.out.r.c1; have f0 := HJ8.out.r.fz 0; have f1 := HJ8.out.r.fz 1; have rr := HJ8.out.r.lt))
 obtain ⟨W, hW, hbW, _, hTW⟩ := HJ8.out.r.ret HJ8.out.bel (Nat.le_refl _) k9 q9
 have HW : Hid (putY w8 w.heap.size k9 q9 = W) := hW
 have s0 := hTW.c0
 have s1 := hTW.c1
 have HG : Hid (GotJ ok w o (.returned (.tuple #[.agg #[.int .i64 k9, .pointer q9], .bool yes])) W) := ⟨hbW, k9, q9, yes, rfl, HY.out, fun s hs => by
  rw [← hW]
  exact ((HTs.out s hs).over (fun g hg => hg.2) k9 q9).imp fun g _ hg => hg.1⟩
 clear hW hbW hTW HTs HY HJ8 HJ HC HX y0 y1 y2 y3 y4 d0 d1 d2 d3 d4 r0 r1 f0 f1 rr
 go_wp2
 have hW := HW.out
 unfold putY at hW
 rw [hW]
 refine bodyPost_ret (v := .tuple #[.agg #[.int .i64 k9, .pointer q9], .bool yes]) ?_ rfl ?_
 ·simp [results, go_sem, s0, s1]
 ·exact HG.out
end Go.Proofs.YtgmmfpdekefamaaGreatDoor

namespace Go.Proofs.YtgmmfpdekefamaaGreatDoor
open Go.RowKit
set_option linter.unusedVariables false
set_option maxRecDepth 100000

set_option maxHeartbeats 8000000 in
theorem typ_if {ok : Nat → Prop} {w : World} {b : Nat} {a c : Nat} {g off : Nat} {s1 s2 : Sh} {k0 k1 k2 : Int} {q1 q2 : Option Addr} {o : Option Sh} (hb : b < w.heap.size) (e0 : w.cell? ⟨b, 0, none⟩ = some (.int .i64 6)) (hg : g < w.heap.size) (c0 : w.cell? ⟨g, off, none⟩ = some (.int .i64 k0)) (c2 : w.cell? ⟨g, off + 2, none⟩ = some (.int .i64 k1)) (c3 : w.cell? ⟨g, off + 3, none⟩ = some (.pointer q1)) (c4 : w.cell? ⟨g, off + 4, none⟩ = some (.int .i64 k2)) (c5 : w.cell? ⟨g, off + 5, none⟩ = some (.pointer q2)) (ht1 : TyA ok w s1 (.agg #[.int .i64 k1, .pointer q1])) (ht2 : TyA ok w s2 (.agg #[.int .i64 k2, .pointer q2])) (hm : 2 < a) (HV : Hid (o = (joinP s1 s2).bind fun t => if (k0 == 1) = true then some t else none)) :
    Calls Tryz.prog 73 #[.pointer (some ⟨b, 0, none⟩), .slice (some ⟨g, off, none⟩) a c] w (GotJ ok w o) := by
  have HJ : Hid (J1 w (w.alloc (.cells #[.int .i64 0, .pointer none] 44))) := J1.new w
  have hm0 : 0 < a := by omega
  have hmI : (1 : Int) < (a : Int) := by omega
  have hmJ : (2 : Int) < (a : Int) := by omega
  generalize hO : joinP s1 s2 = O at *
  have HO : Hid (∀ W, Below w.heap.size w W → Calls Tryz.prog 129 #[.agg #[.int .i64 k1, .pointer q1], .agg #[.int .i64 k2, .pointer q2]] W (GotJ (fun g => ok g ∧ g ≠ w.heap.size ∧ g ≠ w.heap.size + 1) W O)) := fun W hW => by
    rw [← hO]
    exact rjoin_any _ ((ht1.all.imp fun g _ hk => ⟨hk.1, by omega, by omega⟩).below hW) ((ht2.all.imp fun g _ hk => ⟨hk.1, by omega, by omega⟩).below hW)
  clear ht1 ht2 hO
  go_enter Tryz.func73, Tryz.ntmps73
  go_wp2_with fail
  have hsz : Hid ((w.alloc (.cells #[.int .i64 0, .pointer none] 44)).heap.size = w.heap.size + 1) := alloc_size _ _
  generalize w.alloc (.cells #[.int .i64 0, .pointer none] 44) = w1 at *
  have hb1 := HJ.out.bel
  have hg1 : g < w1.heap.size := Nat.lt_of_lt_of_le hg hb1.size
  have d2 : w1.cell? ⟨g, off + 2, none⟩ = some (.int .i64 k1) := (hb1.cell (p := ⟨g, off + 2, none⟩) hg).trans c2
  have d3 : w1.cell? ⟨g, off + 3, none⟩ = some (.pointer q1) := (hb1.cell (p := ⟨g, off + 3, none⟩) hg).trans c3
  have d4 : w1.cell? ⟨g, off + 4, none⟩ = some (.int .i64 k2) := (hb1.cell (p := ⟨g, off + 4, none⟩) hg).trans c4
  have d5 : w1.cell? ⟨g, off + 5, none⟩ = some (.pointer q2) := (hb1.cell (p := ⟨g, off + 5, none⟩) hg).trans c5
  have HSA : Hid (Calls Tryz.prog 129 #[.agg #[.int .i64 k1, .pointer q1], .agg #[.int .i64 k2, .pointer q2]] (w1.alloc (.cells #[.int .i64 0, .pointer none] 44)).drew fun e w'' => ∃ k q yes, e = .returned (.tuple #[.agg #[.int .i64 k, .pointer q], .bool yes]) ∧ Hid (Below w1.heap.size w1 w'') ∧ Hid (TyAt w'' w1.heap.size 0 none) ∧ Hid (yes = O.isSome ∧ ∀ s, O = some s → TyA (fun g => ok g ∧ g ≠ w.heap.size ∧ g ≠ w.heap.size + 1) w'' s (.agg #[.int .i64 k, .pointer q]))) := by
    have hba : Below w1.heap.size w1 (w1.alloc (.cells #[.int .i64 0, .pointer none] 44)).drew := below_drewG (alloc_below _ _) 1
    have hbx : TyAt (w1.alloc (.cells #[.int .i64 0, .pointer none] 44)).drew w1.heap.size 0 none := TyAt.new w1 0 none
    refine (HO.out _ (hb1.trans (hba.mono hb1.size))).mono ?_
    rintro e w2 ⟨h1, k, q, yes, rfl, h2, h3⟩
    exact ⟨k, q, yes, rfl, hba.trans (h1.mono hba.size), hbx.below h1 hbx.lt, h2, h3⟩
  have HSB : Hid (Calls Tryz.prog 129 #[.agg #[.int .i64 k1, .pointer q1], .agg #[.int .i64 k2, .pointer q2]] w1.drew fun e w'' => ∃ k q yes, e = .returned (.tuple #[.agg #[.int .i64 k, .pointer q], .bool yes]) ∧ Hid (Below w1.heap.size w1 w'') ∧ Hid (yes = O.isSome ∧ ∀ s, O = some s → TyA (fun g => ok g ∧ g ≠ w.heap.size ∧ g ≠ w.heap.size + 1) w'' s (.agg #[.int .i64 k, .pointer q]))) := by
    have hba : Below w1.heap.size w1 w1.drew := below_drewG (Below.refl _ _) 1
    refine (HO.out _ (hb1.trans (hba.mono hb1.size))).mono ?_
    rintro e w2 ⟨h1, k, q, yes, rfl, h2, h3⟩
    exact ⟨k, q, yes, rfl, hba.trans (h1.mono hba.size), h2, h3⟩
  have HX : Hid (∀ w', Below w1.heap.size w1 w' → w'.cell? ⟨g, off + 2, none⟩ = some (.int .i64 k1) ∧ w'.cell? ⟨g, off + 3, none⟩ = some (.pointer q1) ∧ w'.cell? ⟨g, off + 4, none⟩ = some (.int .i64 k2) ∧ w'.cell? ⟨g, off + 5, none⟩ = some (.pointer q2)) := fun w' hb =>
    ⟨(hb.cell (p := ⟨g, off + 2, none⟩) hg1).trans d2, (hb.cell (p := ⟨g, off + 3, none⟩) hg1).trans d3, (hb.cell (p := ⟨g, off + 4, none⟩) hg1).trans d4, (hb.cell (p := ⟨g, off + 5, none⟩) hg1).trans d5⟩
  have ne1 : w1.heap.size ≠ g := by omega
  have hRl := HJ.out.r.lt
  clear HO
  go_region_held3 (fun w' => w'.cell? ⟨g, off + 2, none⟩ = some (.int .i64 k1) ∧ w'.cell? ⟨g, off + 3, none⟩ = some (.pointer q1) ∧ w'.cell? ⟨g, off + 4, none⟩ = some (.int .i64 k2) ∧ w'.cell? ⟨g, off + 5, none⟩ = some (.pointer q2)) (go_keep) ((first | (go_at_call 129; refine HSA.out.mono ?_; rintro e w8 ⟨k9, q9, yes, rfl, HB3, HT3, HY⟩; have u0 := HT3.out.c0; have u1 := HT3.out.c1; have u2 := HT3.out.fz 0; have u3 := HT3.out.fz 1; have u4 := HT3.out.lt; obtain ⟨y0, y1, y2, y3⟩ := HX.out w8 HB3.out) | (go_at_call 129; refine HSB.out.mono ?_; rintro e w8 ⟨k9, q9, yes, rfl, HB3, HY⟩; obtain ⟨y0, y1, y2, y3⟩ := HX.out w8 HB3.out)))
  all_goals clear d2 d3 d4 d5 HSA HSB HX y0 y1 y2 y3
  all_goals first
    | (have HBV : Hid (Below w1.heap.size w1 ((w8.setCell ⟨w1.heap.size, 0, none⟩ (.int .i64 k9)).setCell ⟨w1.heap.size, 1, none⟩ (.pointer q9))) := below_putY HB3.out (Nat.le_refl _) k9 q9
       have HTV : Hid (TyAt ((w8.setCell ⟨w1.heap.size, 0, none⟩ (.int .i64 k9)).setCell ⟨w1.heap.size, 1, none⟩ (.pointer q9)) w1.heap.size k9 q9) := HT3.out.put k9 q9
       have HYV : Hid (yes = O.isSome ∧ ∀ s, O = some s → TyA (fun g => ok g ∧ g ≠ w.heap.size ∧ g ≠ w.heap.size + 1) ((w8.setCell ⟨w1.heap.size, 0, none⟩ (.int .i64 k9)).setCell ⟨w1.heap.size, 1, none⟩ (.pointer q9)) s (.agg #[.int .i64 k9, .pointer q9])) := ⟨HY.out.1, fun s hs => by
         have e := hsz.out
         exact (HY.out.2 s hs).over (fun g hg => by have := hg.2.2; omega) k9 q9⟩
       clear HT3 HB3 HY u0 u1 u2 u3 u4
       generalize (w8.setCell ⟨w1.heap.size, 0, none⟩ (.int .i64 k9)).setCell ⟨w1.heap.size, 1, none⟩ (.pointer q9) = V at HBV HTV HYV ⊢
       generalize hY1 : w1.heap.size = Y at HTV ⊢
       have HYl : Hid (w1.heap.size ≤ Y) := Nat.le_of_eq hY1
       clear hY1)
    | (have HBV : Hid (Below w1.heap.size w1 (w8.alloc (.cells #[.int .i64 k9, .pointer q9] 44))) := HB3.out.trans ((alloc_below _ _).mono HB3.out.size)
       have HTV : Hid (TyAt (w8.alloc (.cells #[.int .i64 k9, .pointer q9] 44)) w8.heap.size k9 q9) := TyAt.new w8 k9 q9
       have HYV : Hid (yes = O.isSome ∧ ∀ s, O = some s → TyA (fun g => ok g ∧ g ≠ w.heap.size ∧ g ≠ w.heap.size + 1) (w8.alloc (.cells #[.int .i64 k9, .pointer q9] 44)) s (.agg #[.int .i64 k9, .pointer q9])) := ⟨HY.out.1, fun s hs => (HY.out.2 s hs).below (alloc_below _ _)⟩
       have HYl : Hid (w1.heap.size ≤ w8.heap.size) := HB3.out.size
       clear HB3 HY
       generalize w8.alloc (.cells #[.int .i64 k9, .pointer q9] 44) = V at HBV HTV HYV ⊢
       generalize w8.heap.size = Y at HTV HYl ⊢)
  all_goals
    have HJ5 : Hid (J1 w V) := HJ.out.after HBV.out
    have c0V : V.cell? ⟨g, off, none⟩ = some (.int .i64 k0) := (HJ5.out.bel.cell (p := ⟨g, off, none⟩) hg).trans c0
    have hgV : g < V.heap.size := Nat.lt_of_lt_of_le hg HJ5.out.bel.size
    have r0 := HJ5.out.r.c0
    have r1 := HJ5.out.r.c1
    have f0 := HJ5.out.r.fz 0
    have f1 := HJ5.out.r.fz 1
    have rr := HJ5.out.r.lt
    have u0 := HTV.out.c0
    have u1 := HTV.out.c1
    have u2 := HTV.out.lt
    have hYl := HYl.out
    have neY : w.heap.size ≠ Y := by have := hsz.out; omega
    have neg : w.heap.size ≠ g := by omega
    obtain ⟨W, hW, hbW, _, hTW⟩ := HJ5.out.r.ret HJ5.out.bel (Nat.le_refl _) k9 q9
    have hdr : Below W.heap.size W W.drew := below_drewG (Below.refl _ _) 1
    have HW : Hid (putY V w.heap.size k9 q9 = W) := hW
    have s0 := (hTW.below hdr hTW.lt).c0
    have s1 := (hTW.below hdr hTW.lt).c1
    have HBW : Hid (Below w.heap.size w W.drew) := hbW.trans (hdr.mono hbW.size)
    have HY : Hid (yes = O.isSome) := HYV.out.1
    have HTW : Hid (∀ s, O = some s → TyA ok W.drew s (.agg #[.int .i64 k9, .pointer q9])) := fun s hs => by
      refine TyA.below ?_ hdr
      rw [← hW]
      exact ((HYV.out.2 s hs).over (fun g hg => hg.2.1) k9 q9).imp fun g _ hg => hg.1
    clear hW hbW hTW HYV HTV HJ5 hdr HBV HYl hYl
    cases O with
    | none =>
      have hy : yes = false := HY.out
      subst hy
      have HV2 : Hid (o = none) := by have := HV.out; show _ = _; simpa using this
      clear HY HV HTW
      go_wp2_with fail
      go_big_region
      go_wp2
      have hW := HW.out
      unfold putY at hW
      rw [hW]
      generalize W.drew = V at *
      refine bodyPost_ret (v := .tuple #[.agg #[.int .i64 k9, .pointer q9], .bool false]) ?_ rfl ?_
      · simp [results, go_sem, s0, s1]
      · exact GotJ.no HV2.out HBW.out
    | some t =>
      have hy : yes = true := HY.out
      subst hy
      have HT2 : Hid (TyA ok W.drew t (.agg #[.int .i64 k9, .pointer q9])) := HTW.out t rfl
      cases h1 : (k0 == 1)
      · have HV2 : Hid (o = none) := by have := HV.out; rw [h1] at this; show _ = _; simpa using this
        clear HY HV HTW
        go_wp2_with fail
        go_big_region
        go_wp2
        have hW := HW.out
        unfold putY at hW
        rw [hW]
        generalize W.drew = V at *
        refine bodyPost_ret (v := .tuple #[.agg #[.int .i64 k9, .pointer q9], .bool false]) ?_ rfl ?_
        · simp [results, go_sem, s0, s1]
        · exact GotJ.no HV2.out HBW.out
      · have HV2 : Hid (o = some t) := by have := HV.out; rw [h1] at this; show _ = _; simpa using this
        clear HY HV HTW
        go_wp2_with fail
        go_big_region
        go_wp2
        have hW := HW.out
        unfold putY at hW
        rw [hW]
        generalize W.drew = V at *
        refine bodyPost_ret (v := .tuple #[.agg #[.int .i64 k9, .pointer q9], .bool true]) ?_ rfl ?_
        · simp [results, go_sem, s0, s1]
        · exact GotJ.yes HV2.out HBW.out HT2.out
end Go.Proofs.YtgmmfpdekefamaaGreatDoor
