/- Texts of the proof, put together: QSoa, QLst. -/
import Derived.Test.YtgmmfpdekefamaaGreatDoorAt20
import Derived.Test.YtgmmfpdekefamaaGreatDoorAt18
namespace Go.Proofs.YtgmmfpdekefamaaGreatDoor
open Go.RowKit
set_option linter.unusedVariables false
set_option maxRecDepth 100000

theorem ar_two (l : List Sh) (a b : Int) : arP l [a, b] 0 = (decide (l.getD 0 noS = (0, a)) && decide (l.getD 1 noS = (0, b))) := by
 show (decide _ && (decide _ && true)) = _
 rw [Bool.and_true]
theorem ar_one (l : List Sh) (a : Int) : arP l [a] 0 = decide (l.getD 0 noS = (0, a)) := by
 show (decide _ && true) = _
 rw [Bool.and_true]
/-- where there is a join, both or none are lists, or texts -/
theorem join_cat {a b t : Sh} (ha : OkS a) (hb : OkS b) (h : joinP a b = some t) : catB a = (decide (1 ≤ t.1) || decide (t = (0, 2))) := by
 obtain ⟨la, ba⟩ := a
 obtain ⟨lb, bb⟩ := b
 have key : t = (la, ba) ∨ (t = (lb, bb) ∧ fitP (la, ba) (lb, bb) = true) := by
  unfold joinP at h
  split at h
  ·rename_i hf; cases h; exact .inr ⟨rfl, hf⟩
  ·split at h
   ·cases h; exact .inl rfl
   ·cases h
 unfold catB
 rcases key with rfl | ⟨rfl, hf⟩
 ·simp [Bool.or_comm]
 ·unfold fitP fitsB at hf
  unfold OkS at ha hb
  simp only [Bool.or_eq_true, Bool.and_eq_true, beq_iff_eq, decide_eq_true_eq] at hf
  simp only at ha hb ⊢
  rcases hf with ⟨rfl, rfl⟩ | ⟨rfl, h1⟩
  ·simp [Bool.or_comm]
  ·have h2 : 1 ≤ la := by omega
   have h3 : 1 ≤ lb := by omega
   simp [h2, h3]

theorem aoperated_any {w : World} {lv : Value} {l : List Sh} (op : ByteArray) (h : ShsR w lv l) (hl : l.length = 2) (h0 : OkS (l.getD 0 noS)) (h1 : OkS (l.getD 1 noS)) : Calls Tryz.prog 126 #[.string op, lv] w (GotS w (opP op.toList (l.getD 0 noS) (l.getD 1 noS))) := by
 unfold opP
 cases k1 : (op.toList == [61, 61])
 ·cases k2 : (op.toList == [60])
  ·cases k3 : (op.toList == [43, 43])
   ·refine aop_num h hl k1 k2 k3 ?_
    show _ = _
    rw [ar_two]
    unfold numB
    simp
   ·refine aop_cat h hl k1 k2 k3 ?_
    show _ = _
    simp only [Bool.false_eq_true, if_false, if_true]
    cases hj : joinP (l.getD 0 noS) (l.getD 1 noS) with
    | none => rfl
    | some t =>
     show (if catB _ = true then some t else none) = if _ = true then some t else none
     rw [join_cat h0 h1 hj]
  ·refine aop_less h hl k1 k2 ?_
   show _ = _
   rw [ar_two, ar_two]
   unfold ltB
   simp
 ·refine aop_eql h hl k1 ?_
  show _ = _
  simp

end Go.Proofs.YtgmmfpdekefamaaGreatDoor

namespace Go.Proofs.YtgmmfpdekefamaaGreatDoor
open Go.RowKit
set_option linter.unusedVariables false
set_option maxRecDepth 100000

def upS (s : Sh) : Sh := (s.1 + 1, s.2)
theorem join_up (a b : Sh) : joinP (upS a) (upS b) = (joinP a b).map upS := by
 obtain ⟨la, ba⟩ := a
 obtain ⟨lb, bb⟩ := b
 unfold joinP upS
 rw [fit_deep, fit_deep]
 by_cases h1 : fitP (la, ba) (lb, bb) = true
 ·rw [if_pos h1, if_pos h1]; rfl
 ·rw [if_neg h1, if_neg h1]
  by_cases h2 : fitP (lb, bb) (la, ba) = true
  ·rw [if_pos h2, if_pos h2]; rfl
  ·rw [if_neg h2, if_neg h2]; rfl
def fldS (o : Option Sh) (l : List Sh) : Option Sh := l.foldl (fun o s => o.bind fun t => joinP t s) o
theorem fold_up : ∀ (l : List Sh) (o : Option Sh), l.foldl (fun o s => o.bind fun t => joinP t (s.1 + 1, s.2)) (o.map upS) = (fldS o l).map upS
 | [], o => rfl
 | a :: l, o => by
  rw [List.foldl_cons]
  have e : (o.map upS).bind (fun t => joinP t (a.1 + 1, a.2)) = (o.bind fun t => joinP t a).map upS := by
   cases o with
   | none => rfl
   | some t => exact join_up t a
  rw [e, fold_up l]
  rfl
theorem lst_cons (a : Sh) (l : List Sh) : lstP (a :: l) = (fldS (some a) l).map upS := by
 unfold lstP
 rw [List.foldl_cons]
 have e : ((some ((1, 0) : Sh)).bind fun t => joinP t (a.1 + 1, a.2)) = (some a).map upS := by
  show joinP (1, 0) (a.1 + 1, a.2) = some (a.1 + 1, a.2)
  refine join_yes ?_
  unfold fitP fitsB
  simp
 rw [e]
 exact fold_up l (some a)
theorem fld_none : ∀ l : List Sh, fldS none l = none
 | [] => rfl
 | a :: l => fld_none l
theorem fld_take {a : Sh} {l : List Sh} {i : Nat} (h : i < l.length) : fldS (some a) (l.take (i + 1)) = (fldS (some a) (l.take i)).bind fun t => joinP t (l.getD i noS) := by
 unfold fldS
 rw [List.take_succ_eq_append_getElem h, List.foldl_append]
 simp [List.getD, h]
theorem fld_stop {a : Sh} {l : List Sh} {i : Nat} (h : fldS (some a) (l.take i) = none) : fldS (some a) l = none := by
 have e : fldS (some a) l = fldS (fldS (some a) (l.take i)) (l.drop i) := by
  unfold fldS
  rw [← List.foldl_append, List.take_append_drop]
 rw [e, h]
 exact fld_none _
/-- how deep joins may lie -/
theorem join_le {a b t : Sh} (h : joinP a b = some t) {N : Nat} (ha : a.1 ≤ N) (hb : b.1 ≤ N) : t.1 ≤ N := by
 unfold joinP at h
 split at h
 ·cases h; exact hb
 ·split at h
  ·cases h; exact ha
  ·cases h

/-- a list on its way: what is answered, and the shape so far -/
structure S2 (w W : World) (t : Sh) : Prop where
 bel : Below w.heap.size w W
 res : ShAt W w.heap.size 0 0
 typ : ShAt W (w.heap.size + 1) t.1 t.2
theorem S2.after {w W W' : World} {t : Sh} (h : S2 w W t) (hb : Below W.heap.size W W') : S2 w W' t := ⟨h.bel.trans (hb.mono h.bel.size), h.res.below hb h.res.lt, h.typ.below hb h.typ.lt⟩
theorem S2.put {w W : World} {t : Sh} (h : S2 w W t) (t' : Sh) : S2 w (putS W (w.heap.size + 1) t'.1 t'.2) t' := ⟨below_putS h.bel (by omega) _ _, h.res.other (by omega) _ _, h.typ.put _ _⟩

set_option maxHeartbeats 8000000 in
theorem alistof_any {w : World} {lv : Value} {l : List Sh} (h : ShsR w lv l) (hl : l.length ≤ 1000) (hN : ∀ s ∈ l, s.1 ≤ 100000) : Calls Tryz.prog 127 #[lv] w (GotS w (lstP l)) := by
 obtain ⟨a, c, rfl⟩ := h.slice
 have hcap := h.cap
 cases l with
 | nil =>
  have HT : Hid (ShAt (w.alloc (.cells #[.int .i64 1, .int .i64 0] 89)) w.heap.size 1 0 ∧ Below w.heap.size w (w.alloc (.cells #[.int .i64 1, .int .i64 0] 89))) := ⟨ShAt.new w 1 0, alloc_below w _⟩
  clear h hN
  have HV : Hid (lstP [] = some (1, 0)) := rfl
  generalize lstP [] = O at *
  simp only [List.length_nil]
  go_enter Tryz.func127, Tryz.ntmps127
  go_wp2
  generalize w.alloc (.cells #[.int .i64 1, .int .i64 0] 89) = W at *
  have s0 := HT.out.1.c0
  have s1 := HT.out.1.c1
  refine bodyPost_ret (v := .tuple #[.agg #[.int .i64 1, .int .i64 0], .bool true]) ?_ rfl ?_
  ·simp [results, go_sem, s0, s1]
  ·exact GotS.yes (s := (1, 0)) HV.out HT.out.2
 | cons s0' rest =>
  obtain ⟨g, off, rfl, hg, c0, c1⟩ := h.at (k := 0) (by simp)
  have HAt : Hid (∀ i, i < rest.length → w.cell? ⟨g, off + 2 + i * 2, none⟩ = some (.int .i64 (rest.getD i noS).1) ∧ w.cell? ⟨g, off + 2 + i * 2 + 1, none⟩ = some (.int .i64 (rest.getD i noS).2)) := fun i hi => by
   obtain ⟨g', off', e, _, d0, d1⟩ := h.at (k := i + 1) (by simpa using hi)
   simp only [Option.some.injEq, Addr.mk.injEq, and_true] at e
   obtain ⟨rfl, rfl⟩ := e
   rw [show off + 2 + i * 2 = off + (i + 1) * 2 by omega]
   exact ⟨by simpa using d0, by simpa using d1⟩
  have HV : Hid (lstP (s0' :: rest) = (fldS (some s0') rest).map upS) := lst_cons s0' rest
  generalize lstP (s0' :: rest) = O at *
  have HNn : Hid (s0'.1 ≤ 100000 ∧ ∀ s ∈ rest, s.1 ≤ 100000) := ⟨hN _ (by simp), fun s hs => hN s (by simp [hs])⟩
  have e0 : w.cell? ⟨g, off, none⟩ = some (.int .i64 s0'.1) := by simpa using c0
  have e1 : w.cell? ⟨g, off + 1, none⟩ = some (.int .i64 s0'.2) := by simpa using c1
  have HT : Hid (S2 w ((w.alloc (.cells #[.int .i64 0, .int .i64 0] 89)).alloc (.cells #[.int .i64 s0'.1, .int .i64 s0'.2] 89)) s0') := by
   have h2 := ShAt.new (w.alloc (.cells #[.int .i64 0, .int .i64 0] 89)) s0'.1 s0'.2
   have b2 := alloc_below (w.alloc (.cells #[.int .i64 0, .int .i64 0] 89)) (.cells #[.int .i64 s0'.1, .int .i64 s0'.2] 89)
   rw [alloc_size] at h2 b2
   exact ⟨two_below w _ _, (ShAt.new w 0 0).below b2 (by omega), h2⟩
  have hlen : ((s0' :: rest).length : Nat) = rest.length + 1 := rfl
  rw [hlen] at hl hcap ⊢
  clear h hN c0 c1 hlen
  by_cases hc1 : c = 1
  ·subst hc1
   have hr0 : rest.length = 0 := by omega
   have hzz : (rest.length : Int) = 0 := by omega
   go_enter Tryz.func127, Tryz.ntmps127
   go_wp2
   generalize (w.alloc (.cells #[.int .i64 0, .int .i64 0] 89)).alloc (.cells #[.int .i64 s0'.1, .int .i64 s0'.2] 89) = w1 at *
   go_loopw [19] (fun iv wr => ∃ (i : Nat) (lt : Nat) (bt : Int), iv = .int .i64 i ∧ i ≤ rest.length ∧ Hid (fldS (some s0') (rest.take i) = some (lt, bt) ∧ lt ≤ 100000) ∧ Hid (S2 w wr (lt, bt))) (fun iv _ => rest.length - (intOf iv).toNat)
   case atStart => exact ⟨0, s0'.1, s0'.2, rfl, Nat.zero_le _, ⟨rfl, HNn.out.1⟩, HT⟩
   case round =>
    clear HT e0 e1
    obtain ⟨i, lt, bt, rfl, hil, HF, HTr⟩ := hrel
    have hbr := HTr.out.bel
    have t0 := HTr.out.typ.c0
    have t1 := HTr.out.typ.c1
    have tl := HTr.out.typ.lt
    by_cases hlt : i < rest.length
    ·exfalso; omega
    ·obtain rfl : i = rest.length := by omega
     have HN : Hid (O = some (lt + 1, bt)) := by
      have e := HF.out.1
      rw [List.take_length] at e
      show _ = _
      rw [HV.out, e]; rfl
     have htl := HF.out.2
     simp only at t0 t1
     have hwr : IntKind.i64.wrap ((lt : Int) + 1) = ((lt + 1 : Nat) : Int) := by rw [IntKind.wrap_i64]; omega
     obtain ⟨W, hW, hbW, _, hTW⟩ := HTr.out.res.ret HTr.out.bel (Nat.le_refl _) ((lt + 1 : Nat) : Int) bt
     have HW : Hid (putS wr w.heap.size ((lt + 1 : Nat) : Int) bt = W) := hW
     have HG : Hid (GotS w O (.returned (.tuple #[shV (lt + 1, bt), .bool true])) W) := GotS.yes HN.out hbW
     have s0 := hTW.c0
     have s1 := hTW.c1
     have r0 := HTr.out.res.c0
     have r1 := HTr.out.res.c1
     have r2 := HTr.out.res.lt
     have r3 := HTr.out.res.fz 0
     have r4 := HTr.out.res.fz 1
     clear hW hbW hTW HN HTr HF HV htl hbr
     go_wp2
     have hW := HW.out
     unfold putS at hW
     simp only [Int.natCast_add, Int.natCast_one] at hW
     first | rw [hW] | (trace_state; fail)
     refine bodyPost_ret (v := .tuple #[.agg #[.int .i64 ((lt + 1 : Nat) : Int), .int .i64 bt], .bool true]) ?_ rfl ?_
     ·simp [results, go_sem, s0, s1]
     ·exact HG.out
  ·have hcI : (1 : Int) < (c : Int) := by omega
   have hcJ : (1 : Int) ≤ (c : Int) := by omega
   have hzz : (0 : Int) < (rest.length : Int) + 1 := by omega
   go_enter Tryz.func127, Tryz.ntmps127
   go_wp2
   generalize (w.alloc (.cells #[.int .i64 0, .int .i64 0] 89)).alloc (.cells #[.int .i64 s0'.1, .int .i64 s0'.2] 89) = w1 at *
   go_loopw [19] (fun iv wr => ∃ (i : Nat) (lt : Nat) (bt : Int), iv = .int .i64 i ∧ i ≤ rest.length ∧ Hid (fldS (some s0') (rest.take i) = some (lt, bt) ∧ lt ≤ 100000) ∧ Hid (S2 w wr (lt, bt))) (fun iv _ => rest.length - (intOf iv).toNat)
   case atStart => exact ⟨0, s0'.1, s0'.2, rfl, Nat.zero_le _, ⟨rfl, HNn.out.1⟩, HT⟩
   case round =>
    clear HT e0 e1
    obtain ⟨i, lt, bt, rfl, hil, HF, HTr⟩ := hrel
    have hbr := HTr.out.bel
    have t0 := HTr.out.typ.c0
    have t1 := HTr.out.typ.c1
    have tl := HTr.out.typ.lt
    by_cases hlt : i < rest.length
    ·have hltI : (i : Int) < (rest.length : Int) := by omega
     obtain ⟨c0, c1⟩ := HAt.out i hlt
     have d0 := (hbr.cell (p := ⟨g, off + 2 + i * 2, none⟩) hg).trans c0
     have d1 := (hbr.cell (p := ⟨g, off + 2 + i * 2 + 1, none⟩) hg).trans c1
     have hgr : g < wr.heap.size := Nat.lt_of_lt_of_le hg hbr.size
     have hmem : rest.getD i noS ∈ rest := by rw [List.getD_eq_getElem?_getD, List.getElem?_eq_getElem hlt]; exact List.getElem_mem hlt
     have HU : Hid ((rest.getD i noS).1 ≤ 100000) := HNn.out.2 _ hmem
     have HFS : Hid (fldS (some s0') (rest.take (i + 1)) = joinP (lt, bt) (rest.getD i noS)) := by
      show _ = _
      rw [fld_take hlt, HF.out.1]; rfl
     have HJo : Hid (∀ W, Calls Tryz.prog 125 #[shV (lt, bt), shV (rest.getD i noS)] W (GotS W (joinP (lt, bt) (rest.getD i noS)))) := fun W => ajoin_any _ _ W
     generalize rest.getD i noS = u at *
     obtain ⟨lu, bu⟩ := u
     unfold shV at HJo
     simp only at HJo d0 d1 t0 t1 HU
     clear c0 c1 hmem hbr
     go_wp2_with fail
     have ha4 := alloc_below wr (.cells #[.int .i64 lu, .int .i64 bu] 89)
     have HT4 : Hid (S2 w (wr.alloc (.cells #[.int .i64 lu, .int .i64 bu] 89)) (lt, bt)) := HTr.out.after ha4
     clear ha4 d0 d1 hgr t0 t1 tl
     generalize wr.heap.size = U at *
     generalize wr.alloc (.cells #[.int .i64 lu, .int .i64 bu] 89) = w4 at *
     go_at_call 125
     refine (HJo.out _).mono ?_
     rintro e w6 ⟨hb6, u6, yes, rfl, hy, hs⟩
     have HT6 : Hid (S2 w w6 (lt, bt)) := HT4.out.after hb6
     clear hb6 HJo HT4
     obtain ⟨l6, b6⟩ := u6
     unfold shV
     simp only
     have q0 := HT6.out.typ.c0
     have q1 := HT6.out.typ.c1
     have q2 := HT6.out.typ.lt
     have q3 := HT6.out.typ.fz 0
     have q4 := HT6.out.typ.fz 1
     have r0 := HT6.out.res.c0
     have r1 := HT6.out.res.c1
     have r2 := HT6.out.res.lt
     have r3 := HT6.out.res.fz 0
     have r4 := HT6.out.res.fz 1
     simp only at q0 q1
     cases hj : joinP (lt, bt) (lu, bu) with
     | none =>
      rw [hj] at hy
      simp at hy
      subst hy
      have HN : Hid (O = none) := by
       show _ = _
       rw [HV.out, fld_stop (i := i + 1) (by rw [HFS.out, hj])]; rfl
      obtain ⟨W, hW, hbW, _, hTW⟩ := HT6.out.res.ret HT6.out.bel (Nat.le_refl _) 0 0
      have ha7 := alloc_below W (.cells #[.int .i64 l6, .int .i64 b6] 89)
      have hTW2 := hTW.below ha7 hTW.lt
      have HW : Hid (putS w6 w.heap.size 0 0 = W) := hW
      have HG : Hid (GotS w O (.returned (.tuple #[shV (0, 0), .bool false])) (W.alloc (.cells #[.int .i64 l6, .int .i64 b6] 89))) := GotS.no _ HN.out (hbW.trans (ha7.mono hbW.size))
      have s0 := hTW2.c0
      have s1 := hTW2.c1
      have ne1 : w6.heap.size ≠ w.heap.size := by omega
      clear hW hbW hTW hTW2 HN HT6 HTr ha7 hs hj HFS HF HV HU
      go_wp2
      have hW := HW.out
      unfold putS at hW
      rw [hW]
      generalize W.alloc (.cells #[.int .i64 l6, .int .i64 b6] 89) = W2 at *
      refine bodyPost_ret (v := .tuple #[.agg #[.int .i64 0, .int .i64 0], .bool false]) ?_ rfl ?_
      ·simp [results, go_sem, s0, s1]
      ·exact HG.out
     | some t' =>
      rw [hj] at hy
      simp at hy
      subst hy
      obtain rfl := hs t' hj
      have ha7 := alloc_below (putS w6 (w.heap.size + 1) l6 b6) (.cells #[.int .i64 l6, .int .i64 b6] 89)
      have HT8 : Hid (S2 w ((putS w6 (w.heap.size + 1) l6 b6).alloc (.cells #[.int .i64 l6, .int .i64 b6] 89)) (l6, b6)) := (HT6.out.put (l6, b6)).after ha7
      have HF8 : Hid (fldS (some s0') (rest.take (i + 1)) = some (l6, b6) ∧ l6 ≤ 100000) := ⟨by rw [HFS.out, hj], join_le hj HF.out.2 HU.out⟩
      have ne1 : w6.heap.size ≠ w.heap.size + 1 := by omega
      clear HT6 HTr ha7 hs hj HFS HF HU
      go_wp2_with fail
      go_roundw
      case rel => exact ⟨i + 1, l6, b6, by go_num, by omega, HF8, HT8⟩
      case measure => simp [intOf]; omega
    ·obtain rfl : i = rest.length := by omega
     have HN : Hid (O = some (lt + 1, bt)) := by
      have e := HF.out.1
      rw [List.take_length] at e
      show _ = _
      rw [HV.out, e]; rfl
     have htl := HF.out.2
     simp only at t0 t1
     have hwr : IntKind.i64.wrap ((lt : Int) + 1) = ((lt + 1 : Nat) : Int) := by rw [IntKind.wrap_i64]; omega
     obtain ⟨W, hW, hbW, _, hTW⟩ := HTr.out.res.ret HTr.out.bel (Nat.le_refl _) ((lt + 1 : Nat) : Int) bt
     have HW : Hid (putS wr w.heap.size ((lt + 1 : Nat) : Int) bt = W) := hW
     have HG : Hid (GotS w O (.returned (.tuple #[shV (lt + 1, bt), .bool true])) W) := GotS.yes HN.out hbW
     have s0 := hTW.c0
     have s1 := hTW.c1
     have r0 := HTr.out.res.c0
     have r1 := HTr.out.res.c1
     have r2 := HTr.out.res.lt
     have r3 := HTr.out.res.fz 0
     have r4 := HTr.out.res.fz 1
     clear hW hbW hTW HN HTr HF HV htl hbr
     go_wp2
     have hW := HW.out
     unfold putS at hW
     simp only [Int.natCast_add, Int.natCast_one] at hW
     first | rw [hW] | (trace_state; fail)
     refine bodyPost_ret (v := .tuple #[.agg #[.int .i64 ((lt + 1 : Nat) : Int), .int .i64 bt], .bool true]) ?_ rfl ?_
     ·simp [results, go_sem, s0, s1]
     ·exact HG.out

end Go.Proofs.YtgmmfpdekefamaaGreatDoor
