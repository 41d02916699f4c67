/- Texts of the proof, put together: QTyr, QTyl. -/
import Derived.Test.YtgmmfpdekefamaaGreatDoorAt05
namespace Go.Proofs.YtgmmfpdekefamaaGreatDoor
open Go.RowKit
set_option linter.unusedVariables false
set_option maxRecDepth 100000

def noS : Sh := (0, 0)
theorem TyM.all {ok : Nat → Prop} {w : World} : ∀ {l : Nat} {b : Int} {v : Value}, TyM ok w l b v → TyM (fun g => ok g ∧ g < w.heap.size) w l b v
 | 0, b, v, h => h
 | l + 1, b, v, .inl h => .inl h
 | l + 1, b, v, .inr ⟨g, k, q, h1, h2, h3, h4⟩ => .inr ⟨g, k, q, h1, ⟨h2, (Array.getElem?_eq_some_iff.1 h3).1⟩, h3, h4.all⟩
theorem TyA.all {ok : Nat → Prop} {w : World} {s : Sh} {v : Value} (h : TyA ok w s v) : TyA (fun g => ok g ∧ g < w.heap.size) w s v := TyM.all h
/-- types in a row -/
def TysR (ok : Nat → Prop) (w : World) (v : Value) (l : List Sh) : Prop := ∃ a c, v = .slice a l.length c ∧ (l = [] ∨ ∃ g off, a = some ⟨g, off, none⟩ ∧ g < w.heap.size ∧ ∀ j, j < l.length → ∃ k q, w.cell? ⟨g, off + j * 2, none⟩ = some (.int .i64 k) ∧ w.cell? ⟨g, off + j * 2 + 1, none⟩ = some (.pointer q) ∧ TyA ok w (l.getD j noS) (.agg #[.int .i64 k, .pointer q]))
theorem TysR.below {ok : Nat → Prop} {w w' : World} {v : Value} {l : List Sh} (h : TysR ok w v l) (hb : Below w.heap.size w w') : TysR ok w' v l := by
 obtain ⟨a, c, h1, h2⟩ := h
 refine ⟨a, c, h1, h2.imp id fun ⟨g, off, e, hg, hc⟩ => ⟨g, off, e, Nat.lt_of_lt_of_le hg hb.size, fun j hj => ?_⟩⟩
 obtain ⟨k, q, c0, c1, ht⟩ := hc j hj
 exact ⟨k, q, (hb.cell (p := ⟨g, off + j * 2, none⟩) hg).trans c0, (hb.cell (p := ⟨g, off + j * 2 + 1, none⟩) hg).trans c1, ht.below hb⟩
theorem TysR.slice {ok : Nat → Prop} {w : World} {v : Value} {l : List Sh} (h : TysR ok w v l) : ∃ a c, v = .slice a l.length c := by
 obtain ⟨a, c, e, _⟩ := h; exact ⟨a, c, e⟩
theorem TyA.kd {ok : Nat → Prop} {w : World} {s : Sh} {k : Int} {q : Option Addr} (h : TyA ok w s (.agg #[.int .i64 k, .pointer q])) : k = Proofs.YtgmmfpdekefamaaGreatDoor.kd s := by
 obtain ⟨q', e⟩ := h.shape
 simp at e
 exact e.1
theorem TysR.imp {ok ok' : Nat → Prop} {w : World} {v : Value} {l : List Sh} (h : TysR ok w v l) (hm : ∀ g, g < w.heap.size → ok g → ok' g) : TysR ok' w v l := by
 obtain ⟨a, c, h1, h2⟩ := h
 refine ⟨a, c, h1, h2.imp id fun ⟨g, off, e, hg, hc⟩ => ⟨g, off, e, hg, fun j hj => ?_⟩⟩
 obtain ⟨k, q, c0, c1, ht⟩ := hc j hj
 exact ⟨k, q, c0, c1, ht.imp hm⟩
theorem TysR.at {ok : Nat → Prop} {w : World} {a : Option Addr} {n c : Nat} {l : List Sh} (h : TysR ok w (.slice a n c) l) {k : Nat} (hk : k < l.length) : ∃ g off q, a = some ⟨g, off, none⟩ ∧ g < w.heap.size ∧ w.cell? ⟨g, off + k * 2, none⟩ = some (.int .i64 (kd (l.getD k noS))) ∧ w.cell? ⟨g, off + k * 2 + 1, none⟩ = some (.pointer q) ∧ TyA ok w (l.getD k noS) (.agg #[.int .i64 (kd (l.getD k noS)), .pointer q]) := by
 obtain ⟨a', c', e, h2⟩ := h
 obtain ⟨rfl, rfl, rfl⟩ : a = a' ∧ n = l.length ∧ c = c' := by simpa using e
 rcases h2 with rfl | ⟨b, off, rfl, hb, hc⟩
 ·simp at hk
 ·obtain ⟨k', q, c0, c1, ht⟩ := hc k hk
  have := ht.kd
  subst this
  exact ⟨b, off, q, rfl, hb, c0, c1, ht⟩

set_option maxHeartbeats 4000000 in
theorem ronly_any (k : Int) (w : World) : Calls Tryz.prog 47 #[.int .i64 k] w fun e w' => e = .returned (.agg #[.int .i64 k, .pointer none]) ∧ Below w.heap.size w w' := by
 have HT : Hid (TyAt (w.alloc (.cells #[.int .i64 k, .pointer none] 44)) w.heap.size k none ∧ Below w.heap.size w (w.alloc (.cells #[.int .i64 k, .pointer none] 44))) := ⟨TyAt.new w k none, alloc_below w _⟩
 go_enter Tryz.func47, Tryz.ntmps47
 go_wp2
 generalize w.alloc (.cells #[.int .i64 k, .pointer none] 44) = W at *
 have s0 := HT.out.1.c0
 have s1 := HT.out.1.c1
 refine bodyPost_ret (v := .agg #[.int .i64 k, .pointer none]) ?_ rfl ?_
 ·simp [results, go_sem, s0, s1]
 ·exact ⟨rfl, HT.out.2⟩
set_option maxHeartbeats 4000000 in
theorem rlistof_any {ok : Nat → Prop} {w : World} {s : Sh} {k : Int} {q : Option Addr} (h : TyA ok w s (.agg #[.int .i64 k, .pointer q])) (hok : ∀ g, w.heap.size ≤ g → ok g) : Calls Tryz.prog 168 #[.agg #[.int .i64 k, .pointer q]] w fun e w' => ∃ q', e = .returned (.agg #[.int .i64 3, .pointer q']) ∧ Below w.heap.size w w' ∧ TyA ok w' (s.1 + 1, s.2) (.agg #[.int .i64 3, .pointer q']) := by
 have b1 := alloc_below w (.cells #[.int .i64 k, .pointer q] 44)
 have b2 := alloc_below (w.alloc (.cells #[.int .i64 k, .pointer q] 44)) (.cells #[.int .i64 3, .pointer (some ⟨w.heap.size + 1 + 1, 0, none⟩)] 44)
 have b3 := alloc_below ((w.alloc (.cells #[.int .i64 k, .pointer q] 44)).alloc (.cells #[.int .i64 3, .pointer (some ⟨w.heap.size + 1 + 1, 0, none⟩)] 44)) (.cells #[.int .i64 k, .pointer q] 44)
 have t2 := TyAt.new (w.alloc (.cells #[.int .i64 k, .pointer q] 44)) 3 (some ⟨w.heap.size + 1 + 1, 0, none⟩)
 have t3 := TyAt.new ((w.alloc (.cells #[.int .i64 k, .pointer q] 44)).alloc (.cells #[.int .i64 3, .pointer (some ⟨w.heap.size + 1 + 1, 0, none⟩)] 44)) k q
 rw [alloc_size] at b2 t2
 rw [alloc_size, alloc_size] at b3 t3
 have hb : Below w.heap.size w (((w.alloc (.cells #[.int .i64 k, .pointer q] 44)).alloc (.cells #[.int .i64 3, .pointer (some ⟨w.heap.size + 1 + 1, 0, none⟩)] 44)).alloc (.cells #[.int .i64 k, .pointer q] 44)) := b1.trans ((b2.mono (by omega)).trans (b3.mono (by omega)))
 have HT : Hid (TyAt (((w.alloc (.cells #[.int .i64 k, .pointer q] 44)).alloc (.cells #[.int .i64 3, .pointer (some ⟨w.heap.size + 1 + 1, 0, none⟩)] 44)).alloc (.cells #[.int .i64 k, .pointer q] 44)) (w.heap.size + 1) 3 (some ⟨w.heap.size + 1 + 1, 0, none⟩) ∧ Below w.heap.size w (((w.alloc (.cells #[.int .i64 k, .pointer q] 44)).alloc (.cells #[.int .i64 3, .pointer (some ⟨w.heap.size + 1 + 1, 0, none⟩)] 44)).alloc (.cells #[.int .i64 k, .pointer q] 44)) ∧ TyA ok (((w.alloc (.cells #[.int .i64 k, .pointer q] 44)).alloc (.cells #[.int .i64 3, .pointer (some ⟨w.heap.size + 1 + 1, 0, none⟩)] 44)).alloc (.cells #[.int .i64 k, .pointer q] 44)) (s.1 + 1, s.2) (.agg #[.int .i64 3, .pointer (some ⟨w.heap.size + 1 + 1, 0, none⟩)])) :=
  ⟨t2.below b3 (by omega), hb, .inr ⟨_, k, q, rfl, hok _ (by omega), t3, h.below hb⟩⟩
 clear b1 b2 b3 t2 t3 hb h hok
 go_enter Tryz.func168, Tryz.ntmps168
 go_wp2
 generalize ((w.alloc (.cells #[.int .i64 k, .pointer q] 44)).alloc (.cells #[.int .i64 3, .pointer (some ⟨w.heap.size + 1 + 1, 0, none⟩)] 44)).alloc (.cells #[.int .i64 k, .pointer q] 44) = W at *
 have s0 := HT.out.1.c0
 have s1 := HT.out.1.c1
 refine bodyPost_ret (v := .agg #[.int .i64 3, .pointer (some ⟨w.heap.size + 1 + 1, 0, none⟩)]) ?_ rfl ?_
 ·simp [results, go_sem, s0, s1]
 ·exact ⟨_, rfl, HT.out.2⟩

end Go.Proofs.YtgmmfpdekefamaaGreatDoor

namespace Go.Proofs.YtgmmfpdekefamaaGreatDoor
open Go.RowKit
set_option linter.unusedVariables false
set_option maxRecDepth 100000

def lstP (l : List Sh) : Option Sh := l.foldl (fun o s => o.bind fun t => joinP t (s.1 + 1, s.2)) (some (1, 0))
theorem lst_fold_none : ∀ l : List Sh, l.foldl (fun o s => o.bind fun t => joinP t (s.1 + 1, s.2)) none = none
 | [] => rfl
 | a :: l => by rw [List.foldl_cons]; exact lst_fold_none l
theorem lst_take {l : List Sh} {i : Nat} (h : i < l.length) : lstP (l.take (i + 1)) = (lstP (l.take i)).bind fun t => joinP t ((l.getD i noS).1 + 1, (l.getD i noS).2) := by
 unfold lstP
 rw [List.take_succ_eq_append_getElem h, List.foldl_append]
 simp [List.getD, h]
theorem lst_none {l : List Sh} {i : Nat} (h : lstP (l.take i) = none) : lstP l = none := by
 have e : lstP l = (l.drop i).foldl (fun o s => o.bind fun t => joinP t (s.1 + 1, s.2)) (lstP (l.take i)) := by
  unfold lstP
  rw [← List.foldl_append, List.take_append_drop]
 rw [e, h]
 exact lst_fold_none _
/-- on the way through a list: what is answered, and the type so far -/
structure L2 (w W : World) (R T : Nat) (k : Int) (q : Option Addr) : Prop where
 bel : Below w.heap.size w W
 res : TyAt W R 0 none
 typ : TyAt W T k q
 lo : w.heap.size ≤ R ∧ w.heap.size ≤ T ∧ R ≠ T
theorem L2.after {w W W' : World} {R T : Nat} {k : Int} {q : Option Addr} (h : L2 w W R T k q) (hb : Below W.heap.size W W') : L2 w W' R T k q :=
 ⟨h.bel.trans (hb.mono h.bel.size), h.res.below hb h.res.lt, h.typ.below hb h.typ.lt, h.lo⟩
theorem L2.put {w W : World} {R T : Nat} {k : Int} {q : Option Addr} (h : L2 w W R T k q) (k' : Int) (q' : Option Addr) : L2 w (putY W T k' q') R T k' q' :=
 ⟨below_putY h.bel h.lo.2.1 k' q', h.res.other h.lo.2.2 k' q', h.typ.put k' q', h.lo⟩
theorem TyA.over {ok : Nat → Prop} {w : World} {s : Sh} {v : Value} (h : TyA ok w s v) {D : Nat} (hD : ∀ g, ok g → g ≠ D) (k : Int) (q : Option Addr) : TyA ok (putY w D k q) s v :=
 h.moved fun g hg hk => ⟨hk, (heap_setCell_other _ ⟨D, 1, none⟩ g _ (hD g hk)).trans (heap_setCell_other w ⟨D, 0, none⟩ g _ (hD g hk))⟩

set_option maxHeartbeats 8000000 in
theorem rtypeoflist_any {ok : Nat → Prop} {w : World} {lv : Value} {l : List Sh} (h : TysR ok w lv l) (hl : l.length ≤ 100000) (hok : ∀ g, w.heap.size ≤ g → ok g) : Calls Tryz.prog 130 #[lv] w (GotJ ok w (lstP l)) := by
 obtain ⟨a, c, rfl⟩ := h.slice
 have HO : Hid (∀ W, Calls Tryz.prog 47 #[.int .i64 3] W fun e w' => e = .returned (.agg #[.int .i64 3, .pointer none]) ∧ Below W.heap.size W w') := fun W => ronly_any 3 W
 have HL : Hid (TysR ok w (.slice a l.length c) l) := h
 clear h
 have HR0 : Hid (TyAt (w.alloc (.cells #[.int .i64 0, .pointer none] 44)) w.heap.size 0 none ∧ Below w.heap.size w (w.alloc (.cells #[.int .i64 0, .pointer none] 44))) := ⟨TyAt.new w 0 none, alloc_below w _⟩
 go_enter Tryz.func130, Tryz.ntmps130
 go_wp2_with fail
 generalize w.alloc (.cells #[.int .i64 0, .pointer none] 44) = w1 at *
 go_at_call 47
 refine (HO.out _).mono ?_
 rintro e w2 ⟨rfl, hb2⟩
 have HT : Hid (L2 w (w2.alloc (.cells #[.int .i64 3, .pointer none] 44)) w.heap.size w2.heap.size 3 none) := by
  have hb3 := alloc_below w2 (.cells #[.int .i64 3, .pointer none] 44)
  have h1 := HR0.out.1.lt
  have h2 := HR0.out.2.size
  have h3 := hb2.size
  exact ⟨HR0.out.2.trans ((hb2.mono h2).trans (hb3.mono (by omega))), (HR0.out.1.below hb2 h1).below hb3 (by omega), TyAt.new w2 3 none, Nat.le_refl _, by omega, by omega⟩
 clear hb2 HO HR0
 go_wp2
 generalize hT0 : w2.heap.size = T0 at *
 generalize w2.alloc (.cells #[.int .i64 3, .pointer none] 44) = w3 at *
 clear hT0
 have HOK : Hid (∀ g, w.heap.size ≤ g → ok g) := hok
 clear hok
 go_loopw [5] (fun iv wr => ∃ (i : Nat) (s : Sh) (q : Option Addr), iv = .int .i64 i ∧ i ≤ l.length ∧ Hid (lstP (l.take i) = some s) ∧ Hid (L2 w wr w.heap.size T0 (kd s) q) ∧ Hid (TyA (fun g => ok g ∧ g ≠ T0 ∧ g ≠ w.heap.size) wr s (.agg #[.int .i64 (kd s), .pointer q]))) (fun iv _ => l.length - (intOf iv).toNat)
 case atStart => exact ⟨0, (1, 0), none, rfl, Nat.zero_le _, rfl, HT, .inl ⟨rfl, rfl, rfl⟩⟩
 case round =>
  clear HT
  obtain ⟨i, s, q, rfl, hil, HE, HLr, HS⟩ := hrel
  have hlo := HLr.out.lo
  by_cases hlt : i < l.length
  ·have hltI : (i : Int) < (l.length : Int) := by omega
   obtain ⟨g, off, q1, rfl, hg, c0, c1, ht⟩ := HL.out.at hlt
   have hbr := HLr.out.bel
   have d0 : wr.cell? ⟨g, off + i * 2, none⟩ = some (.int .i64 (kd (l.getD i noS))) := (hbr.cell (p := ⟨g, off + i * 2, none⟩) hg).trans c0
   have d1 : wr.cell? ⟨g, off + i * 2 + 1, none⟩ = some (.pointer q1) := (hbr.cell (p := ⟨g, off + i * 2 + 1, none⟩) hg).trans c1
   have hgr : g < wr.heap.size := Nat.lt_of_lt_of_le hg hbr.size
   have HLo : Hid (Calls Tryz.prog 168 #[.agg #[.int .i64 (kd (l.getD i noS)), .pointer q1]] wr fun e w' => ∃ q', e = .returned (.agg #[.int .i64 3, .pointer q']) ∧ Below wr.heap.size wr w' ∧ TyA (fun g => ok g ∧ g ≠ T0 ∧ g ≠ w.heap.size) w' ((l.getD i noS).1 + 1, (l.getD i noS).2) (.agg #[.int .i64 3, .pointer q'])) := by
    refine rlistof_any (s := l.getD i noS) ?_ ?_
    ·exact ht.all.moved fun g hg hk => ⟨⟨hk.1, by omega, by omega⟩, hbr.block g hg⟩
    ·intro g hg
     have h1 := HLr.out.typ.lt
     have h2 := HLr.out.res.lt
     exact ⟨HOK.out g (Nat.le_trans hbr.size hg), by omega, by omega⟩
   have HST : Hid (lstP (l.take (i + 1)) = joinP s ((l.getD i noS).1 + 1, (l.getD i noS).2)) := by
    show _ = _
    rw [lst_take hlt, HE.out]; rfl
   generalize hs1 : l.getD i noS = s1 at *
   have HS1 : Hid (l.getD i noS = s1) := hs1
   clear hs1 ht c0 c1 HE hbr
   go_wp2_with fail
   go_at_call 168
   refine HLo.out.mono ?_
   rintro e w4 ⟨q4, rfl, hb4, ht4⟩
   have ha := alloc_below w4 (.cells #[.int .i64 3, .pointer q4] 44)
   have HL5 : Hid (L2 w (w4.alloc (.cells #[.int .i64 3, .pointer q4] 44)) w.heap.size T0 (kd s) q) := (HLr.out.after hb4).after ha
   have HTu : Hid (TyAt (w4.alloc (.cells #[.int .i64 3, .pointer q4] 44)) w4.heap.size 3 q4) := TyAt.new w4 3 q4
   have HJo : Hid (Calls Tryz.prog 129 #[.agg #[.int .i64 (kd s), .pointer q], .agg #[.int .i64 3, .pointer q4]] (w4.alloc (.cells #[.int .i64 3, .pointer q4] 44)) (GotJ (fun g => ok g ∧ g ≠ T0 ∧ g ≠ w.heap.size) (w4.alloc (.cells #[.int .i64 3, .pointer q4] 44)) (joinP s (s1.1 + 1, s1.2)))) := rjoin_any s.1 ((HS.out.below hb4).below ha) (ht4.below ha)
   have HL4 : L2 w w4 w.heap.size T0 (kd s) q := HLr.out.after hb4
   have t0 := HL4.typ.c0
   have t1 := HL4.typ.c1
   have t2 := HL4.typ.lt
   clear hb4 ha ht4 HLo HLr HS d0 d1 hgr hg HL4
   go_wp2_with fail
   generalize hU : w4.heap.size = U at *
   generalize w4.alloc (.cells #[.int .i64 3, .pointer q4] 44) = w5 at *
   clear hU t0 t1 t2
   go_at_call 129
   refine HJo.out.mono ?_
   rintro e w6 ⟨hb6, k6, q6, yes, rfl, hy, hts⟩
   have HL6 : Hid (L2 w w6 w.heap.size T0 (kd s) q) := HL5.out.after hb6
   clear hb6 HJo HL5 HTu
   cases hj : joinP s (s1.1 + 1, s1.2) with
   | none =>
    rw [hj] at hy
    simp at hy
    subst hy
    have HN : Hid (lstP l = none) := by
     refine lst_none (i := i + 1) ?_
     rw [HST.out, hj]
    obtain ⟨W, hW, hbW, _, hTW⟩ := HL6.out.res.ret HL6.out.bel (Nat.le_refl _) 0 none
    have ha := alloc_below W (.cells #[.int .i64 k6, .pointer q6] 44)
    have hTW2 := hTW.below ha hTW.lt
    have HW : Hid (putY w6 w.heap.size 0 none = W) := hW
    have HG : Hid (GotJ ok w (lstP l) (.returned (.tuple #[.agg #[.int .i64 0, .pointer none], .bool false])) (W.alloc (.cells #[.int .i64 k6, .pointer q6] 44))) := GotJ.no HN.out (hbW.trans (ha.mono hbW.size))
    have s0 := hTW2.c0
    have s1 := hTW2.c1
    have r0 := HL6.out.res.c0
    have r1 := HL6.out.res.c1
    have f0 := HL6.out.res.fz 0
    have f1 := HL6.out.res.fz 1
    have rr := HL6.out.res.lt
    clear hW hbW hTW hTW2 HN HL6 ha hts hj HST
    go_wp2
    have hW := HW.out
    unfold putY at hW
    rw [hW]
    generalize W.alloc (.cells #[.int .i64 k6, .pointer q6] 44) = W2 at *
    refine bodyPost_ret (v := .tuple #[.agg #[.int .i64 0, .pointer none], .bool false]) ?_ rfl ?_
    ·simp [results, go_sem, s0, s1]
    ·exact HG.out
   | some s2 =>
    rw [hj] at hy
    simp at hy
    subst hy
    have ht6 := hts s2 hj
    obtain rfl := ht6.kd
    have HST2 : Hid (lstP (l.take (i + 1)) = some s2) := by show _ = _; rw [HST.out, hj]
    have t0 := HL6.out.typ.c0
    have t1 := HL6.out.typ.c1
    have t2 := HL6.out.typ.lt
    have t3 := HL6.out.typ.fz 0
    have t4 := HL6.out.typ.fz 1
    have hne : w6.heap.size ≠ T0 := by omega
    have ha := alloc_below (putY w6 T0 (kd s2) q6) (.cells #[.int .i64 (kd s2), .pointer q6] 44)
    have HL8 : Hid (L2 w ((putY w6 T0 (kd s2) q6).alloc (.cells #[.int .i64 (kd s2), .pointer q6] 44)) w.heap.size T0 (kd s2) q6) := (HL6.out.put (kd s2) q6).after ha
    have HS8 : Hid (TyA (fun g => ok g ∧ g ≠ T0 ∧ g ≠ w.heap.size) ((putY w6 T0 (kd s2) q6).alloc (.cells #[.int .i64 (kd s2), .pointer q6] 44)) s2 (.agg #[.int .i64 (kd s2), .pointer q6])) := (ht6.over (fun g hg => hg.2.1) _ _).below ha
    clear ha hts hj HST ht6 HL6
    go_wp2_with fail
    go_roundw
    case rel => exact ⟨i + 1, s2, q6, by go_num, by omega, HST2, HL8, HS8⟩
    case measure => simp [intOf]; omega
  ·obtain rfl : i = l.length := by omega
   have HE2 : Hid (lstP l = some s) := by have := HE.out; rwa [List.take_length] at this
   obtain ⟨W, hW, hbW, hbW2, hTW⟩ := HLr.out.res.ret HLr.out.bel (Nat.le_refl _) (kd s) q
   have HW : Hid (putY wr w.heap.size (kd s) q = W) := hW
   have HG : Hid (GotJ ok w (lstP l) (.returned (.tuple #[.agg #[.int .i64 (kd s), .pointer q], .bool true])) W) := by
    refine GotJ.yes HE2.out hbW ?_
    rw [← hW]
    exact (HS.out.over (fun g hg => hg.2.2) (kd s) q).imp fun g _ hg => hg.1
   have s0 := hTW.c0
   have s1 := hTW.c1
   have r0 := HLr.out.res.c0
   have r1 := HLr.out.res.c1
   have f0 := HLr.out.res.fz 0
   have f1 := HLr.out.res.fz 1
   have rr := HLr.out.res.lt
   have t0 := HLr.out.typ.c0
   have t1 := HLr.out.typ.c1
   have t2 := HLr.out.typ.lt
   clear hW hbW hTW hbW2 HLr HS HE HE2
   go_wp2
   have hW := HW.out
   unfold putY at hW
   rw [hW]
   refine bodyPost_ret (v := .tuple #[.agg #[.int .i64 (kd s), .pointer q], .bool true]) ?_ rfl ?_
   ·simp [results, go_sem, s0, s1]
   ·exact HG.out

end Go.Proofs.YtgmmfpdekefamaaGreatDoor
