/- Texts of the proof, put together: PRoom, QChe. -/
import Derived.Test.YtgmmfpdekefamaaGreatDoorAt31
import Derived.Test.YtgmmfpdekefamaaGreatDoorAt29
namespace Go.Proofs.YtgmmfpdekefamaaGreatDoor
open Go.RowKit
set_option linter.unusedVariables false
set_option maxRecDepth 100000

/-- ValidString says whether a text is whole, in every world behind one -/
def VdC (w0 : World) : Prop := ∀ w1, Below w0.heap.size w0 w1 → ∀ text : ByteArray, text.size ≤ 140737488351232 → Calls Tryz.prog 92 #[.string text] w1 fun e w' => e = .returned (.bool (whole text)) ∧ Below w1.heap.size w1 w'
theorem VdC.below {w0 w1 : World} (h : VdC w0) (hb : Below w0.heap.size w0 w1) : VdC w1 := fun w2 hb2 => h w2 (hb.trans (hb2.mono hb.size))
/-- how many may still stand behind it -/
def rmE (t : Ex) (z : Int) : Int := if wellE t = true ∧ (wtE t : Int) ≤ z then z - (wtE t : Int) else -1
theorem rmE_not {t : Ex} {z : Int} (h : wellE t = false) : rmE t z = -1 := by unfold rmE; rw [if_neg (by rw [h]; simp)]

set_option maxHeartbeats 8000000 in
theorem aroom_any {ok : Nat → Prop} : ∀ (n : Nat) {w : World} {v : Value} {t : Ex} (z : Int), VdC w → IsEx ok n w v t → TxA t → 0 ≤ z → z ≤ 200 →
  Calls Tryz.prog 27 #[v, .int .i64 z] w fun e w' => e = .returned (.int .i64 (rmE t z)) ∧ Below w.heap.size w w'
 | 0, w, v, t, z, _, h, _, _, _ => h.elim
 | n + 1, w, v, t, z, _, .inl ⟨h1, h2⟩, _, _, _ => by
  subst h2
  have HV : Hid (rmE t z = -1) := by rw [h1]; exact rmE_not (by rw [wellE_eq]; rfl)
  go_enter Tryz.func27, Tryz.ntmps27
  go_wp2
  go_ret
  exact ⟨by rw [HV.out]; rfl, Below.refl _ _⟩
 | n + 1, w, v, t, z, hVd, .inr ⟨hi, b, kv, h1, h2, h3, h5⟩, hT, hz0, hz2 => by
  subst h1
  obtain ⟨ka, kc, rfl⟩ := h5.slice
  have c0 : w.cell? ⟨b, 0, none⟩ = some (.int .i64 t.kind) := cellsAtA h3 0 _ rfl
  have c1 : w.cell? ⟨b, 1, none⟩ = some (.int .i64 t.num) := cellsAtA h3 1 _ rfl
  have c2 : w.cell? ⟨b, 2, none⟩ = some (.string t.text) := cellsAtA h3 2 _ rfl
  have c3 : w.cell? ⟨b, 3, none⟩ = some (.slice ka t.kids.length kc) := cellsAtA h3 3 _ rfl
  have hbw : b < w.heap.size := (Array.getElem?_eq_some_iff.1 h3).1
  have HS : Hid (Calls Tryz.prog 49 #[.pointer (some ⟨b, 0, none⟩)] w fun e w' => e = .returned (.bool (shapeB t.kind t.num t.text t.kids.length)) ∧ Below w.heap.size w w') := awell_any hT.size.1 (hVd w (Below.refl _ _) t.text hT.size.1) c0 c1 c2 c3
  have hkl := hT.size.2
  by_cases hz : z = 0
  ·have HV : Hid (rmE t z = -1) := by show _ = _; unfold rmE; rw [if_neg]; intro h; have := wtE_pos t; omega
   subst hz
   clear h3 h5 hT HS c0 c1 c2 c3
   go_enter Tryz.func27, Tryz.ntmps27
   go_wp2
   go_ret
   exact ⟨by rw [HV.out]; rfl, Below.refl _ _⟩
  ·have hz3 : (z == 0) = false := by rw [beq_eq_false_iff_ne]; exact hz
   cases hsh : shapeB t.kind t.num t.text t.kids.length
   ·rw [hsh] at HS
    have HV : Hid (rmE t z = -1) := rmE_not (by rw [wellE_eq, hsh, Bool.and_false]; rfl)
    clear h3 h5 hT c0 c1 c2 c3
    go_enter Tryz.func27, Tryz.ntmps27
    go_wp2_with (go_at_call 49; refine HS.out.mono ?_; rintro e w9 ⟨rfl, hb9⟩)
    go_ret
    exact ⟨by rw [HV.out]; rfl, hb9⟩
   ·rw [hsh] at HS
    have HKid : Hid (∀ i, i < t.kids.length → ∀ w1, Below w.heap.size w w1 → ∀ z', 0 ≤ z' → z' ≤ 200 → ∃ g off u, ka = some ⟨g, off, none⟩ ∧ g < w1.heap.size ∧ w1.cell? ⟨g, off + i, none⟩ = some u ∧ Calls Tryz.prog 27 #[u, .int .i64 z'] w1 fun e w' => e = .returned (.int .i64 (rmE (t.kids.getD i nilE) z')) ∧ Below w.heap.size w w') := fun i hik w1 hb1 z' h0 h2' => by
     obtain ⟨g, off, u, e1, e2, e3, e4⟩ := h5.at hik
     refine ⟨g, off, u, e1, Nat.lt_of_lt_of_le e2 hb1.size, (hb1.cell (p := ⟨g, off + i, none⟩) e2).trans e3, (aroom_any n z' (hVd.below hb1) (e4.below hb1) (hT.kid (getD_mem hik)) h0 h2').mono ?_⟩
     rintro e w' ⟨q1, q2⟩
     exact ⟨q1, hb1.trans (q2.mono hb1.size)⟩
    have HW : Hid (wellE t = true ↔ ∀ k ∈ t.kids, wellE k = true) := ⟨fun h k hk => wellE_kid h hk, fun h => wellE_of hi hsh h⟩
    have HWt : Hid (wtE t = 1 + wtL t.kids) := wtE_eq t
    have hw1 : IntKind.i64.wrap (z - 1) = z - 1 := by rw [IntKind.wrap_i64]; omega
    clear h3 h5 hT hsh hVd
    go_enter Tryz.func27, Tryz.ntmps27
    go_wp2_with fail
    go_at_call 49
    refine HS.out.mono ?_
    rintro e w1 ⟨rfl, hb1⟩
    have d3 := (hb1.cell (p := ⟨b, 3, none⟩) hbw).trans c3
    clear HS c0 c1 c2 c3
    go_wp2
    go_loopw [1, 6, 25] (fun zv _ iv wr => ∃ (i : Nat) (z' : Int), zv = .int .i64 z' ∧ iv = .int .i64 i ∧ i ≤ t.kids.length ∧ 0 ≤ z' ∧ Hid (Below w.heap.size w wr) ∧ Hid (z' = z - 1 - (wtL (t.kids.take i) : Int)) ∧ Hid (∀ k ∈ t.kids.take i, wellE k = true)) (fun _ _ iv _ => t.kids.length - (intOf iv).toNat)
    case atStart => exact ⟨0, z - 1, rfl, rfl, by omega, by omega, hb1, by show _ = _; simp [wtL], fun k hk => by simp at hk⟩
    case round =>
     obtain ⟨i, z', rfl, rfl, hil, hz4, HB, HZ, HA⟩ := hrel
     have hz5 : z' ≤ 200 := by have := HZ.out; omega
     by_cases hlt : i < t.kids.length
     ·obtain ⟨g, off, u, rfl, hg, cu, hC⟩ := HKid.out i hlt wr HB.out z' hz4 hz5
      have HC : Hid (Calls Tryz.prog 27 #[u, .int .i64 z'] wr fun e w' => e = .returned (.int .i64 (rmE (t.kids.getD i nilE) z')) ∧ Below w.heap.size w w') := hC
      have hltI : (i : Int) < (t.kids.length : Int) := by omega
      by_cases hgood : wellE (t.kids.getD i nilE) = true ∧ (wtE (t.kids.getD i nilE) : Int) ≤ z'
      ·have e1 : rmE (t.kids.getD i nilE) z' = z' - (wtE (t.kids.getD i nilE) : Int) := by unfold rmE; rw [if_pos hgood]
       rw [e1] at HC
       have HZ2 : Hid (z' - (wtE (t.kids.getD i nilE) : Int) = z - 1 - (wtL (t.kids.take (i + 1)) : Int)) := by
        have := HZ.out
        have h2 := wtL_take hlt
        show _ = _
        rw [h2]
        omega
       have HA2 : Hid (∀ k ∈ t.kids.take (i + 1), wellE k = true) := fun k hk => by
        rw [List.take_succ_eq_append_getElem hlt, List.mem_append] at hk
        rcases hk with hk | hk
        ·exact HA.out k hk
        ·have : k = t.kids.getD i nilE := by simp [List.getD, hlt] at hk ⊢; exact hk
         rw [this]
         exact hgood.1
       have hpos : ¬ z' - (wtE (t.kids.getD i nilE) : Int) < 0 := by omega
       have hle := hgood.2
       clear hgood e1 hC HKid HA HZ
       generalize (wtE (t.kids.getD i nilE) : Int) = wk at *
       generalize t.kids.length = nk at *
       go_wp2_with (go_at_call 27; refine HC.out.mono ?_; rintro e w9 ⟨rfl, hb9⟩)
       go_roundw
       case rel => exact ⟨i + 1, z' - wk, rfl, by go_num, by omega, by omega, hb9, HZ2, HA2⟩
       case measure => simp [intOf]; omega
      ·have e1 : rmE (t.kids.getD i nilE) z' = -1 := by unfold rmE; rw [if_neg hgood]
       rw [e1] at HC
       have HV : Hid (rmE t z = -1) := by
        show _ = _
        unfold rmE
        rw [if_neg]
        rintro ⟨q1, q2⟩
        have hwk := HW.out.1 q1 _ (getD_mem hlt)
        have h3 := wtL_upto hlt
        have h4 := HWt.out
        have h5 := HZ.out
        exact hgood ⟨hwk, by omega⟩
       clear hgood e1 hC HKid HA HZ
       generalize t.kids.length = nk at *
       go_wp2_with (go_at_call 27; refine HC.out.mono ?_; rintro e w9 ⟨rfl, hb9⟩)
       go_ret
       exact ⟨by rw [HV.out]; rfl, hb9⟩
     ·obtain rfl : i = t.kids.length := by omega
      have HV : Hid (rmE t z = z') := by
       have h4 := HWt.out
       have h5 := HZ.out
       have h6 := HA.out
       rw [List.take_of_length_le (Nat.le_refl _)] at h5 h6
       show _ = _
       unfold rmE
       rw [if_pos ⟨HW.out.2 h6, by omega⟩]
       omega
      have hltI : ¬ (t.kids.length : Int) < (t.kids.length : Int) := by omega
      clear HKid HA HZ
      generalize t.kids.length = nk at *
      go_wp2
      go_ret
      exact ⟨by rw [HV.out]; rfl, HB.out⟩

set_option maxHeartbeats 2000000 in
theorem aok_any {ok : Nat → Prop} {w : World} {v : Value} {t : Ex} (hVd : VdC w) (h : Expr ok w v t) (hT : TxA t) : Calls Tryz.prog 9 #[v] w fun e w' => e = .returned (.bool (okX t)) ∧ Below w.heap.size w w' := by
 obtain ⟨n, hn⟩ := h
 have HC : Hid (Calls Tryz.prog 27 #[v, .int .i64 200] w fun e w' => e = .returned (.int .i64 (rmE t 200)) ∧ Below w.heap.size w w') := aroom_any n 200 hVd hn hT (by omega) (by omega)
 have HV : Hid (decide (rmE t 200 ≥ 0) = okX t) := by
  show _ = _
  have hp := wtE_pos t
  unfold okX rmE
  by_cases h1 : wellE t = true
  ·by_cases h2 : wtE t ≤ 200
   ·rw [if_pos ⟨h1, by omega⟩, h1, decide_eq_true h2, decide_eq_true (by omega)]
    rfl
   ·rw [if_neg (fun h => h2 (by omega)), decide_eq_false h2, Bool.and_false]
    rfl
  ·rw [if_neg (fun h => h1 h.1)]
   have : wellE t = false := by simpa using h1
   rw [this]
   rfl
 generalize rmE t 200 = cz at *
 clear hn hT hVd
 cases hd : decide (cz ≥ 0)
 all_goals
  rw [hd] at HV
  go_enter Tryz.func9, Tryz.ntmps9
  go_wp2_with (go_at_call 27; refine HC.out.mono ?_; rintro e w9 ⟨rfl, hb9⟩)
  go_ret
  exact ⟨by rw [← HV.out]; rfl, hb9⟩

end Go.Proofs.YtgmmfpdekefamaaGreatDoor

namespace Go.Proofs.YtgmmfpdekefamaaGreatDoor
open Go.RowKit
set_option linter.unusedVariables false
set_option linter.unusedSimpArgs false
set_option maxRecDepth 100000

/-- Check on its way: the checker lies in the block C -/
structure ChI (W V : World) (C : Nat) (lv : Value) (acc : List Sh) : Prop where
 bel : Below W.heap.size W V
 res : TyAt V W.heap.size 0 none
 lo : W.heap.size < C
 cel : V.heap[C]? = some (.cells #[lv] 87 (0, 0))
 own : V.ownsRow (C + 1) 89 2 lv acc.length (clS acc)
theorem ChI.lt {W V : World} {C : Nat} {lv : Value} {acc : List Sh} (h : ChI W V C lv acc) : C < V.heap.size := (Array.getElem?_eq_some_iff.1 h.cel).1
theorem ChI.after {W V V' : World} {C : Nat} {lv : Value} {acc : List Sh} (h : ChI W V C lv acc) (hb : Below V.heap.size V V') : ChI W V' C lv acc :=
 ⟨h.bel.trans (hb.mono h.bel.size), h.res.below hb h.res.lt, h.lo, (hb.block _ h.lt).trans h.cel, own_blockT h.own fun b hb2 => hb.block b (h.own.lt b hb2).2⟩
theorem ChI.new {W V : World} (hb : Below W.heap.size W V) (hr : TyAt V W.heap.size 0 none) : ChI W (V.alloc (.cells #[.slice none 0 0] 87)) V.heap.size (.slice none 0 0) [] := by
 have ha := alloc_below V (.cells #[.slice none 0 0] 87)
 exact ⟨hb.trans (ha.mono hb.size), hr.below ha hr.lt, hr.lt, allocAtA V _, ⟨rfl, .inl ⟨rfl, rfl⟩⟩⟩
theorem ChI.put {W V V2 : World} {C : Nat} {lv lv2 : Value} {acc acc2 : List Sh} (h : ChI W V C lv acc) (hg : V.grownBy V2 lv.ownBlock) (hown : V2.ownsRow (C + 1) 89 2 lv2 acc2.length (clS acc2)) : ChI W (V2.setCell ⟨C, 0, none⟩ lv2) C lv2 acc2 := by
 have hne : ∀ k, k ≤ C → k < V.heap.size → V2.heap[k]? = V.heap[k]? := fun k hk hk2 => hg.block k hk2 (fun e => by have := (h.own.lt k e.symm).1; omega)
 have hlo := h.lo
 have hbl : Below W.heap.size W V2 := ⟨hg.os.trans h.bel.os, hg.tape.trans h.bel.tape, hg.output.trans h.bel.output, Nat.le_trans h.bel.size hg.size, fun k hk => (hne k (by omega) (Nat.lt_of_lt_of_le hk h.bel.size)).trans (h.bel.block k hk)⟩
 have hc2 : V2.heap[C]? = some (.cells #[lv] 87 (0, 0)) := (hne C (Nat.le_refl _) h.lt).trans h.cel
 refine ⟨belowSetA hbl (by show W.heap.size ≤ C; omega) _ _, (heap_setCell_other V2 ⟨C, 0, none⟩ _ _ (by show W.heap.size ≠ C; omega)).trans ((hne _ (by omega) h.res.lt).trans h.res), h.lo, heap_setCell_same V2 C 0 _ 87 lv2 hc2, own_blockT hown fun b hb2 => heap_setCell_other V2 ⟨C, 0, none⟩ b _ (by show b ≠ C; have := (hown.lt b hb2).1; omega)⟩
/-- what stays while one argument's shape is put behind the others -/
structure CxI (W : World) (X l : Nat) (b : Int) (V : World) : Prop where
 bel : Below W.heap.size W V
 res : TyAt V W.heap.size 0 none
 sh : ShAt V X l b
theorem CxI.after {W V V' : World} {X l : Nat} {b : Int} (h : CxI W X l b V) (hb : Below V.heap.size V V') : CxI W X l b V' := ⟨h.bel.trans (hb.mono h.bel.size), h.res.below hb h.res.lt, h.sh.below hb h.sh.lt⟩
theorem op_shapes {B : Nat} {V : World} {lv : Value} {acc : List Sh} {s : Sh} {ad : Addr} {o : Oper} {a : Act} {K : Act → World → Prop} {Q : Exit → Act → World → Prop} (hown : V.ownsRow B 89 2 lv acc.length (clS acc)) (hB : B ≤ V.heap.size) (hn : acc.length ≤ 1000) (hc : ∀ j u, (clS [s])[j]? = some u → V.cell? (ad.add j) = some u) (p q : Operand) (hop : o.op = Op.call { callee := Callee.builtin Builtin.append, args := #[p, q], argTypes := #[85, 85] }) (hp : a.eval p = lv) (hq : a.eval q = .slice (some ad) 1 1)
  (hK : ∀ lv2 V2, V.grownBy V2 lv.ownBlock → V2.ownsRow B 89 2 lv2 (acc ++ [s]).length (clS (acc ++ [s])) → K (a.put o.dst lv2) V2) : Oper.wp Tryz.prog o a V K Q := by
 obtain ⟨i1, hj0, hj1, hj2, hj3⟩ := info_parts Tryz.infoShape
 have h1c : ∀ u ∈ clS [s], u.oneCell' = true := by
  intro u hu
  have hu' : u ∈ [Value.int .i64 s.1, .int .i64 s.2] := hu
  simp only [List.mem_cons, List.not_mem_nil, or_false] at hu'
  rcases hu' with rfl | rfl <;> rfl
 obtain ⟨v', w', hrun, r1, r2, _⟩ := run_append_own (P := Tryz.prog) V B 85 o.type 89 i1 (.agg #[.int .i64 0, .int .i64 0]) 2 16 Tryz.underlying85 hj0 hj1 hj2 hj3 rfl (by decide) lv acc.length (clS acc) hown ad 1 1 (clS [s]) rfl hc h1c (by unfold maxLen; omega) (by omega) hB
 unfold Oper.wp
 simp [execOp, hop, resolve, invoke, builtin, hp, hq, hrun, Result.andThen]
 exact hK v' w' r2 (by rw [List.length_append, clS_append]; exact r1)

set_option maxHeartbeats 16000000 in
theorem aCheck_any {okE ok : Nat → Prop} {an at' : Addr} {W : World} {v : Value} {t : Ex} {av : Value} {args : List Sh} (hVd : VdC W) (hX : Expr okE W v t) (hT : TxA t) (hok2 : okX t = true) (hE : EnvC W an at') (hA : TysR ok W av args) (hl : args.length ≤ 1000) (h4 : ∀ s ∈ args, s.1 ≤ 4) (hO : ∀ s ∈ args, OkS s) (h16 : 16 ≤ W.heap.size) :
  Calls Tryz.prog 17 #[v, av] W (GotC (fun g => W.heap.size ≤ g) an at' W (chk args t [])) := by
 have hw : wellE t = true ∧ wtE t ≤ 200 := by
  have h := hok2
  unfold okX at h
  rw [Bool.and_eq_true, decide_eq_true_eq] at h
  exact h
 obtain ⟨a, c, rfl⟩ := hA.slice
 have hW1 := alloc_below W (.cells #[.int .i64 0, .pointer none] 44)
 have HB1 : Hid (Below W.heap.size W (W.alloc (.cells #[.int .i64 0, .pointer none] 44)) ∧ TyAt (W.alloc (.cells #[.int .i64 0, .pointer none] 44)) W.heap.size 0 none) := ⟨hW1, TyAt.new W 0 none⟩
 have HOk : Hid (Calls Tryz.prog 9 #[v] (W.alloc (.cells #[.int .i64 0, .pointer none] 44)) fun e w' => e = .returned (.bool true) ∧ Below (W.alloc (.cells #[.int .i64 0, .pointer none] 44)).heap.size (W.alloc (.cells #[.int .i64 0, .pointer none] 44)) w') := by
  have := aok_any (hVd.below hW1) (hX.moved (ok' := okE) hW1.size fun b hb hk => ⟨hk, hW1.block b hb⟩) hT
  rwa [hok2] at this
 have HSh : Hid (∀ i, i < args.length → ∀ V, Below W.heap.size W V → ∃ g off k q, a = some ⟨g, off, none⟩ ∧ g < W.heap.size ∧ W.cell? ⟨g, off + i * 2, none⟩ = some (.int .i64 k) ∧ W.cell? ⟨g, off + i * 2 + 1, none⟩ = some (.pointer q) ∧ Calls Tryz.prog 36 #[.agg #[.int .i64 k, .pointer q]] V fun e w' => e = .returned (.tuple #[shV (args.getD i noS), .bool true]) ∧ Below V.heap.size V w') := fun i hi V hV => by
  obtain ⟨g, off, q, r1, r2, r3, r4, r5⟩ := hA.at hi
  exact ⟨g, off, _, q, r1, r2, r3, r4, ashapeof_any (TyA.below r5 hV) (h4 _ (getD_memS hi))⟩
 have hgd : ∀ s ∈ args, Gd 4 s := fun s hs => ⟨hO s hs, h4 s hs⟩
 have HC : Hid (∀ V C lv, ChI W V C lv args → Calls Tryz.prog 37 #[.pointer (some ⟨C, 0, none⟩), v, .slice none 0 0] V (GotKp V.heap.size an at' V (.slice none 0 0) [] (chk args t []))) := fun V C lv hI => by
  obtain ⟨n, hn⟩ := hX
  have hsz := hI.bel.size
  refine pse_any (N := 4) (M := 4) hgd hl n (hn.moved hsz fun b hb hk => ⟨Nat.lt_of_lt_of_le hb hsz, hI.bel.block b hb⟩) hw.1 (by simp; omega) ⟨by omega, Nat.le_refl _, hI.lt, hE.below hI.bel, ?_⟩ (Nat.le_refl _) (fun p hp => by cases hp) (by omega) (NmP.nil _ _)
  have hs := own_shs hI.own
  obtain ⟨aa, ac, rfl⟩ := hs.slice
  refine ⟨aa, ac, by simp [World.cell?, hI.cel], fun j hj => ?_⟩
  obtain ⟨g, off, e, hg, c0, c1⟩ := hs.at hj
  exact ⟨g, off, e, hg, c0, c1⟩
 have HGd : Hid (∀ s, chk args t [] = .ok s → Gd 1000 s) := fun s hs => (gd_chk hgd t hw.1 [] 4 s (Nat.le_refl _) (fun p hp => by cases hp) hs).mono (by omega)
 clear hVd hX hT hok2 hE hA hW1 h4 hO h16 hgd hw
 generalize chk args t [] = RR at *
 go_enter Tryz.func17, Tryz.ntmps17
 go_wp2_with fail
 generalize W.alloc (.cells #[.int .i64 0, .pointer none] 44) = w1 at *
 go_at_call 9
 refine HOk.out.mono ?_
 rintro e w2 ⟨rfl, hb2⟩
 have HI : Hid (ChI W (w2.alloc (.cells #[.slice none 0 0] 87)) w2.heap.size (.slice none 0 0) []) := ChI.new (HB1.out.1.trans (hb2.mono HB1.out.1.size)) (HB1.out.2.below hb2 HB1.out.2.lt)
 clear hb2 HOk HB1
 go_wp2
 generalize w2.alloc (.cells #[.slice none 0 0] 87) = w3 at *
 generalize w2.heap.size = C at *
 go_loopw [22] (fun iv wr => ∃ (i : Nat) (lv : Value), iv = .int .i64 i ∧ i ≤ args.length ∧ Hid (ChI W wr C lv (args.take i))) (fun iv _ => args.length - (intOf iv).toNat)
 case atStart => exact ⟨0, _, rfl, Nat.zero_le _, HI⟩
 case round =>
  clear HI
  obtain ⟨i, lv, rfl, hil, HIr⟩ := hrel
  by_cases hlt : i < args.length
  ·have hltI : (i : Int) < (args.length : Int) := by omega
   have hbr := HIr.out.bel
   have ha7b : ∀ o, Below W.heap.size W (wr.alloc o) := fun o => hbr.trans ((alloc_below wr o).mono hbr.size)
   obtain ⟨g, off, k, q, rfl, hg, c0, c1, _⟩ := HSh.out i hlt wr hbr
   have HCt : Hid (Calls Tryz.prog 36 #[.agg #[.int .i64 k, .pointer q]] (wr.alloc (.cells #[.int .i64 k, .pointer q] 44)) fun e w' => e = .returned (.tuple #[shV (args.getD i noS), .bool true]) ∧ Below (wr.alloc (.cells #[.int .i64 k, .pointer q] 44)).heap.size (wr.alloc (.cells #[.int .i64 k, .pointer q] 44)) w') := by
    obtain ⟨g', off', k', q', e', hg', c0', c1', hC⟩ := HSh.out i hlt (wr.alloc (.cells #[.int .i64 k, .pointer q] 44)) (ha7b _)
    cases e'
    rw [c0] at c0'
    rw [c1] at c1'
    cases c0'
    cases c1'
    exact hC
   have d0 : wr.cell? ⟨g, off + i * 2, none⟩ = some (.int .i64 k) := (hbr.cell (p := ⟨g, off + i * 2, none⟩) hg).trans c0
   have d1 : wr.cell? ⟨g, off + i * 2 + 1, none⟩ = some (.pointer q) := (hbr.cell (p := ⟨g, off + i * 2 + 1, none⟩) hg).trans c1
   have hgr : g < wr.heap.size := Nat.lt_of_lt_of_le hg hbr.size
   have HTk : Hid (args.take (i + 1) = args.take i ++ [args.getD i noS]) := by
    show _ = _
    rw [List.take_succ_eq_append_getElem hlt]
    simp [List.getD, hlt]
   have ha7 := alloc_below wr (.cells #[.int .i64 k, .pointer q] 44)
   have HI7 : Hid (ChI W (wr.alloc (.cells #[.int .i64 k, .pointer q] 44)) C lv (args.take i)) := HIr.out.after ha7
   clear c0 c1 hbr ha7b ha7 HIr
   generalize args.getD i noS = s at *
   obtain ⟨ls, bs⟩ := s
   unfold shV at HCt
   simp only at HCt
   go_wp2_with fail
   generalize wr.alloc (.cells #[.int .i64 k, .pointer q] 44) = w7 at *
   go_at_call 36
   refine HCt.out.mono ?_
   rintro e w8 ⟨rfl, hb8⟩
   have HI8 : Hid (ChI W w8 C lv (args.take i)) := HI7.out.after hb8
   have hX8 : ∀ kk, lv.ownBlock = some kk → kk < w8.heap.size := fun kk hk => (HI8.out.own.lt kk hk).2
   have hCX : C < w8.heap.size := HI8.out.lt
   have ha9 := alloc_below w8 (.cells #[.int .i64 (ls : Int), .int .i64 bs] 89)
   have HI9 : Hid (ChI W (w8.alloc (.cells #[.int .i64 (ls : Int), .int .i64 bs] 89)) C lv (args.take i)) := HI8.out.after ha9
   have HS9 : Hid (CxI W w8.heap.size ls bs (w8.alloc (.cells #[.int .i64 (ls : Int), .int .i64 bs] 89))) := ⟨HI9.out.bel, HI9.out.res, ShAt.new w8 ls bs⟩
   have HH : Hid ((∀ kk, lv.ownBlock = some kk → kk < w8.heap.size) ∧ C < w8.heap.size) := ⟨hX8, hCX⟩
   clear hb8 HI7 HI8 HCt d0 d1 hgr hX8 hCX ha9
   go_wp2_with fail
   generalize w8.alloc (.cells #[.int .i64 (ls : Int), .int .i64 bs] 89) = w9 at *
   generalize w8.heap.size = X at *
   have HX : Hid (∀ w', CxI W X ls bs w' → w'.cell? ⟨X, 0, none⟩ = some (.int .i64 (ls : Int)) ∧ w'.cell? ⟨X, 1, none⟩ = some (.int .i64 bs)) := fun w' h => ⟨h.sh.c0, h.sh.c1⟩
   have hdr0 : Below w9.heap.size w9 w9.drew := below_drewG (Below.refl _ _) 1
   have hSd : CxI W X ls bs w9.drew := HS9.out.after hdr0
   have hId : ChI W w9.drew C lv (args.take i) := HI9.out.after hdr0
   clear hdr0 HS9 HI9
   refine wp_region_held_drew (S := CxI W X ls bs) (by kernel_rfl) hSd (fun hHeld => ?_)
   clear hHeld
   generalize w9.drew = wd0 at hSd hId ⊢
   have hCl : wd0.cell? ⟨C, 0, none⟩ = some lv := by simp [World.cell?, hId.cel]
   refine wpAnyH_take (i := 0) (v := ?_) rfl (by kernel_rfl) (by kernel_rfl) (by kernel_rfl) (fun _ _ _ h => h) (Or.inl ⟨by rfl, ?_⟩) hSd ?_
   rotate_left
   ·(intro w9 hSw; obtain ⟨x0, x1⟩ := HX.out w9 hSw; go_simp; first | done | with_reducible rfl)
   refine wpAnyH_take (i := 1) (v := ?_) rfl (by kernel_rfl) (by kernel_rfl) (by kernel_rfl) (fun _ _ _ h => h) (Or.inl ⟨by rfl, ?_⟩) hSd ?_
   rotate_left
   ·(intro w9 hSw; obtain ⟨x0, x1⟩ := HX.out w9 hSw; go_simp; first | done | with_reducible rfl)
   refine wpAnyH_take (i := 2) (v := ?_) rfl (by kernel_rfl) (by kernel_rfl) (by kernel_rfl) (fun _ _ _ h => h) (Or.inl ⟨by rfl, ?_⟩) hSd ?_
   rotate_left
   ·(intro w9 hSw; obtain ⟨x0, x1⟩ := HX.out w9 hSw; go_simp; first | done | with_reducible rfl)
   refine wpAnyH_take (i := 3) (v := ?_) rfl (by kernel_rfl) (by kernel_rfl) (by kernel_rfl) (fun _ _ _ h => h) (Or.inl ⟨by rfl, ?_⟩) hSd ?_
   rotate_left
   ·(intro w9 hSw; obtain ⟨x0, x1⟩ := HX.out w9 hSw; go_simp; first | done | with_reducible rfl)
   refine wpAnyH_take (i := 5) (v := ?_) rfl (by kernel_rfl) (by kernel_rfl) (by kernel_rfl) (fun _ _ _ h => h) (Or.inl ⟨by rfl, ?_⟩) hSd ?_
   rotate_left
   ·(intro w9 hSw; obtain ⟨x0, x1⟩ := HX.out w9 hSw; go_simp; first | done | with_reducible rfl)
   simp only [Act.put, List.getElem_toArray, List.getElem_cons_succ, List.getElem_cons_zero, List.setIfInBounds_toArray, List.set_cons_zero, List.set_cons_succ]
   have hbd1 := alloc_below wd0 (.cells #[.int .i64 (ls : Int), .int .i64 bs] 89)
   have hcY : ∀ j u, (clS [((ls, bs) : Sh)])[j]? = some u → (wd0.alloc (.cells #[.int .i64 (ls : Int), .int .i64 bs] 89)).cell? ((⟨wd0.heap.size, 0, none⟩ : Addr).add j) = some u := World.news_of_block (allocAtA wd0 (.cells #[.int .i64 (ls : Int), .int .i64 bs] 89))
   have hSd1 : CxI W X ls bs (wd0.alloc (.cells #[.int .i64 (ls : Int), .int .i64 bs] 89)) := hSd.after hbd1
   have hId1 : ChI W (wd0.alloc (.cells #[.int .i64 (ls : Int), .int .i64 bs] 89)) C lv (args.take i) := hId.after hbd1
   have hCl1 : (wd0.alloc (.cells #[.int .i64 (ls : Int), .int .i64 bs] 89)).cell? ⟨C, 0, none⟩ = some lv := by simp [World.cell?, hId1.cel]
   clear hbd1
   refine wpAnyH_ready (rs := [4, 6]) (by kernel_rfl) (by simp) ?_
   refine AllReadyH.cons rfl (fun K hK => ?_) (AllReadyH.cons rfl (fun K hK => ?_) AllReadyH.nil)
   ·go_simp
    refine hK.out _ _ hSd (fun hHeld => ?_)
    clear hK K hHeld
    refine wpAnyH_ready (rs := [6]) (by kernel_rfl) (by simp) ?_
    refine AllReadyH.cons rfl (fun K hK => ?_) AllReadyH.nil
    go_simp
    refine hK.out _ _ hSd1 (fun hHeld => ?_)
    clear hK K hHeld hSd hId hCl
    generalize wd0.heap.size = Y at hcY ⊢
    generalize wd0.alloc (.cells #[.int .i64 (ls : Int), .int .i64 bs] 89) = wd1 at hcY hSd1 hId1 hCl1 ⊢
    refine wpAnyH_ready (rs := [7]) (by kernel_rfl) (by simp) ?_
    refine AllReadyH.cons rfl (fun K hK => ?_) AllReadyH.nil
    rw [if_pos (by kernel_rfl)]
    refine op_shapes (s := ((ls, bs) : Sh)) hId1.own (by have := hId1.lt; omega) (by rw [List.length_take]; omega) hcY (.tmp 39) (.tmp 41) rfl rfl rfl ?_
    intro lv2 wd2 hg2 hown2
    obtain ⟨a2, n2, c2, rfl⟩ : ∃ a2 n2 c2, lv2 = .slice a2 n2 c2 := by
     rcases hown2.2 with ⟨rfl, _⟩ | ⟨g2, cap2, cur2, rfl, _⟩
     ·exact ⟨none, 0, 0, rfl⟩
     ·exact ⟨_, _, _, rfl⟩
    have hSd2 : CxI W X ls bs wd2 := by
     have hI2 := hId1.put hg2 hown2
     have hCne : ∀ kk, kk < wd1.heap.size → lv.ownBlock ≠ some kk → wd2.heap[kk]? = wd1.heap[kk]? := fun kk h1 h2 => hg2.block kk h1 (fun e => h2 e.symm)
     have hlo := hId1.lo
     refine ⟨⟨hg2.os.trans hSd1.bel.os, hg2.tape.trans hSd1.bel.tape, hg2.output.trans hSd1.bel.output, Nat.le_trans hSd1.bel.size hg2.size, fun kk hk => (hCne kk (Nat.lt_of_lt_of_le hk hSd1.bel.size) (fun e => by have := (hId1.own.lt kk e).1; omega)).trans (hSd1.bel.block kk hk)⟩, (hCne _ hSd1.res.lt (fun e => by have := (hId1.own.lt _ e).1; omega)).trans hSd1.res, (hCne _ hSd1.sh.lt (fun e => by have := HH.out.1 _ e; omega)).trans hSd1.sh⟩
    have hC2 : wd2.heap[C]? = some (.cells #[lv] 87 (0, 0)) := (hg2.block C hId1.lt (fun e => by have := (hId1.own.lt C e.symm).1; omega)).trans hId1.cel
    have hI3 : ChI W (wd2.setCell ⟨C, 0, none⟩ (.slice a2 n2 c2)) C (.slice a2 n2 c2) (args.take i ++ [((ls, bs) : Sh)]) := hId1.put hg2 hown2
    refine hK.out _ _ hSd2 (fun hHeld => ?_)
    clear hK K hHeld hcY hg2 hown2 hId1 hSd1 hCl1
    refine wpAnyH_take (i := 8) (v := ?_) rfl (by kernel_rfl) (by kernel_rfl) (by kernel_rfl) (fun _ _ _ h => h) (Or.inl ⟨by rfl, ?_⟩) hSd2 ?_
    rotate_left
    ·(intro w9 hSw; obtain ⟨x0, x1⟩ := HX.out w9 hSw; go_simp; first | done | with_reducible rfl)
    refine wpAnyH_take (i := 9) (v := ?_) rfl (by kernel_rfl) (by kernel_rfl) (by kernel_rfl) (fun _ _ _ h => h) (Or.inl ⟨by rfl, ?_⟩) hSd2 ?_
    rotate_left
    ·(intro w9 hSw; obtain ⟨x0, x1⟩ := HX.out w9 hSw; go_simp; first | done | with_reducible rfl)
    simp only [Act.put, List.getElem_toArray, List.getElem_cons_succ, List.getElem_cons_zero, List.setIfInBounds_toArray, List.set_cons_zero, List.set_cons_succ]
    have k0 : wd2.cell? ⟨C, 0, none⟩ = some lv := by simp [World.cell?, hC2]
    have k1 : wd2.frozen? ⟨C, 0, none⟩ = false := by simp [World.frozen?, hC2]
    have k2 : C < wd2.heap.size := (Array.getElem?_eq_some_iff.1 hC2).1
    refine wpAnyH_ready (rs := [10]) (by kernel_rfl) (by simp) ?_
    refine AllReadyH.cons rfl (fun K hK => ?_) AllReadyH.nil
    go_simp
    have hSd3 : CxI W X ls bs (wd2.setCell ⟨C, 0, none⟩ (.slice a2 n2 c2)) := ⟨hI3.bel, hI3.res, (heap_setCell_other wd2 ⟨C, 0, none⟩ X _ (by have := HH.out.2; simp only [ne_eq]; omega)).trans hSd2.sh⟩
    refine hK.out _ _ hSd3 (fun hHeld => ?_)
    clear hK K hHeld k0 k1 k2 hC2 hSd2
    have HI3 : Hid (ChI W (wd2.setCell ⟨C, 0, none⟩ (.slice a2 n2 c2)) C (.slice a2 n2 c2) (args.take (i + 1))) := by show ChI _ _ _ _ _; rw [HTk.out]; exact hI3
    generalize wd2.setCell ⟨C, 0, none⟩ (.slice a2 n2 c2) = wd3 at HI3 hSd3 ⊢
    refine wpAnyH_done (by kernel_rfl) ?_ _
    clear HX hI3 hSd3 HTk HH
    go_wp2
    go_roundw
    case rel => exact ⟨i + 1, .slice a2 n2 c2, by go_num, by omega, HI3⟩
    case measure => simp [intOf]; omega
   ·go_simp
    refine hK.out _ _ hSd1 (fun hHeld => ?_)
    clear hK K hHeld
    refine wpAnyH_ready (rs := [4]) (by kernel_rfl) (by simp) ?_
    refine AllReadyH.cons rfl (fun K hK => ?_) AllReadyH.nil
    go_simp
    refine hK.out _ _ hSd1 (fun hHeld => ?_)
    clear hK K hHeld hSd hId hCl
    generalize wd0.heap.size = Y at hcY ⊢
    generalize wd0.alloc (.cells #[.int .i64 (ls : Int), .int .i64 bs] 89) = wd1 at hcY hSd1 hId1 hCl1 ⊢
    refine wpAnyH_ready (rs := [7]) (by kernel_rfl) (by simp) ?_
    refine AllReadyH.cons rfl (fun K hK => ?_) AllReadyH.nil
    rw [if_pos (by kernel_rfl)]
    refine op_shapes (s := ((ls, bs) : Sh)) hId1.own (by have := hId1.lt; omega) (by rw [List.length_take]; omega) hcY (.tmp 39) (.tmp 41) rfl rfl rfl ?_
    intro lv2 wd2 hg2 hown2
    obtain ⟨a2, n2, c2, rfl⟩ : ∃ a2 n2 c2, lv2 = .slice a2 n2 c2 := by
     rcases hown2.2 with ⟨rfl, _⟩ | ⟨g2, cap2, cur2, rfl, _⟩
     ·exact ⟨none, 0, 0, rfl⟩
     ·exact ⟨_, _, _, rfl⟩
    have hSd2 : CxI W X ls bs wd2 := by
     have hI2 := hId1.put hg2 hown2
     have hCne : ∀ kk, kk < wd1.heap.size → lv.ownBlock ≠ some kk → wd2.heap[kk]? = wd1.heap[kk]? := fun kk h1 h2 => hg2.block kk h1 (fun e => h2 e.symm)
     have hlo := hId1.lo
     refine ⟨⟨hg2.os.trans hSd1.bel.os, hg2.tape.trans hSd1.bel.tape, hg2.output.trans hSd1.bel.output, Nat.le_trans hSd1.bel.size hg2.size, fun kk hk => (hCne kk (Nat.lt_of_lt_of_le hk hSd1.bel.size) (fun e => by have := (hId1.own.lt kk e).1; omega)).trans (hSd1.bel.block kk hk)⟩, (hCne _ hSd1.res.lt (fun e => by have := (hId1.own.lt _ e).1; omega)).trans hSd1.res, (hCne _ hSd1.sh.lt (fun e => by have := HH.out.1 _ e; omega)).trans hSd1.sh⟩
    have hC2 : wd2.heap[C]? = some (.cells #[lv] 87 (0, 0)) := (hg2.block C hId1.lt (fun e => by have := (hId1.own.lt C e.symm).1; omega)).trans hId1.cel
    have hI3 : ChI W (wd2.setCell ⟨C, 0, none⟩ (.slice a2 n2 c2)) C (.slice a2 n2 c2) (args.take i ++ [((ls, bs) : Sh)]) := hId1.put hg2 hown2
    refine hK.out _ _ hSd2 (fun hHeld => ?_)
    clear hK K hHeld hcY hg2 hown2 hId1 hSd1 hCl1
    refine wpAnyH_take (i := 8) (v := ?_) rfl (by kernel_rfl) (by kernel_rfl) (by kernel_rfl) (fun _ _ _ h => h) (Or.inl ⟨by rfl, ?_⟩) hSd2 ?_
    rotate_left
    ·(intro w9 hSw; obtain ⟨x0, x1⟩ := HX.out w9 hSw; go_simp; first | done | with_reducible rfl)
    refine wpAnyH_take (i := 9) (v := ?_) rfl (by kernel_rfl) (by kernel_rfl) (by kernel_rfl) (fun _ _ _ h => h) (Or.inl ⟨by rfl, ?_⟩) hSd2 ?_
    rotate_left
    ·(intro w9 hSw; obtain ⟨x0, x1⟩ := HX.out w9 hSw; go_simp; first | done | with_reducible rfl)
    simp only [Act.put, List.getElem_toArray, List.getElem_cons_succ, List.getElem_cons_zero, List.setIfInBounds_toArray, List.set_cons_zero, List.set_cons_succ]
    have k0 : wd2.cell? ⟨C, 0, none⟩ = some lv := by simp [World.cell?, hC2]
    have k1 : wd2.frozen? ⟨C, 0, none⟩ = false := by simp [World.frozen?, hC2]
    have k2 : C < wd2.heap.size := (Array.getElem?_eq_some_iff.1 hC2).1
    refine wpAnyH_ready (rs := [10]) (by kernel_rfl) (by simp) ?_
    refine AllReadyH.cons rfl (fun K hK => ?_) AllReadyH.nil
    go_simp
    have hSd3 : CxI W X ls bs (wd2.setCell ⟨C, 0, none⟩ (.slice a2 n2 c2)) := ⟨hI3.bel, hI3.res, (heap_setCell_other wd2 ⟨C, 0, none⟩ X _ (by have := HH.out.2; simp only [ne_eq]; omega)).trans hSd2.sh⟩
    refine hK.out _ _ hSd3 (fun hHeld => ?_)
    clear hK K hHeld k0 k1 k2 hC2 hSd2
    have HI3 : Hid (ChI W (wd2.setCell ⟨C, 0, none⟩ (.slice a2 n2 c2)) C (.slice a2 n2 c2) (args.take (i + 1))) := by show ChI _ _ _ _ _; rw [HTk.out]; exact hI3
    generalize wd2.setCell ⟨C, 0, none⟩ (.slice a2 n2 c2) = wd3 at HI3 hSd3 ⊢
    refine wpAnyH_done (by kernel_rfl) ?_ _
    clear HX hI3 hSd3 HTk HH
    go_wp2
    go_roundw
    case rel => exact ⟨i + 1, .slice a2 n2 c2, by go_num, by omega, HI3⟩
    case measure => simp [intOf]; omega
  ·obtain rfl : i = args.length := by omega
   have HIr : Hid (ChI W wr C lv args) := by have := HIr.out; rwa [List.take_length] at this
   have HCr : Hid (Calls Tryz.prog 37 #[.pointer (some ⟨C, 0, none⟩), v, .slice none 0 0] wr (GotKp wr.heap.size an at' wr (.slice none 0 0) [] RR)) := HC.out wr C lv HIr.out
   clear HC HSh
   go_wp2_with fail
   go_at_call 37
   refine HCr.out.mono ?_
   rintro e w6 hGot
   obtain ⟨lu, bu, er, rfl, hg6, _, HRes⟩ := hGot.form
   have hb6 : Below wr.heap.size wr w6 := grown_below hg6 (Nat.le_refl _) (fun k hk => by cases hk)
   have HI6 : Hid (ChI W w6 C lv args) := HIr.out.after hb6
   clear hGot hg6 hb6 HCr HIr
   have r0 := HI6.out.res.c0
   have r1 := HI6.out.res.c1
   have f0 := HI6.out.res.fz 0
   have f1 := HI6.out.res.fz 1
   have rr := HI6.out.res.lt
   rcases HRes.out with ⟨hr, rfl⟩ | ⟨bb, hr, rfl⟩
   ·have ha7 := alloc_below w6 (.cells #[.int .i64 (lu : Int), .int .i64 bu] 89)
    have HI7 : Hid (ChI W (w6.alloc (.cells #[.int .i64 (lu : Int), .int .i64 bu] 89)) C lv args) := HI6.out.after ha7
    have hG := HGd.out _ hr
    have HTo : Hid (Calls Tryz.prog 38 #[.agg #[.int .i64 (lu : Int), .int .i64 bu]] (w6.alloc (.cells #[.int .i64 (lu : Int), .int .i64 bu] 89)) fun e w' => ∃ k q, e = .returned (.agg #[.int .i64 k, .pointer q]) ∧ Below (w6.alloc (.cells #[.int .i64 (lu : Int), .int .i64 bu] 89)).heap.size (w6.alloc (.cells #[.int .i64 (lu : Int), .int .i64 bu] 89)) w' ∧ TyA (fun g => (w6.alloc (.cells #[.int .i64 (lu : Int), .int .i64 bu] 89)).heap.size ≤ g) w' (lu, bu) (.agg #[.int .i64 k, .pointer q])) := atypeof_any (s := (lu, bu)) hG.1 (by have := hG.2; simp only at this ⊢; omega)
    have HRR : Hid (RR = .ok (lu, bu)) := hr
    clear ha7 hG hr HRes HI6 HGd r0 r1 f0 f1 rr
    go_wp2_with fail
    generalize w6.alloc (.cells #[.int .i64 (lu : Int), .int .i64 bu] 89) = w7 at *
    go_at_call 38
    refine HTo.out.mono ?_
    rintro e w8 ⟨k, q, rfl, hb8, ht8⟩
    have HI8 : Hid (ChI W w8 C lv args) := HI7.out.after hb8
    have r0 := HI8.out.res.c0
    have r1 := HI8.out.res.c1
    have f0 := HI8.out.res.fz 0
    have f1 := HI8.out.res.fz 1
    have rr := HI8.out.res.lt
    have hlt7 := HI7.out.res.lt
    have HG : Hid (TyAt (putY w8 W.heap.size k q) W.heap.size k q ∧ GotC (fun g => W.heap.size ≤ g) an at' W RR (.returned (.tuple #[.agg #[.int .i64 k, .pointer q], .nilIface])) (putY w8 W.heap.size k q)) := by
     refine ⟨HI8.out.res.put k q, GotC.yes HRR.out (belowSetA (belowSetA HI8.out.bel (Nat.le_refl _) _ _) (Nat.le_refl _) _ _) ?_⟩
     exact TyM.moved ht8 fun g hg hk => by
      have hk' : w7.heap.size ≤ g := hk
      exact ⟨by omega, putY_block _ _ _ _ _ (by omega)⟩
    generalize hVV : putY w8 W.heap.size k q = VV at HG
    have HW : Hid (putY w8 W.heap.size k q = VV) := hVV
    clear hVV hb8 ht8 HI7 HI8 HTo HRR
    go_wp2
    have hW := HW.out
    unfold putY at hW
    rw [hW]
    have x0 := HG.out.1.c0
    have x1 := HG.out.1.c1
    refine bodyPost_ret (v := .tuple #[.agg #[.int .i64 k, .pointer q], .nilIface]) ?_ rfl ?_
    ·simp [results, go_sem, x0, x1]
    ·exact HG.out.2
   ·have hev : errV an at' bb = .iface 294 (.pointer (some (if bb = true then an else at'))) := rfl
    have HEV : Hid (.iface 294 (.pointer (some (if bb = true then an else at'))) = errV an at' bb) := rfl
    rw [hev]
    generalize (if bb = true then an else at') = av' at *
    have hb7 : Below W.heap.size w6 (putY w6 W.heap.size 0 none) := belowSetA (belowSetA (Below.refl _ _) (Nat.le_refl _) _ _) (Nat.le_refl _) _ _
    have ha7 := alloc_below (putY w6 W.heap.size 0 none) (.cells #[.int .i64 (lu : Int), .int .i64 bu] 89)
    have hP := HI6.out.res.put 0 none
    have HG : Hid (TyAt ((putY w6 W.heap.size 0 none).alloc (.cells #[.int .i64 (lu : Int), .int .i64 bu] 89)) W.heap.size 0 none ∧ GotC (fun g => W.heap.size ≤ g) an at' W RR (.returned (.tuple #[.agg #[.int .i64 0, .pointer none], .iface 294 (.pointer (some av'))])) ((putY w6 W.heap.size 0 none).alloc (.cells #[.int .i64 (lu : Int), .int .i64 bu] 89))) := by
     refine ⟨hP.below ha7 hP.lt, ?_⟩
     have hb8 := HI6.out.bel.trans hb7
     exact GotC.no hr HEV.out (hb8.trans (ha7.mono hb8.size))
    generalize hVV : putY w6 W.heap.size 0 none = VV at HG
    have HW : Hid (putY w6 W.heap.size 0 none = VV) := hVV
    clear hVV hb7 ha7 hP hr HRes HI6 HGd hev HEV
    go_wp2
    have hW := HW.out
    unfold putY at hW
    rw [hW]
    generalize VV.alloc (.cells #[.int .i64 (lu : Int), .int .i64 bu] 89) = W2 at *
    have x0 := HG.out.1.c0
    have x1 := HG.out.1.c1
    refine bodyPost_ret (v := .tuple #[.agg #[.int .i64 0, .pointer none], .iface 294 (.pointer (some av'))]) ?_ rfl ?_
    ·simp [results, go_sem, x0, x1]
    ·exact HG.out.2

end Go.Proofs.YtgmmfpdekefamaaGreatDoor
