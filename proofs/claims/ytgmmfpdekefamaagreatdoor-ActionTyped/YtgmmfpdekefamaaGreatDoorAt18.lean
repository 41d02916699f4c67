/- Texts of the proof, put together: QChkA, QChkC, QShp, QShj, QAre. -/
import Derived.Test.YtgmmfpdekefamaaGreatDoorAt17
import Derived.Laws.StructEq
namespace Go.Proofs.YtgmmfpdekefamaaGreatDoor
open Go.RowKit
set_option linter.unusedVariables false
set_option maxRecDepth 100000

theorem rcheck_any {okE : Nat → Prop} {an at' : Addr} : ∀ (n : Nat) {ok : Nat → Prop} {w : World} {v : Value} {t : Ex} {av nv : Value} {args : List Sh} {ns : List Nm}, IsEx okE n w v t → wellE t = true → wtE t + ns.length ≤ 900 → EnvC w an at' → TysR ok w av args → NmC ok w nv ns → (∀ g, w.heap.size ≤ g → ok g) →
  Calls Tryz.prog 40 #[v, av, nv] w (GotC ok an at' w (chk args t ns))
 | 0, ok, w, v, t, av, nv, args, ns, h, _, _, _, _, _, _ => h.elim
 | n + 1, ok, w, v, t, av, nv, args, ns, .inl ⟨h1, h2⟩, hw, _, _, _, _, _ => by rw [h1, wellE_eq] at hw; cases hw
 | n + 1, ok, w, v, t, av, nv, args, ns, .inr ⟨hi, b, kv, h1, h2, h3, h5⟩, hw, hwt, hE, hA, hN, hok => by
  subst h1
  obtain ⟨ka, kc, rfl⟩ := h5.slice
  have hbl : b < w.heap.size := (Array.getElem?_eq_some_iff.1 h3).1
  have e0 : w.cell? ⟨b, 0, none⟩ = some (.int .i64 t.kind) := cellsAtA h3 0 _ rfl
  have e1 : w.cell? ⟨b, 1, none⟩ = some (.int .i64 t.num) := cellsAtA h3 1 _ rfl
  have e2 : w.cell? ⟨b, 2, none⟩ = some (.string t.text) := cellsAtA h3 2 _ rfl
  have e3 : w.cell? ⟨b, 3, none⟩ = some (.slice ka t.kids.length kc) := cellsAtA h3 3 _ rfl
  have hsh := (wellE_is hw).2
  have hlen := wtL_len t.kids
  have hwe := wtE_eq t
  rw [chk_eq]
  unfold stepK
  by_cases k1 : t.kind = 1
  ·rw [if_pos k1]; rw [k1] at e0; exact chk_num hbl e0
  rw [if_neg k1]
  by_cases k2 : t.kind = 2
  ·rw [if_pos k2]; rw [k2] at e0; exact chk_text hbl e0
  rw [if_neg k2]
  by_cases k3 : t.kind = 3
  ·rw [if_pos k3]; rw [k3] at e0
   obtain ⟨aa, ac, rfl⟩ := hA.slice
   have hq : 1 ≤ t.num ∧ t.num ≤ 20 := by rcases shape_kids hsh with h | h | h | h | h | h | h | h | h | h <;> omega
   exact chk_arg hE hbl e0 e1 hq.1 hq.2 hA
  rw [if_neg k3]
  by_cases k4 : t.kind = 4
  ·rw [if_pos k4]; rw [k4] at e0; exact chk_name hE hbl e0 e2 (by omega) hN
  rw [if_neg k4]
  have hk4 : 4 < t.kind := by rcases shape_kids hsh with h | h | h | h | h | h | h | h | h | h <;> omega
  refine chk_kids hE hbl e0 e2 e3 hk4 hsh (by omega) hA hN (by omega) hok ?_
  intro i hi okk W nv' ns' hW hN' hn' hok' hA'
  obtain ⟨g, off, u, r1, r2, r3, r4⟩ := h5.at hi
  have hm : t.kids.getD i nilE ∈ t.kids := getD_mem hi
  have hwk := wtL_mem t.kids _ hm
  exact ⟨g, off, u, r1, r2, r3, rcheck_any n (r4.below hW) (wellE_kid hw hm) (by omega) (hE.below hW) hA' hN' hok'⟩

end Go.Proofs.YtgmmfpdekefamaaGreatDoor

namespace Go.Proofs.YtgmmfpdekefamaaGreatDoor
open Go.RowKit
set_option linter.unusedVariables false
set_option maxRecDepth 100000

theorem TysR.imp_all {ok ok' : Nat → Prop} {w : World} {v : Value} {l : List Sh} (h : TysR ok w v l) (hm : ∀ g, g < w.heap.size → ok g → ok' g) : TysR ok' w v l := h.imp hm
/-- a check's answer, once the answer's block is written -/
theorem gotc_ret {ok : Nat → Prop} {an at' : Addr} {w w6 : World} {r : CkR} {k6 : Int} {q6 : Option Addr} {er : Value} (hJ : J1 w w6) (hres : (∃ s, r = .ok s ∧ er = .nilIface ∧ TyA (fun g => ok g ∧ g ≠ w.heap.size) w6 s (.agg #[.int .i64 k6, .pointer q6])) ∨ ∃ b, r = .error b ∧ er = errV an at' b ∧ k6 = 0 ∧ q6 = none) :
  ∃ W, putY w6 w.heap.size k6 q6 = W ∧ TyAt W w.heap.size k6 q6 ∧ GotC ok an at' w r (.returned (.tuple #[.agg #[.int .i64 k6, .pointer q6], er])) W := by
 obtain ⟨W, hW, hbW, _, hTW⟩ := hJ.r.ret hJ.bel (Nat.le_refl _) k6 q6
 refine ⟨W, hW, hTW, hbW, k6, q6, er, rfl, ?_⟩
 rcases hres with ⟨s, h1, h2, h3⟩ | h
 ·refine .inl ⟨s, h1, h2, ?_⟩
  rw [← hW]
  exact (h3.over (fun g hg => hg.2) k6 q6).imp fun g _ hg => hg.1
 ·exact .inr h

set_option maxHeartbeats 8000000 in
theorem rCheck_any {okE ok : Nat → Prop} {an at' : Addr} {w : World} {v : Value} {t : Ex} {av : Value} {args : List Sh} (hX : Expr okE w v t) (hT : TxA t) (hok2 : okX t = true) (hE : EnvC w an at') (hA : TysR ok w av args) (hl : args.length ≤ 1000) (hok : ∀ g, w.heap.size ≤ g → ok g) :
  Calls Tryz.prog 18 #[v, av] w (GotC ok an at' w (chk args t [])) := by
 have hw : wellE t = true ∧ wtE t ≤ 200 := by
  have h := hok2
  unfold okX at h
  rw [Bool.and_eq_true, decide_eq_true_eq] at h
  exact h
 obtain ⟨a, c, rfl⟩ := hA.slice
 have HJ : Hid (J1 w (w.alloc (.cells #[.int .i64 0, .pointer none] 44))) := J1.new w
 have HO : Hid (Calls Tryz.prog 8 #[v] (w.alloc (.cells #[.int .i64 0, .pointer none] 44)) fun e w' => e = .returned (.bool true) ∧ w' = (w.alloc (.cells #[.int .i64 0, .pointer none] 44))) := by
  have := rexprok_any (hX.moved (ok' := okE) HJ.out.bel.size fun b hb hk => ⟨hk, HJ.out.bel.block b hb⟩) hT
  rwa [hok2] at this
 have HC : Hid (∀ W, Below w.heap.size w W → w.heap.size < W.heap.size → Calls Tryz.prog 40 #[v, .slice a args.length c, .slice none 0 0] W (GotC (fun g => ok g ∧ g ≠ w.heap.size) an at' W (chk args t []))) := fun W hW hs => by
  obtain ⟨n, hn⟩ := hX
  exact rcheck_any n (hn.below hW) hw.1 (by simp; omega) (hE.below hW) ((hA.imp_all fun g hg hk => ⟨hk, by omega⟩).below hW) (NmC.nil _ _) fun g hg => ⟨hok g (by omega), by omega⟩
 have HTy : Hid (∀ i, i < args.length → ∀ W, Below w.heap.size w W → ∃ g off k q, a = some ⟨g, off, none⟩ ∧ g < w.heap.size ∧ w.cell? ⟨g, off + i * 2, none⟩ = some (.int .i64 k) ∧ w.cell? ⟨g, off + i * 2 + 1, none⟩ = some (.pointer q) ∧ Calls Tryz.prog 39 #[.agg #[.int .i64 k, .pointer q]] W fun e w' => e = .returned (.bool true) ∧ Below W.heap.size W w') := fun i hi W hW => by
  obtain ⟨g, off, q, r1, r2, r3, r4, r5⟩ := hA.at hi
  exact ⟨g, off, _, q, r1, r2, r3, r4, rtypeok_any _ (r5.below hW)⟩
 clear hX hT hok2 hE hA hok hw
 generalize chk args t [] = R at *
 go_enter Tryz.func18, Tryz.ntmps18
 go_wp2_with fail
 go_at_call 8
 refine HO.out.mono ?_
 rintro e wq ⟨rfl, hwq⟩
 obtain rfl := hwq.symm
 clear hwq HO
 generalize w.alloc (.cells #[.int .i64 0, .pointer none] 44) = w1 at *
 go_wp2
 go_loopw [6, 7] (fun bv iv wr => ∃ i : Nat, bv = .bool true ∧ iv = .int .i64 i ∧ i ≤ args.length ∧ Hid (J1 w wr)) (fun _ iv _ => args.length - (intOf iv).toNat)
 case atStart => exact ⟨0, rfl, rfl, Nat.zero_le _, HJ⟩
 case round =>
  clear HJ
  obtain ⟨i, rfl, rfl, hil, HJr⟩ := hrel
  by_cases hlt : i < args.length
  ·have hltI : (i : Int) < (args.length : Int) := by omega
   have hbr := HJr.out.bel
   obtain ⟨g, off, k, q, rfl, hg, c0, c1, hC⟩ := HTy.out i hlt wr hbr
   have HCt : Hid (Calls Tryz.prog 39 #[.agg #[.int .i64 k, .pointer q]] wr fun e w' => e = .returned (.bool true) ∧ Below wr.heap.size wr w') := hC
   have d0 : wr.cell? ⟨g, off + i * 2, none⟩ = some (.int .i64 k) := (hbr.cell (p := ⟨g, off + i * 2, none⟩) hg).trans c0
   have d1 : wr.cell? ⟨g, off + i * 2 + 1, none⟩ = some (.pointer q) := (hbr.cell (p := ⟨g, off + i * 2 + 1, none⟩) hg).trans c1
   have hgr : g < wr.heap.size := Nat.lt_of_lt_of_le hg hbr.size
   clear hC c0 c1 hbr
   go_wp2_with fail
   go_at_call 39
   refine HCt.out.mono ?_
   rintro e w4 ⟨rfl, hb4⟩
   have HJ4 : Hid (J1 w w4) := HJr.out.after hb4
   clear hb4 HCt HJr d0 d1 hgr
   go_wp2_with fail
   go_roundw
   case rel => exact ⟨i + 1, rfl, by go_num, by omega, HJ4⟩
   case measure => simp [intOf]; omega
  ·obtain rfl : i = args.length := by omega
   have HC1 : Hid (Calls Tryz.prog 40 #[v, .slice a args.length c, .slice none 0 0] wr (GotC (fun g => ok g ∧ g ≠ w.heap.size) an at' wr R)) := HC.out wr HJr.out.bel HJr.out.r.lt
   go_wp2_with fail
   go_at_call 40
   refine HC1.out.mono ?_
   rintro e w6 ⟨hb6, k6, q6, er, rfl, hres⟩
   have HJ6 : Hid (J1 w w6) := HJr.out.after hb6
   obtain ⟨W, hW, hTW, hG⟩ := gotc_ret HJ6.out hres
   have HW : Hid (putY w6 w.heap.size k6 q6 = W) := hW
   have HG : Hid (GotC ok an at' w R (.returned (.tuple #[.agg #[.int .i64 k6, .pointer q6], er])) W) := hG
   have s0 := hTW.c0
   have s1 := hTW.c1
   have r0 := HJ6.out.r.c0
   have r1 := HJ6.out.r.c1
   have f0 := HJ6.out.r.fz 0
   have f1 := HJ6.out.r.fz 1
   have rr := HJ6.out.r.lt
   clear hb6 hres hW hTW hG HJ6 HJr HC1 HC HTy
   go_wp2
   have hW := HW.out
   unfold putY at hW
   rw [hW]
   refine bodyPost_ret (v := .tuple #[.agg #[.int .i64 k6, .pointer q6], er]) ?_ rfl ?_
   ·simp [results, go_sem, s0, s1]
   ·exact HG.out

end Go.Proofs.YtgmmfpdekefamaaGreatDoor

namespace Go.Proofs.YtgmmfpdekefamaaGreatDoor
open Go.RowKit
set_option linter.unusedVariables false
set_option maxRecDepth 100000

def shV (s : Sh) : Value := .agg #[.int .i64 s.1, .int .i64 s.2]
def ShAt (w : World) (B : Nat) (l b : Int) : Prop := w.heap[B]? = some (.cells #[.int .i64 l, .int .i64 b] 89 (0, 0))
theorem ShAt.lt {w : World} {B : Nat} {l b : Int} (h : ShAt w B l b) : B < w.heap.size := (Array.getElem?_eq_some_iff.1 h).1
theorem ShAt.c0 {w : World} {B : Nat} {l b : Int} (h : ShAt w B l b) : w.cell? ⟨B, 0, none⟩ = some (.int .i64 l) := cellsAtA h 0 _ rfl
theorem ShAt.c1 {w : World} {B : Nat} {l b : Int} (h : ShAt w B l b) : w.cell? ⟨B, 1, none⟩ = some (.int .i64 b) := cellsAtA h 1 _ rfl
theorem ShAt.fz {w : World} {B : Nat} {l b : Int} (h : ShAt w B l b) (j : Nat) : w.frozen? ⟨B, j, none⟩ = false := by unfold ShAt at h; simp [World.frozen?, h]
theorem ShAt.below {w w' : World} {B K : Nat} {l b : Int} (h : ShAt w B l b) (hb : Below K w w') (hB : B < K) : ShAt w' B l b := (hb.block B hB).trans h
theorem ShAt.new (w : World) (l b : Int) : ShAt (w.alloc (.cells #[.int .i64 l, .int .i64 b] 89)) w.heap.size l b := allocAtA w _
def putS (w : World) (B : Nat) (l b : Int) : World := (w.setCell ⟨B, 0, none⟩ (.int .i64 l)).setCell ⟨B, 1, none⟩ (.int .i64 b)
theorem ShAt.put {w : World} {B : Nat} {l b : Int} (h : ShAt w B l b) (l' b' : Int) : ShAt (putS w B l' b') B l' b' :=
 heap_setCell_same _ B 1 _ 89 _ (heap_setCell_same w B 0 _ 89 (.int .i64 l') h)
theorem ShAt.other {w : World} {B D : Nat} {l b : Int} (h : ShAt w B l b) (hD : B ≠ D) (l' b' : Int) : ShAt (putS w D l' b') B l b :=
 (heap_setCell_other _ ⟨D, 1, none⟩ B _ hD).trans ((heap_setCell_other w ⟨D, 0, none⟩ B _ hD).trans h)
theorem below_putS {B : Nat} {w w' : World} (h : Below B w w') {D : Nat} (hD : B ≤ D) (l b : Int) : Below B w (putS w' D l b) := belowSetA (belowSetA h hD _ _) hD _ _
theorem ShAt.ret {w0 w : World} {B : Nat} {l b : Int} (h : ShAt w B l b) (hb : Below w0.heap.size w0 w) (hB : w0.heap.size ≤ B) (l' b' : Int) : ∃ W, putS w B l' b' = W ∧ Below w0.heap.size w0 W ∧ Below B w W ∧ ShAt W B l' b' :=
 ⟨_, rfl, below_putS hb hB l' b', below_putS (Below.refl _ _) (Nat.le_refl _) l' b', h.put l' b'⟩

set_option maxHeartbeats 4000000 in
theorem aislist_any (s : Sh) (w : World) : Calls Tryz.prog 146 #[shV s] w fun e w' => e = .returned (.bool (decide (1 ≤ s.1))) ∧ Below w.heap.size w w' := by
 have hb := alloc_below w (.cells #[.int .i64 s.1, .int .i64 s.2] 89)
 obtain ⟨l, b⟩ := s
 unfold shV
 simp only at hb ⊢
 have HB : Hid (Below w.heap.size w (w.alloc (.cells #[.int .i64 l, .int .i64 b] 89))) := hb
 clear hb
 go_enter Tryz.func146, Tryz.ntmps146
 go_wp2
 go_ret
 exact ⟨rfl, HB.out⟩
set_option maxHeartbeats 4000000 in
theorem afits_any (s o : Sh) (w : World) : Calls Tryz.prog 165 #[shV s, shV o] w fun e w' => e = .returned (.bool (fitP s o)) ∧ Below w.heap.size w w' := by
 obtain ⟨l, b⟩ := s
 obtain ⟨l', b'⟩ := o
 have HB : Hid (Below w.heap.size w ((w.alloc (.cells #[.int .i64 l, .int .i64 b] 89)).alloc (.cells #[.int .i64 l', .int .i64 b'] 89))) := two_below w _ _
 have HV : Hid (fitP (l, b) (l', b') = ((l == l' && b == b') || (b == 0 && decide (l ≤ l')))) := rfl
 unfold shV
 generalize fitP (l, b) (l', b') = R at *
 by_cases h1 : l = l'
 ·subst h1
  by_cases h2 : b = b'
  ·subst h2
   have HR : Hid (R = true) := by show _ = _; rw [HV.out]; simp
   clear HV
   go_enter Tryz.func165, Tryz.ntmps165
   go_wp2
   go_ret
   exact ⟨by rw [HR.out]; rfl, HB.out⟩
  ·by_cases h0 : b = 0
   ·subst h0
    have HR : Hid (R = true) := by show _ = _; rw [HV.out]; simp
    clear HV
    go_enter Tryz.func165, Tryz.ntmps165
    go_wp2
    go_ret
    exact ⟨by rw [HR.out]; rfl, HB.out⟩
   ·have h0b : (b == 0) = false := by rw [beq_eq_false_iff_ne]; exact h0
    have HR : Hid (R = false) := by show _ = _; rw [HV.out, h0b]; simp [h2]
    clear HV
    go_enter Tryz.func165, Tryz.ntmps165
    go_wp2
    go_ret
    exact ⟨by rw [HR.out]; rfl, HB.out⟩
 ·have h1i : ¬ ((l : Int) = (l' : Int)) := by omega
  by_cases h0 : b = 0
  ·subst h0
   have HR : Hid (R = decide (l ≤ l')) := by show _ = _; rw [HV.out]; simp [h1]
   clear HV
   go_enter Tryz.func165, Tryz.ntmps165
   go_wp2
   go_ret
   exact ⟨by rw [HR.out]; rfl, HB.out⟩
  ·have h0b : (b == 0) = false := by rw [beq_eq_false_iff_ne]; exact h0
   have HR : Hid (R = false) := by show _ = _; rw [HV.out, h0b]; simp [h1]
   clear HV
   go_enter Tryz.func165, Tryz.ntmps165
   go_wp2
   go_ret
   exact ⟨by rw [HR.out]; rfl, HB.out⟩
set_option maxHeartbeats 4000000 in
theorem asimple_any (k : Int) (w : World) : Calls Tryz.prog 123 #[.int .i64 k] w fun e w' => e = .returned (shV (0, k)) ∧ Below w.heap.size w w' := by
 have HT : Hid (ShAt (w.alloc (.cells #[.int .i64 0, .int .i64 k] 89)) w.heap.size 0 k ∧ Below w.heap.size w (w.alloc (.cells #[.int .i64 0, .int .i64 k] 89))) := ⟨ShAt.new w 0 k, alloc_below w _⟩
 go_enter Tryz.func123, Tryz.ntmps123
 go_wp2
 generalize w.alloc (.cells #[.int .i64 0, .int .i64 k] 89) = W at *
 have s0 := HT.out.1.c0
 have s1 := HT.out.1.c1
 refine bodyPost_ret (v := shV (0, k)) ?_ rfl ?_
 ·simp [results, go_sem, s0, s1, shV]
 ·exact ⟨rfl, HT.out.2⟩
/-- the shape of a list's elements: none is known of a list of nothing -/
def elP (s : Sh) : Option Sh := if s = (1, 0) then none else some (s.1 - 1, s.2)
set_option maxHeartbeats 4000000 in
theorem aelement_any (s : Sh) (h1 : 1 ≤ s.1) (h2 : s.1 ≤ 100000) (w : World) : Calls Tryz.prog 147 #[shV s] w fun e w' => Below w.heap.size w w' ∧ ((elP s = none ∧ e = .returned (.tuple #[shV (0, 0), .bool false])) ∨ ∃ u, elP s = some u ∧ e = .returned (.tuple #[shV u, .bool true])) := by
 obtain ⟨l, b⟩ := s
 simp only at h1 h2
 have hb1 := alloc_below w (.cells #[.int .i64 l, .int .i64 b] 89)
 unfold shV elP
 by_cases hn : l = 1 ∧ b = 0
 ·obtain ⟨rfl, rfl⟩ := hn
  have HT : Hid (ShAt ((w.alloc (.cells #[.int .i64 1, .int .i64 0] 89)).alloc (.cells #[.int .i64 0, .int .i64 0] 89)) (w.heap.size + 1) 0 0 ∧ Below w.heap.size w ((w.alloc (.cells #[.int .i64 1, .int .i64 0] 89)).alloc (.cells #[.int .i64 0, .int .i64 0] 89))) := by
   have := ShAt.new (w.alloc (.cells #[.int .i64 1, .int .i64 0] 89)) 0 0
   rw [alloc_size] at this
   exact ⟨this, two_below w _ _⟩
  clear hb1
  have HF : Hid (((if ((1, 0) : Sh) = (1, 0) then none else some (1 - 1, 0)) : Option Sh) = none) := rfl
  generalize hO : ((if ((1, 0) : Sh) = (1, 0) then none else some (1 - 1, 0)) : Option Sh) = O at HF ⊢
  clear hO
  go_enter Tryz.func147, Tryz.ntmps147
  go_wp2
  generalize (w.alloc (.cells #[.int .i64 1, .int .i64 0] 89)).alloc (.cells #[.int .i64 0, .int .i64 0] 89) = W at *
  have s0 := HT.out.1.c0
  have s1 := HT.out.1.c1
  refine bodyPost_ret (v := .tuple #[.agg #[.int .i64 0, .int .i64 0], .bool false]) ?_ rfl ?_
  ·simp [results, go_sem, s0, s1]
  ·exact ⟨HT.out.2, .inl ⟨HF.out, rfl⟩⟩
 ·have hne : ¬ ((l, b) = ((1, 0) : Sh)) := by
   intro e
   rw [Prod.mk.injEq] at e
   exact hn e
  have HT : Hid (ShAt ((w.alloc (.cells #[.int .i64 l, .int .i64 b] 89)).alloc (.cells #[.int .i64 ((l - 1 : Nat) : Int), .int .i64 b] 89)) (w.heap.size + 1) ((l - 1 : Nat) : Int) b ∧ Below w.heap.size w ((w.alloc (.cells #[.int .i64 l, .int .i64 b] 89)).alloc (.cells #[.int .i64 ((l - 1 : Nat) : Int), .int .i64 b] 89))) := by
   have := ShAt.new (w.alloc (.cells #[.int .i64 l, .int .i64 b] 89)) ((l - 1 : Nat) : Int) b
   rw [alloc_size] at this
   exact ⟨this, two_below w _ _⟩
  have HF : Hid (((if ((l, b) : Sh) = (1, 0) then none else some (l - 1, b)) : Option Sh) = some (l - 1, b)) := by show _ = _; rw [if_neg hne]
  have hwr : IntKind.i64.wrap ((l : Int) - 1) = ((l - 1 : Nat) : Int) := by rw [IntKind.wrap_i64]; omega
  clear hb1
  by_cases hl : l = 1
  ·subst hl
   have hb0 : (b == 0) = false := by rw [beq_eq_false_iff_ne]; exact fun e => hn ⟨rfl, e⟩
   clear hn hne
   generalize hO : ((if ((1, b) : Sh) = (1, 0) then none else some (1 - 1, b)) : Option Sh) = O at HF ⊢
   clear hO
   go_enter Tryz.func147, Tryz.ntmps147
   go_wp2
   generalize (w.alloc (.cells #[.int .i64 ((1 : Nat) : Int), .int .i64 b] 89)).alloc (.cells #[.int .i64 ((1 - 1 : Nat) : Int), .int .i64 b] 89) = W at *
   have s0 := HT.out.1.c0
   have s1 := HT.out.1.c1
   refine bodyPost_ret (v := .tuple #[.agg #[.int .i64 0, .int .i64 b], .bool true]) ?_ rfl ?_
   ·simp [results, go_sem, s0, s1]
   ·exact ⟨HT.out.2, .inr ⟨_, HF.out, rfl⟩⟩
  ·have hl1 : ((l : Int) == 1) = false := by rw [beq_eq_false_iff_ne]; omega
   clear hn hne
   generalize hO : ((if ((l, b) : Sh) = (1, 0) then none else some (l - 1, b)) : Option Sh) = O at HF ⊢
   clear hO
   go_enter Tryz.func147, Tryz.ntmps147
   go_wp2
   generalize (w.alloc (.cells #[.int .i64 l, .int .i64 b] 89)).alloc (.cells #[.int .i64 ((l - 1 : Nat) : Int), .int .i64 b] 89) = W at *
   have s0 := HT.out.1.c0
   have s1 := HT.out.1.c1
   refine bodyPost_ret (v := .tuple #[.agg #[.int .i64 ((l - 1 : Nat) : Int), .int .i64 b], .bool true]) ?_ rfl ?_
   ·simp [results, go_sem, s0, s1]
   ·exact ⟨HT.out.2, .inr ⟨_, HF.out, rfl⟩⟩

end Go.Proofs.YtgmmfpdekefamaaGreatDoor

namespace Go.Proofs.YtgmmfpdekefamaaGreatDoor
open Go.RowKit
set_option linter.unusedVariables false
set_option maxRecDepth 100000

/-- a shape and whether there is one -/
def GotS (w : World) (o : Option Sh) (e : Ending) (w' : World) : Prop := Below w.heap.size w w' ∧ ∃ (u : Sh) (yes : Bool), e = .returned (.tuple #[shV u, .bool yes]) ∧ yes = o.isSome ∧ ∀ s, o = some s → u = s
theorem GotS.yes {w W : World} {o : Option Sh} {s : Sh} (ho : o = some s) (hb : Below w.heap.size w W) : GotS w o (.returned (.tuple #[shV s, .bool true])) W := ⟨hb, s, true, rfl, by rw [ho]; rfl, fun s' hs => by rw [ho] at hs; exact Option.some.inj hs⟩
theorem GotS.no {w W : World} {o : Option Sh} (s : Sh) (ho : o = none) (hb : Below w.heap.size w W) : GotS w o (.returned (.tuple #[shV s, .bool false])) W := ⟨hb, s, false, rfl, by rw [ho]; rfl, fun s' hs => by rw [ho] at hs; cases hs⟩
theorem GotS.bool {w W : World} {o : Option Sh} {s : Sh} {c : Bool} (ho : o = if c = true then some s else none) (hb : Below w.heap.size w W) : GotS w o (.returned (.tuple #[shV s, .bool c])) W := by
 cases c
 ·exact GotS.no _ (by simpa using ho) hb
 ·exact GotS.yes (by simpa using ho) hb
structure S3 (w W : World) (a b : Sh) : Prop where
 bel : Below w.heap.size w W
 a : ShAt W w.heap.size a.1 a.2
 b : ShAt W (w.heap.size + 1) b.1 b.2
 r : ShAt W (w.heap.size + 2) 0 0
theorem S3.new (w : World) (a b : Sh) : S3 w (((w.alloc (.cells #[.int .i64 a.1, .int .i64 a.2] 89)).alloc (.cells #[.int .i64 b.1, .int .i64 b.2] 89)).alloc (.cells #[.int .i64 0, .int .i64 0] 89)) a b := by
 have b2 := two_below w (.cells #[.int .i64 a.1, .int .i64 a.2] 89) (.cells #[.int .i64 b.1, .int .i64 b.2] 89)
 have h1 := ShAt.new w a.1 a.2
 have h2 := ShAt.new (w.alloc (.cells #[.int .i64 a.1, .int .i64 a.2] 89)) b.1 b.2
 have h3 := ShAt.new ((w.alloc (.cells #[.int .i64 a.1, .int .i64 a.2] 89)).alloc (.cells #[.int .i64 b.1, .int .i64 b.2] 89)) 0 0
 have b3 := alloc_below ((w.alloc (.cells #[.int .i64 a.1, .int .i64 a.2] 89)).alloc (.cells #[.int .i64 b.1, .int .i64 b.2] 89)) (.cells #[.int .i64 0, .int .i64 0] 89)
 have bb := alloc_below (w.alloc (.cells #[.int .i64 a.1, .int .i64 a.2] 89)) (.cells #[.int .i64 b.1, .int .i64 b.2] 89)
 rw [alloc_size] at h2 bb
 rw [alloc_size, alloc_size] at h3 b3
 exact ⟨b2.trans (b3.mono (by omega)), (h1.below bb (by omega)).below b3 (by omega), h2.below b3 (by omega), h3⟩
theorem S3.after {w W W' : World} {a b : Sh} (h : S3 w W a b) (hb : Below W.heap.size W W') : S3 w W' a b :=
 ⟨h.bel.trans (hb.mono h.bel.size), h.a.below hb h.a.lt, h.b.below hb h.b.lt, h.r.below hb h.r.lt⟩

set_option maxHeartbeats 8000000 in
theorem ajoin_any (a b : Sh) (w : World) : Calls Tryz.prog 125 #[shV a, shV b] w (GotS w (joinP a b)) := by
 have HF1 : Hid (∀ W, Calls Tryz.prog 165 #[shV a, shV b] W fun e w' => e = .returned (.bool (fitP a b)) ∧ Below W.heap.size W w') := fun W => afits_any a b W
 have HF2 : Hid (∀ W, Calls Tryz.prog 165 #[shV b, shV a] W fun e w' => e = .returned (.bool (fitP b a)) ∧ Below W.heap.size W w') := fun W => afits_any b a W
 have HJ : Hid (S3 w (((w.alloc (.cells #[.int .i64 a.1, .int .i64 a.2] 89)).alloc (.cells #[.int .i64 b.1, .int .i64 b.2] 89)).alloc (.cells #[.int .i64 0, .int .i64 0] 89)) a b) := S3.new w a b
 have HV : Hid (joinP a b = if fitP a b = true then some b else if fitP b a = true then some a else none) := rfl
 generalize joinP a b = O at *
 generalize fitP a b = F1 at *
 generalize fitP b a = F2 at *
 obtain ⟨la, ba⟩ := a
 obtain ⟨lb, bb⟩ := b
 unfold shV at HF1 HF2 ⊢
 simp only at HF1 HF2 HJ ⊢
 go_enter Tryz.func125, Tryz.ntmps125
 go_wp2_with fail
 generalize ((w.alloc (.cells #[.int .i64 la, .int .i64 ba] 89)).alloc (.cells #[.int .i64 lb, .int .i64 bb] 89)).alloc (.cells #[.int .i64 0, .int .i64 0] 89) = w3 at *
 go_at_call 165
 refine (HF1.out _).mono ?_
 rintro e w4 ⟨rfl, hb4⟩
 have HJ4 : Hid (S3 w w4 (la, ba) (lb, bb)) := HJ.out.after hb4
 clear hb4 HJ HF1
 have a0 := HJ4.out.a.c0
 have a1 := HJ4.out.a.c1
 have b0 := HJ4.out.b.c0
 have b1 := HJ4.out.b.c1
 have r0 := HJ4.out.r.c0
 have r1 := HJ4.out.r.c1
 have f0 := HJ4.out.r.fz 0
 have f1 := HJ4.out.r.fz 1
 have ra := HJ4.out.a.lt
 have rb := HJ4.out.b.lt
 have rr := HJ4.out.r.lt
 simp only at a0 a1 b0 b1
 cases hF : F1
 ·go_wp2_with fail
  have HC : Hid (Calls Tryz.prog 165 #[.agg #[.int .i64 lb, .int .i64 bb], .agg #[.int .i64 la, .int .i64 ba]] w4.drew fun e w' => e = .returned (.bool F2) ∧ Below w4.heap.size w4 w') := by
   refine (HF2.out _).mono ?_
   rintro e w' ⟨e1, e2⟩
   exact ⟨e1, (below_drewG (Below.refl _ _) 1 : Below w4.heap.size w4 w4.drew).trans e2⟩
  have HX : Hid (∀ w', Below w4.heap.size w4 w' → (w'.cell? ⟨w.heap.size, 0, none⟩ = some (.int .i64 la) ∧ w'.cell? ⟨w.heap.size, 1, none⟩ = some (.int .i64 ba) ∧ w'.cell? ⟨w.heap.size + 1, 0, none⟩ = some (.int .i64 lb) ∧ w'.cell? ⟨w.heap.size + 1, 1, none⟩ = some (.int .i64 bb))) := fun w' hb =>
   ⟨(hb.cell (p := ⟨w.heap.size, 0, none⟩) ra).trans a0, (hb.cell (p := ⟨w.heap.size, 1, none⟩) ra).trans a1, (hb.cell (p := ⟨w.heap.size + 1, 0, none⟩) rb).trans b0, (hb.cell (p := ⟨w.heap.size + 1, 1, none⟩) rb).trans b1⟩
  clear HF2
  have ne1 : w.heap.size + 1 + 1 ≠ w.heap.size := by omega
  have ne2 : w.heap.size ≠ w.heap.size + 1 + 1 := by omega
  go_region_held3 (fun w' => w'.cell? ⟨w.heap.size, 0, none⟩ = some (.int .i64 la) ∧ w'.cell? ⟨w.heap.size, 1, none⟩ = some (.int .i64 ba) ∧ w'.cell? ⟨w.heap.size + 1, 0, none⟩ = some (.int .i64 lb) ∧ w'.cell? ⟨w.heap.size + 1, 1, none⟩ = some (.int .i64 bb)) (go_keep) ((go_at_call 165; refine HC.out.mono ?_; rintro e w5 ⟨rfl, hb5⟩; obtain ⟨y0, y1, y2, y3⟩ := HX.out w5 hb5; have HJ5 : Hid (S3 w w5 (la, ba) (lb, bb)) := HJ4.out.after hb5; have q0 := HJ5.out.r.c0; have q1 := HJ5.out.r.c1; have g0 := HJ5.out.r.fz 0; have g1 := HJ5.out.r.fz 1; have gl := HJ5.out.r.lt))
  obtain ⟨W, hW, hbW, _, hTW⟩ := HJ5.out.r.ret HJ5.out.bel (by omega) la ba
  have HW : Hid (putS w5 (w.heap.size + 2) la ba = W) := hW
  have s0 := hTW.c0
  have s1 := hTW.c1
  have HG : Hid (GotS w O (.returned (.tuple #[shV (la, ba), .bool F2])) W) := GotS.bool (by rw [HV.out, hF]; simp) hbW
  clear hW hbW hTW HJ5 HJ4 HC HX y0 y1 y2 y3 q0 q1 g0 g1 gl a0 a1 b0 b1 r0 r1 f0 f1 ra rb rr
  go_wp2
  have hW := HW.out
  unfold putS at hW
  rw [hW]
  refine bodyPost_ret (v := .tuple #[.agg #[.int .i64 la, .int .i64 ba], .bool F2]) ?_ rfl ?_
  ·simp [results, go_sem, s0, s1]
  ·exact HG.out
 ·obtain ⟨W, hW, hbW, _, hTW⟩ := HJ4.out.r.ret HJ4.out.bel (by omega) lb bb
  have HW : Hid (putS w4 (w.heap.size + 2) lb bb = W) := hW
  have s0 := hTW.c0
  have s1 := hTW.c1
  have HG : Hid (GotS w O (.returned (.tuple #[shV (lb, bb), .bool true])) W) := GotS.yes (by rw [HV.out, hF]; simp) hbW
  clear hW hbW hTW HJ4 HF2
  go_wp2
  have hW := HW.out
  unfold putS at hW
  rw [hW]
  refine bodyPost_ret (v := .tuple #[.agg #[.int .i64 lb, .int .i64 bb], .bool true]) ?_ rfl ?_
  ·simp [results, go_sem, s0, s1]
  ·exact HG.out

/-- shapes in a row -/
def ShsR (w : World) (v : Value) (l : List Sh) : Prop := ∃ a c, v = .slice a l.length c ∧ l.length ≤ c ∧ (l = [] ∨ ∃ g off, a = some ⟨g, off, none⟩ ∧ g < w.heap.size ∧ ∀ j, j < l.length → w.cell? ⟨g, off + j * 2, none⟩ = some (.int .i64 (l.getD j noS).1) ∧ w.cell? ⟨g, off + j * 2 + 1, none⟩ = some (.int .i64 (l.getD j noS).2))
theorem ShsR.below {w w' : World} {v : Value} {l : List Sh} (h : ShsR w v l) (hb : Below w.heap.size w w') : ShsR w' v l := by
 obtain ⟨a, c, h1, h0, h2⟩ := h
 refine ⟨a, c, h1, h0, h2.imp id fun ⟨g, off, e, hg, hc⟩ => ⟨g, off, e, Nat.lt_of_lt_of_le hg hb.size, fun j hj => ?_⟩⟩
 obtain ⟨c0, c1⟩ := hc j hj
 exact ⟨(hb.cell (p := ⟨g, off + j * 2, none⟩) hg).trans c0, (hb.cell (p := ⟨g, off + j * 2 + 1, none⟩) hg).trans c1⟩
theorem ShsR.slice {w : World} {v : Value} {l : List Sh} (h : ShsR w v l) : ∃ a c, v = .slice a l.length c := by
 obtain ⟨a, c, e, _, _⟩ := h; exact ⟨a, c, e⟩
theorem ShsR.cap {w : World} {a : Option Addr} {n c : Nat} {l : List Sh} (h : ShsR w (.slice a n c) l) : l.length ≤ c := by
 obtain ⟨a', c', e, h0, _⟩ := h
 obtain ⟨rfl, rfl, rfl⟩ : a = a' ∧ n = l.length ∧ c = c' := by simpa using e
 exact h0
theorem ShsR.at {w : World} {a : Option Addr} {n c : Nat} {l : List Sh} (h : ShsR w (.slice a n c) l) {k : Nat} (hk : k < l.length) : ∃ g off, a = some ⟨g, off, none⟩ ∧ g < w.heap.size ∧ w.cell? ⟨g, off + k * 2, none⟩ = some (.int .i64 (l.getD k noS).1) ∧ w.cell? ⟨g, off + k * 2 + 1, none⟩ = some (.int .i64 (l.getD k noS).2) := by
 obtain ⟨a', c', e, _, h2⟩ := h
 obtain ⟨rfl, rfl, rfl⟩ : a = a' ∧ n = l.length ∧ c = c' := by simpa using e
 rcases h2 with rfl | ⟨b, off, rfl, hb, hc⟩
 ·simp at hk
 ·obtain ⟨c0, c1⟩ := hc k hk
  exact ⟨b, off, rfl, hb, c0, c1⟩

end Go.Proofs.YtgmmfpdekefamaaGreatDoor

namespace Go.Proofs.YtgmmfpdekefamaaGreatDoor
open Go.RowKit
set_option linter.unusedVariables false
set_option maxRecDepth 100000

def arP (l : List Sh) : List Int → Nat → Bool
 | [], _ => true
 | k :: ks, i => decide (l.getD i noS = (0, k)) && arP l ks (i + 1)
theorem ar_drop {l : List Sh} {ks : List Int} {i : Nat} (h : i < ks.length) : arP l (ks.drop i) i = (decide (l.getD i noS = (0, ks.getD i 0)) && arP l (ks.drop (i + 1)) (i + 1)) := by
 rw [List.drop_eq_getElem_cons h]
 show (decide (l.getD i noS = (0, ks[i])) && _) = _
 rw [show ks.getD i 0 = ks[i] by simp [List.getD, h]]
set_option maxHeartbeats 8000000 in
theorem aare_any {w : World} {lv kv : Value} {l : List Sh} {ks : List Int} (h : ShsR w lv l) (hk : IntsR w kv ks) (hle : ks.length ≤ l.length) (hkl : ks.length ≤ 1000) : Calls Tryz.prog 124 #[lv, kv] w fun e w' => e = .returned (.bool (arP l ks 0)) ∧ Below w.heap.size w w' := by
 obtain ⟨a, c, rfl⟩ := h.slice
 obtain ⟨ka, kc, rfl⟩ := hk.slice
 have HR : Hid (arP l (ks.drop 0) 0 = arP l ks 0) := rfl
 generalize arP l ks 0 = R at *
 have HL : Hid (ShsR w (.slice a l.length c) l) := h
 have HK : Hid (IntsR w (.slice ka ks.length kc) ks) := hk
 have HS : Hid (∀ k W, Calls Tryz.prog 123 #[.int .i64 k] W fun e w' => e = .returned (shV (0, k)) ∧ Below W.heap.size W w') := asimple_any
 clear h hk
 go_enter Tryz.func124, Tryz.ntmps124
 go_wp2
 go_loopw [9] (fun iv wr => ∃ i : Nat, iv = .int .i64 i ∧ i ≤ ks.length ∧ Hid (Below w.heap.size w wr) ∧ Hid (arP l (ks.drop i) i = R)) (fun iv _ => ks.length - (intOf iv).toNat)
 case atStart => exact ⟨0, rfl, Nat.zero_le _, Below.refl _ _, HR⟩
 case round =>
  clear HR
  obtain ⟨i, rfl, hil, HB, HRr⟩ := hrel
  have hb := HB.out
  by_cases hlt : i < ks.length
  ·have hltI : (i : Int) < (ks.length : Int) := by omega
   have hltL : (i : Int) < (l.length : Int) := by omega
   obtain ⟨g, off, rfl, hg, c0, c1⟩ := HL.out.at (k := i) (by omega)
   obtain ⟨kg, koff, rfl, hkg, k0⟩ := HK.out.at hlt
   have d0 := (hb.cell (p := ⟨g, off + i * 2, none⟩) hg).trans c0
   have d1 := (hb.cell (p := ⟨g, off + i * 2 + 1, none⟩) hg).trans c1
   have d2 := (hb.cell (p := ⟨kg, koff + i, none⟩) hkg).trans k0
   have hgl := Nat.lt_of_lt_of_le hg hb.size
   have hkgl := Nat.lt_of_lt_of_le hkg hb.size
   have HD := ar_drop (l := l) hlt
   rw [HRr.out] at HD
   generalize hu : l.getD i noS = u at *
   generalize hk : ks.getD i 0 = k at *
   obtain ⟨lu, bu⟩ := u
   simp only at d0 d1
   have HC : Hid (Calls Tryz.prog 123 #[.int .i64 k] wr.drew fun e w' => e = .returned (.agg #[.int .i64 0, .int .i64 k]) ∧ Below wr.heap.size wr w') := by
    refine (HS.out k wr.drew).mono ?_
    rintro e w' ⟨e1, e2⟩
    exact ⟨e1, (below_drewG (Below.refl _ _) 1 : Below wr.heap.size wr wr.drew).trans e2⟩
   have HX : Hid (∀ w', Below wr.heap.size wr w' → (w'.cell? ⟨g, off + i * 2, none⟩ = some (.int .i64 lu) ∧ w'.cell? ⟨g, off + i * 2 + 1, none⟩ = some (.int .i64 bu))) := fun w' hb => ⟨(hb.cell (p := ⟨g, off + i * 2, none⟩) hgl).trans d0, (hb.cell (p := ⟨g, off + i * 2 + 1, none⟩) hgl).trans d1⟩
   clear c0 c1 k0 hu hk hb HRr HL HK HS
   by_cases hz : lu = 0
   ·subst hz
    by_cases hb2 : bu = k
    ·subst hb2
     have HR2 : Hid (arP l (ks.drop (i + 1)) (i + 1) = R) := by show _ = _; rw [HD]; simp
     clear HD
     go_wp2_with fail
     go_region_held3 (fun w' => w'.cell? ⟨g, off + i * 2, none⟩ = some (.int .i64 ((0 : Nat) : Int)) ∧ w'.cell? ⟨g, off + i * 2 + 1, none⟩ = some (.int .i64 bu)) (go_keep) ((go_at_call 123; refine HC.out.mono ?_; rintro e w5 ⟨rfl, hb5⟩; obtain ⟨y0, y1⟩ := HX.out w5 hb5))
     all_goals
      have HB5 : Hid (Below w.heap.size w w5) := HB.out.trans (hb5.mono HB.out.size)
      clear hb5 y0 y1 HX HC d0 d1 d2 HB
      go_wp2
      go_roundw
      case rel => exact ⟨i + 1, by go_num, by omega, HB5, HR2⟩
      case measure => simp [intOf]; omega
    ·have HR2 : Hid (R = false) := by show _ = _; rw [HD]; simp [hb2]
     clear HD
     go_wp2_with fail
     go_region_held3 (fun w' => w'.cell? ⟨g, off + i * 2, none⟩ = some (.int .i64 ((0 : Nat) : Int)) ∧ w'.cell? ⟨g, off + i * 2 + 1, none⟩ = some (.int .i64 bu)) (go_keep) ((go_at_call 123; refine HC.out.mono ?_; rintro e w5 ⟨rfl, hb5⟩; obtain ⟨y0, y1⟩ := HX.out w5 hb5))
     all_goals
      have HB5 : Hid (Below w.heap.size w w5) := HB.out.trans (hb5.mono HB.out.size)
      clear hb5 y0 y1 HX HC d0 d1 d2 HB
      go_wp2
      go_ret
      exact ⟨by rw [HR2.out]; rfl, HB5.out⟩
   ·have hzI : ¬ ((lu : Int) = 0) := by omega
    have HR2 : Hid (R = false) := by show _ = _; rw [HD]; simp [hz]
    clear HD
    go_wp2_with fail
    go_region_held3 (fun w' => w'.cell? ⟨g, off + i * 2, none⟩ = some (.int .i64 lu) ∧ w'.cell? ⟨g, off + i * 2 + 1, none⟩ = some (.int .i64 bu)) (go_keep) ((go_at_call 123; refine HC.out.mono ?_; rintro e w5 ⟨rfl, hb5⟩; obtain ⟨y0, y1⟩ := HX.out w5 hb5))
    all_goals
     have HB5 : Hid (Below w.heap.size w w5) := HB.out.trans (hb5.mono HB.out.size)
     clear hb5 y0 y1 HX HC d0 d1 d2 HB
     go_wp2
     go_ret
     exact ⟨by rw [HR2.out]; rfl, HB5.out⟩
  ·obtain rfl : i = ks.length := by omega
   have HR2 : Hid (R = true) := by
    show _ = _
    rw [← HRr.out, List.drop_length]; rfl
   clear HRr HS
   go_wp2
   go_ret
   exact ⟨by rw [HR2.out]; rfl, HB.out⟩

end Go.Proofs.YtgmmfpdekefamaaGreatDoor
