/- Texts of the proof, put together: QCutC, QNxt, QRd, QMk. -/
import Derived.Test.YtgmmfpdekefamaaGreatDoorAt40
import Derived.Test.YtgmmfpdekefamaaGreatDoorAt12
namespace Go.Proofs.YtgmmfpdekefamaaGreatDoor
open Go.RowKit
set_option linter.unusedVariables false
set_option maxRecDepth 100000

/-- the program's token of one of the document's, without its place -/
def ptK (t : Tok) : PTk :=
 if t.kind = 0 then ⟨6, 0, ⟨#[]⟩, 0⟩ else if t.kind = 1 then ⟨1, 0, ⟨#[]⟩, t.num⟩ else if t.kind = 3 then plP t.num else if t.kind = 2 then ⟨2, 0, t.text, 0⟩ else if t.kind = 4 then wdP t.text else ⟨6, 0, t.text, 0⟩
theorem sub_of {w : World} {C : Nat} {s : ByteArray} {i j : Nat} {pk : PTk} {F : Nat} (h : ∀ W, CtA W C s i → UtfW W → Calls Tryz.prog F #[.pointer (some ⟨C, 0, none⟩)] W fun e w' => e = .returned (pkV pk) ∧ W.grownBy w' (some C) ∧ CtA w' C s j) (hU : UtfW w) (hC : 16 ≤ C) : ∀ W, CX w W C s i zeroP → Calls Tryz.prog F #[.pointer (some ⟨C, 0, none⟩)] W fun e w' => e = .returned (pkV pk) ∧ CX w w' C s j zeroP := fun W hX =>
 (h W hX.ct (hU.kept hX.gr hC)).mono fun e w' ⟨q1, q2, q3⟩ => ⟨q1, hX.run q2 q3⟩
set_option maxHeartbeats 4000000 in
theorem ccut_end {w : World} {C : Nat} {s : ByteArray} (h : CtA w C s s.size) : Calls Tryz.prog 231 #[.pointer (some ⟨C, 0, none⟩)] w fun e w' => e = .returned (pkV ⟨6, 0, ⟨#[]⟩, 0⟩) ∧ w.grownBy w' (some C) ∧ CtA w' C s s.size := by
 have HX0 : Hid (CX w (w.alloc (.cells #[.int .i64 0, .int .i64 0, .string ⟨#[]⟩, .int .i64 0] 125)) C s s.size zeroP) := CX.new h
 have c0 := HX0.out.ct.c0
 have c1 := HX0.out.ct.c1
 have hClt := HX0.out.ct.lt
 have c0w := h.c0
 have c1w := h.c1
 have hCltw := h.lt
 clear h
 go_enter Tryz.func231, Tryz.ntmps231
 go_wp2_with fail
 go_quiet (fail)
 have HX3 : Hid (CX w ((w.alloc (.cells #[.int .i64 0, .int .i64 0, .string ⟨#[]⟩, .int .i64 0] 125)).drewN nq) C s s.size zeroP) := HX0.out.drewN nq
 generalize (w.alloc (.cells #[.int .i64 0, .int .i64 0, .string ⟨#[]⟩, .int .i64 0] 125)).drewN nq = w3 at *
 clear c0 c1 hClt HX0 c0w c1w hCltw
 have hX3 := HX3.out
 clear HX3
 obtain ⟨W, hW, hXW⟩ := hX3.fin ⟨6, 0, ⟨#[]⟩, 0⟩
 obtain ⟨c0, c1, c2, c3⟩ := hX3.box.cells
 have f0 := hX3.box.fz 0
 have f1 := hX3.box.fz 1
 have f2 := hX3.box.fz 2
 have f3 := hX3.box.fz 3
 obtain ⟨r0, r1, r2, r3⟩ := hXW.box.cells
 simp only at r0 r1 r2 r3
 have HW : Hid (putK w3 w.heap.size ⟨6, 0, ⟨#[]⟩, 0⟩ = W) := hW
 have HXW : Hid (CX w W C s s.size ⟨6, 0, ⟨#[]⟩, 0⟩) := hXW
 clear hW hXW hX3 
 go_wp2
 have hW := HW.out
 unfold putK at hW
 simp only [Int.natCast_zero] at hW
 rw [hW]
 refine bodyPost_ret (v := pkV ⟨6, 0, ⟨#[]⟩, 0⟩) ?_ rfl ?_
 ·simp [results, go_sem, r0, r1, r2, r3, pkV]
 ·exact ⟨rfl, HXW.out.gr, HXW.out.ct⟩
theorem ccut_any {w : World} {C : Nat} {s : ByteArray} {i : Nat} {t : Tok} (h : CtA w C s i) (hU : UtfW w) (hbig : 16 ≤ C) (hi : i ≤ s.size) (hs : s.size ≤ 70000) (hc : cutAt s i = some t) :
  Calls Tryz.prog 231 #[.pointer (some ⟨C, 0, none⟩)] w fun e w' => e = .returned (pkV (ptK t)) ∧ w.grownBy w' (some C) ∧ CtA w' C s t.fin := by
 by_cases hlt : i < s.size
 ·unfold cutAt at hc
  rw [if_pos hlt] at hc
  cases hD : digitB ((s.get! i).toNat : Int)
  ·rw [if_neg (by rw [hD]; simp)] at hc
   have hM36 : (s.get! i).toNat = 36 → smallB ((s.get! i).toNat : Int) = false := fun e => by rw [e]; rfl
   have hM34 : (s.get! i).toNat = 34 → smallB ((s.get! i).toNat : Int) = false := fun e => by rw [e]; rfl
   by_cases h36 : (s.get! i).toNat = 36
   ·rw [if_pos h36] at hc
    obtain ⟨y, hy, rfl⟩ := map_some hc
    exact ccut_place h hlt (sub_of (fun W hct _ => cplace_any pint_holds hct hlt hs (j := y.2) (n := y.1) hy) hU hbig) hD (hM36 h36) (by rw [h36]; rfl)
   ·rw [if_neg h36] at hc
    have e36 : (((s.get! i).toNat : Int) == 36) = false := by rw [beq_eq_false_iff_ne]; omega
    by_cases h34 : (s.get! i).toNat = 34
    ·rw [if_pos h34] at hc
     obtain ⟨y, hy, rfl⟩ := map_some hc
     exact ccut_quoted h hlt (sub_of (fun W hct hu => cquoted_any hct hu hbig hlt hs (x := y.1) (j := y.2) hy) hU hbig) hD (hM34 h34) e36 (by rw [h34]; rfl)
    ·rw [if_neg h34] at hc
     have e34 : (((s.get! i).toNat : Int) == 34) = false := by rw [beq_eq_false_iff_ne]; omega
     cases hM : smallB ((s.get! i).toNat : Int)
     ·rw [if_neg (by rw [hM]; simp)] at hc
      by_cases hg : 0 < sgnE s i
      ·rw [if_pos hg] at hc
       obtain rfl := Option.some.inj hc
       have hf := sg_find hlt hg
       have hle := sgn_le s i hlt
       refine ccut_sign h hlt (sub_of (fun W hct _ => ?_) hU hbig) hD hM e36 e34
       have := csign_any hpre_holds hct hlt hs hf
       have e : i + (s.extract i (i + sgnE s i)).size = i + sgnE s i := by rw [ByteArray.size_extract]; omega
       rw [e] at this
       exact this
      ·rw [if_neg hg] at hc; cases hc
     ·rw [if_pos hM] at hc
      obtain rfl := Option.some.inj hc
      exact ccut_word h hlt (sub_of (fun W hct _ => cword_any hct (by omega) hs) hU hbig) hD hM
  ·rw [if_pos hD] at hc
   obtain ⟨y, hy, rfl⟩ := map_some hc
   exact ccut_digit h hlt (sub_of (fun W hct _ => cnumber_any pint_holds hct (by omega) hs (j := y.2) (n := y.1) hy) hU hbig) hD
 ·obtain rfl : i = s.size := by omega
  unfold cutAt at hc
  rw [if_neg hlt] at hc
  obtain rfl := Option.some.inj hc
  exact ccut_end h

end Go.Proofs.YtgmmfpdekefamaaGreatDoor

namespace Go.Proofs.YtgmmfpdekefamaaGreatDoor
open Go.RowKit
set_option linter.unusedVariables false
set_option maxRecDepth 100000

theorem cutAt_fr {s : ByteArray} {i : Nat} {t : Tok} (h : cutAt s i = some t) : t.fr = i := by
 unfold cutAt at h
 repeat' split at h
 all_goals first | (cases h; done) | (obtain ⟨y, _, rfl⟩ := map_some h; rfl) | (cases h; rfl)
/-- the program's token of one of the document's -/
def ptF (t : Tok) : PTk := { ptK t with fr := t.fr }
set_option maxHeartbeats 8000000 in
theorem cnext_any {w : World} {C : Nat} {s : ByteArray} {p : Nat} {t : Tok} (h : CtA w C s p) (hU : UtfW w) (hbig : 16 ≤ C) (hp : p ≤ s.size) (hs : s.size ≤ 70000) (hc : cutE s p = some t) :
  Calls Tryz.prog 227 #[.pointer (some ⟨C, 0, none⟩)] w fun e w' => e = .returned (pkV (ptF t)) ∧ w.grownBy w' (some C) ∧ CtA w' C s t.fin := by
 have hrun := run_le blankB s hp
 have hfr : t.fr = run blankB s p := cutAt_fr hc
 have HX0 : Hid (CX w (w.alloc (.cells #[.int .i64 0, .int .i64 0, .string ⟨#[]⟩, .int .i64 0] 125)) C s p zeroP) := CX.new h
 have HR : Hid (∀ w', CX w w' C s p zeroP → Calls Tryz.prog 229 #[.pointer (some ⟨C, 0, none⟩), .func (.func 230) #[] #[]] w' fun e w'' => (∃ x, e = .returned (.string x)) ∧ CX w w'' C s t.fr zeroP) := fun w' hX => (crun_any 230 blankB tell_blank.1 tell_blank.2 hX.ct hp hs).mono fun e w'' ⟨q1, q2, q3⟩ => ⟨⟨_, q1⟩, hX.run q2 (hfr ▸ q3)⟩
 have HC : Hid (∀ w', CX w w' C s t.fr zeroP → Calls Tryz.prog 231 #[.pointer (some ⟨C, 0, none⟩)] w' fun e w'' => e = .returned (pkV (ptK t)) ∧ CX w w'' C s t.fin zeroP) := fun w' hX => (ccut_any hX.ct (hU.kept hX.gr hbig) hbig (by omega) hs (hfr ▸ hc)).mono fun e w'' ⟨q1, q2, q3⟩ => ⟨q1, hX.run q2 q3⟩
 have HPF : Hid (ptF t = { ptK t with fr := t.fr }) := rfl
 generalize t.fr = fr at *
 generalize t.fin = jt at *
 generalize ptF t = pf at *
 generalize ptK t = pk at *
 obtain ⟨ka, fb, xc, nd⟩ := pk
 obtain rfl := HPF.out
 have HC2 : Hid (∀ w', CX w w' C s fr zeroP → Calls Tryz.prog 231 #[.pointer (some ⟨C, 0, none⟩)] w' fun e w'' => e = .returned (.agg #[.int .i64 ka, .int .i64 (fb : Int), .string xc, .int .i64 nd]) ∧ CX w w'' C s jt zeroP) := HC.out
 clear HC HPF hc hfr h hU hrun
 go_enter Tryz.func227, Tryz.ntmps227
 go_wp2_with fail
 go_at_call 229
 refine (HR.out _ HX0.out).mono ?_
 rintro e w1 ⟨⟨x, rfl⟩, hX1⟩
 have HX1 : Hid (CX w w1 C s fr zeroP) := hX1
 have c1 := hX1.ct.c1
 have hClt := hX1.ct.lt
 clear HR HX0 hX1
 go_wp2_with fail
 go_at_call 231
 refine (HC2.out _ HX1.out).mono ?_
 rintro e w2 ⟨rfl, hX2⟩
 have HX2 : Hid (CX w w2 C s jt zeroP) := hX2
 clear HC2 HX1 hX2 c1 hClt
 obtain ⟨a0, a1, a2, a3⟩ := HX2.out.box.cells
 have f0 := HX2.out.box.fz 0
 have f1 := HX2.out.box.fz 1
 have f2 := HX2.out.box.fz 2
 have f3 := HX2.out.box.fz 3
 have hN := HX2.out.box.lt
 obtain ⟨W, hW, hXW⟩ := HX2.out.fin ⟨ka, fr, xc, nd⟩
 have hXA := hXW.kept (alloc_below W (.cells #[.int .i64 ka, .int .i64 (fr : Int), .string xc, .int .i64 nd] 125))
 obtain ⟨r0, r1, r2, r3⟩ := hXA.box.cells
 simp only at r0 r1 r2 r3
 have HW : Hid (putK w2 w.heap.size ⟨ka, fr, xc, nd⟩ = W) := hW
 have HXA : Hid (CX w (W.alloc (.cells #[.int .i64 ka, .int .i64 (fr : Int), .string xc, .int .i64 nd] 125)) C s jt ⟨ka, fr, xc, nd⟩) := hXA
 clear hW hXW hXA HX2
 go_wp2
 have hW := HW.out
 unfold putK at hW
 rw [hW]
 refine bodyPost_ret (v := pkV ⟨ka, fr, xc, nd⟩) ?_ rfl ?_
 ·simp only [results]
  simp [go_sem, r0, r1, r2, r3, pkV]
 ·exact ⟨rfl, HXA.out.gr, HXA.out.ct⟩

end Go.Proofs.YtgmmfpdekefamaaGreatDoor

namespace Go.Proofs.YtgmmfpdekefamaaGreatDoor
open Go.RowKit
set_option linter.unusedVariables false
set_option maxRecDepth 100000

/-- all is as it was but for two blocks, and what is new -/
structure G2 (R C : Nat) (w w' : World) : Prop where
 os : w'.os = w.os
 tape : w'.tape = w.tape
 output : w'.output = w.output
 size : w.heap.size ≤ w'.heap.size
 block : ∀ b, b < w.heap.size → b ≠ R → b ≠ C → w'.heap[b]? = w.heap[b]?
theorem G2.refl (R C : Nat) (w : World) : G2 R C w w := ⟨rfl, rfl, rfl, Nat.le_refl _, fun _ _ _ _ => rfl⟩
theorem G2.trans {R C : Nat} {a b c : World} (h : G2 R C a b) (k : G2 R C b c) : G2 R C a c := ⟨k.os.trans h.os, k.tape.trans h.tape, k.output.trans h.output, Nat.le_trans h.size k.size, fun x hx h1 h2 => (k.block x (Nat.lt_of_lt_of_le hx h.size) h1 h2).trans (h.block x hx h1 h2)⟩
theorem G2.ofC {R C : Nat} {w w' : World} (h : w.grownBy w' (some C)) : G2 R C w w' := ⟨h.os, h.tape, h.output, h.size, fun b hb _ h2 => h.block b hb (fun e => h2 (Option.some.inj e))⟩
theorem G2.ofR {R C : Nat} {w w' : World} (h : w.grownBy w' (some R)) : G2 R C w w' := ⟨h.os, h.tape, h.output, h.size, fun b hb h1 _ => h.block b hb (fun e => h1 (Option.some.inj e))⟩
theorem G2.below {R C : Nat} {w w' : World} (h : Below w.heap.size w w') : G2 R C w w' := ⟨h.os, h.tape, h.output, h.size, fun b hb _ _ => h.block b hb⟩
/-- a reader's cells -/
def RdA (w : World) (R C : Nat) (p : PTk) : Prop := w.heap[R]? = some (.cells #[.int .i64 p.kind, .int .i64 (p.fr : Int), .string p.text, .int .i64 p.num, .iface 76 (.pointer (some ⟨C, 0, none⟩))] 127 (0, 0))
theorem RdA.lt {w : World} {R C : Nat} {p : PTk} (h : RdA w R C p) : R < w.heap.size := (Array.getElem?_eq_some_iff.1 h).1
theorem RdA.cells {w : World} {R C : Nat} {p : PTk} (h : RdA w R C p) : w.cell? ⟨R, 0, none⟩ = some (.int .i64 p.kind) ∧ w.cell? ⟨R, 1, none⟩ = some (.int .i64 (p.fr : Int)) ∧ w.cell? ⟨R, 2, none⟩ = some (.string p.text) ∧ w.cell? ⟨R, 3, none⟩ = some (.int .i64 p.num) ∧ w.cell? ⟨R, 4, none⟩ = some (.iface 76 (.pointer (some ⟨C, 0, none⟩))) :=
 ⟨cellsAtA h 0 _ rfl, cellsAtA h 1 _ rfl, cellsAtA h 2 _ rfl, cellsAtA h 3 _ rfl, cellsAtA h 4 _ rfl⟩
theorem RdA.fz {w : World} {R C : Nat} {p : PTk} (h : RdA w R C p) (j : Nat) : w.frozen? ⟨R, j, none⟩ = false := by unfold RdA at h; simp [World.frozen?, h]
theorem RdA.put {w : World} {R C : Nat} {p : PTk} (h : RdA w R C p) (u : PTk) : RdA (putK w R u) R C u := by
 have h0 : RdA (w.setCell ⟨R, 0, none⟩ (.int .i64 u.kind)) R C { p with kind := u.kind } := heap_setCell_same w R 0 _ 127 _ h
 have h1 : RdA ((w.setCell ⟨R, 0, none⟩ (.int .i64 u.kind)).setCell ⟨R, 1, none⟩ (.int .i64 (u.fr : Int))) R C { p with kind := u.kind, fr := u.fr } := heap_setCell_same _ R 1 _ 127 _ h0
 have h2 : RdA (((w.setCell ⟨R, 0, none⟩ (.int .i64 u.kind)).setCell ⟨R, 1, none⟩ (.int .i64 (u.fr : Int))).setCell ⟨R, 2, none⟩ (.string u.text)) R C { p with kind := u.kind, fr := u.fr, text := u.text } := heap_setCell_same _ R 2 _ 127 _ h1
 exact heap_setCell_same _ R 3 _ 127 _ h2
theorem putK_grown (w : World) (R : Nat) (u : PTk) : w.grownBy (putK w R u) (some R) := gSetB (gSetB (gSetB (gSetB (show w.grownBy w (some R) from ⟨rfl, rfl, rfl, Nat.le_refl _, fun _ _ _ => rfl⟩) _ _) _ _) _ _) _ _
/-- the reader stands at a token that was cut -/
structure RX (w : World) (R C : Nat) (s : ByteArray) (t : Tok) : Prop where
 rd : RdA w R C (ptF t)
 ct : CtA w C s t.fin
 utf : UtfW w
 big : 16 ≤ R ∧ 16 ≤ C ∧ R ≠ C
 small : s.size ≤ 70000
 cut : ∃ p, p ≤ s.size ∧ cutE s p = some t
theorem UtfW.g2 {w w' : World} {R C : Nat} (h : UtfW w) (hg : G2 R C w w') (hR : 16 ≤ R) (hC : 16 ≤ C) : UtfW w' := by
 have k : ∀ (g j : Nat) (v : Value), g < 16 → w.cell? ⟨g, j, none⟩ = some v → w'.cell? ⟨g, j, none⟩ = some v := fun g j v hg16 hc =>
  (World.cell?_of_block (a := ⟨g, j, none⟩) (hg.block g (lt_of_cellQ hc) (by omega) (by omega))).trans hc
 exact ⟨fun c hc => k _ _ _ (by show (8 : Nat) < 16; decide) (h.1 c hc), fun i hi => ⟨k _ _ _ (by show (9 : Nat) < 16; decide) (h.2 i hi).1, k _ _ _ (by show (9 : Nat) < 16; decide) (h.2 i hi).2⟩⟩
theorem RX.below {w w' : World} {R C : Nat} {s : ByteArray} {t : Tok} (h : RX w R C s t) (hb : Below w.heap.size w w') : RX w' R C s t :=
 ⟨(hb.block R h.rd.lt).trans h.rd, (hb.block C h.ct.lt).trans h.ct, h.utf.g2 (G2.below (R := R) (C := C) hb) h.big.1 h.big.2.1, h.big, h.small, h.cut⟩
theorem RX.fin_le {w : World} {R C : Nat} {s : ByteArray} {t : Tok} (h : RX w R C s t) : t.fin ≤ s.size := by
 obtain ⟨p, hp, hc⟩ := h.cut
 exact (cut_goes hp hc).2.2.1
/-- behind the cutter, before the token is put -/
structure RN (w0 w : World) (R C : Nat) (s : ByteArray) (t u : Tok) : Prop where
 gr : G2 R C w0 w
 rd : RdA w R C (ptF t)
 ct : CtA w C s u.fin
 utf : UtfW w
theorem rnext_any {w : World} {R C : Nat} {s : ByteArray} {t u : Tok} (h : RX w R C s t) (hu : cutE s t.fin = some u) : Calls Tryz.prog 227 #[.pointer (some ⟨C, 0, none⟩)] w fun e w' => e = .returned (pkV (ptF u)) ∧ RN w w' R C s t u := by
 refine (cnext_any h.ct h.utf h.big.2.1 h.fin_le h.small hu).mono ?_
 rintro e w' ⟨q1, q2, q3⟩
 exact ⟨q1, G2.ofC q2, (q2.block R h.rd.lt (fun e => h.big.2.2 (by cases e; rfl))).trans h.rd, q3, h.utf.kept q2 h.big.2.1⟩
theorem RN.put {w0 w : World} {R C : Nat} {s : ByteArray} {t u : Tok} (h : RN w0 w R C s t u) (hX : RX w0 R C s t) (hu : cutE s t.fin = some u) : G2 R C w0 (putK w R (ptF u)) ∧ RX (putK w R (ptF u)) R C s u := by
 have hg := putK_grown w R (ptF u)
 refine ⟨h.gr.trans (G2.ofR hg), h.rd.put _, (hg.block C h.ct.lt (fun e => hX.big.2.2 (by cases e; rfl))).trans h.ct, h.utf.g2 (G2.ofR (C := C) hg) hX.big.1 hX.big.2.1, hX.big, hX.small, t.fin, hX.fin_le, hu⟩

theorem Tryz.methodNext (v : Value) (w : World) : (Go.method 431 76 v "Next").run Tryz.prog w = .ok (227, v) w := by kernel_rfl
theorem putK_other (w : World) (B : Nat) (p : PTk) {b : Nat} (hb : b ≠ B) : (putK w B p).heap[b]? = w.heap[b]? := by
 unfold putK
 rw [Below.heap_setCell _ _ _ _ (show b ≠ B from hb), Below.heap_setCell _ _ _ _ (show b ≠ B from hb), Below.heap_setCell _ _ _ _ (show b ≠ B from hb), Below.heap_setCell _ _ _ _ (show b ≠ B from hb)]
theorem putK_size (w : World) (B : Nat) (p : PTk) : (putK w B p).heap.size = w.heap.size := by unfold putK; simp [World.setCell]
theorem RX.put {w : World} {R C : Nat} {s : ByteArray} {t : Tok} (h : RX w R C s t) {N : Nat} (hR : N ≠ R) (hC : N ≠ C) (hN : 16 ≤ N) (p : PTk) : RX (putK w N p) R C s t := by
 have k : ∀ (g j : Nat) (v : Value), g < 16 → w.cell? ⟨g, j, none⟩ = some v → (putK w N p).cell? ⟨g, j, none⟩ = some v := fun g j v hg16 hc =>
  (World.cell?_of_block (a := ⟨g, j, none⟩) (putK_other w N p (show g ≠ N by omega))).trans hc
 refine ⟨(putK_other w N p (Ne.symm hR)).trans h.rd, (putK_other w N p (Ne.symm hC)).trans h.ct, ?_, h.big, h.small, h.cut⟩
 exact ⟨fun c hc => k _ _ _ (by show (8 : Nat) < 16; decide) (h.utf.1 c hc), fun i hi => ⟨k _ _ _ (by show (9 : Nat) < 16; decide) (h.utf.2 i hi).1, k _ _ _ (by show (9 : Nat) < 16; decide) (h.utf.2 i hi).2⟩⟩
/-- Step on its way: the next token is cut -/
structure SI (w w3 : World) (R C : Nat) (s : ByteArray) (t u : Tok) : Prop where
 rn : RN w w3 R C s t u
 box : PkAt w3 w.heap.size zeroP
 old : PkAt w3 (w.heap.size + 1) (ptF t)
 lt : R < w.heap.size ∧ C < w.heap.size
theorem SI.fin {w w3 : World} {R C : Nat} {s : ByteArray} {t u : Tok} (h : SI w w3 R C s t u) (hX : RX w R C s t) (hu : cutE s t.fin = some u) : ∃ W, putK (putK w3 R (ptF u)) w.heap.size (ptF t) = W ∧ G2 R C w W ∧ RX W R C s u ∧ PkAt W w.heap.size (ptF t) := by
 have h12 := h.rn.put hX hu
 have hl := h.lt
 have hb := h.box
 have h16 := hX.big.1
 clear hX h
 have hne : w.heap.size ≠ R := by omega
 have hneC : w.heap.size ≠ C := by omega
 have e1 : (putK w3 R (ptF u)).heap[w.heap.size]? = w3.heap[w.heap.size]? := putK_other w3 R (ptF u) hne
 have hb1 : PkAt (putK w3 R (ptF u)) w.heap.size zeroP := e1.trans hb
 generalize putK w3 R (ptF u) = W1 at *
 obtain ⟨h1, h2⟩ := h12
 have q2 : RX (putK W1 w.heap.size (ptF t)) R C s u := h2.put hne hneC (by omega) (ptF t)
 have q3 : PkAt (putK W1 w.heap.size (ptF t)) w.heap.size (ptF t) := hb1.put (ptF t)
 have q1 : G2 R C w (putK W1 w.heap.size (ptF t)) := by
  have hsz := putK_size W1 w.heap.size (ptF t)
  refine ⟨h1.os, h1.tape, h1.output, by rw [hsz]; exact h1.size, fun b hb e1 e2 => ?_⟩
  have e3 : (putK W1 w.heap.size (ptF t)).heap[b]? = W1.heap[b]? := putK_other W1 w.heap.size (ptF t) (by omega)
  exact e3.trans (h1.block b hb e1 e2)
 exact ⟨_, rfl, q1, q2, q3⟩

set_option maxHeartbeats 8000000 in
theorem rstep_any {w : World} {R C : Nat} {s : ByteArray} {t u : Tok} (h : RX w R C s t) (hu : cutE s t.fin = some u) :
  Calls Tryz.prog 63 #[.pointer (some ⟨R, 0, none⟩)] w fun e w' => e = .returned (pkV (ptF t)) ∧ G2 R C w w' ∧ RX w' R C s u := by
 have HFin : Hid (∀ w3, SI w w3 R C s t u → ∃ W, putK (putK w3 R (ptF u)) w.heap.size (ptF t) = W ∧ G2 R C w W ∧ RX W R C s u ∧ PkAt W w.heap.size (ptF t)) := fun w3 hi => hi.fin h hu
 have mN := Tryz.methodNext
 obtain ⟨c0, c1, c2, c3, c4⟩ := h.rd.cells
 have hlt := h.rd.lt
 have hltC := h.ct.lt
 have hb1 := alloc_below w (.cells #[.int .i64 0, .int .i64 0, .string ⟨#[]⟩, .int .i64 0] 125)
 have hb2 := alloc_below (w.alloc (.cells #[.int .i64 0, .int .i64 0, .string ⟨#[]⟩, .int .i64 0] 125)) (.cells #[.int .i64 (ptF t).kind, .int .i64 ((ptF t).fr : Int), .string (ptF t).text, .int .i64 (ptF t).num] 125)
 have hbb : Below w.heap.size w _ := hb1.trans (hb2.mono (by rw [alloc_size]; omega))
 have HN : Hid (Calls Tryz.prog 227 #[.pointer (some ⟨C, 0, none⟩)] ((w.alloc (.cells #[.int .i64 0, .int .i64 0, .string ⟨#[]⟩, .int .i64 0] 125)).alloc (.cells #[.int .i64 (ptF t).kind, .int .i64 ((ptF t).fr : Int), .string (ptF t).text, .int .i64 (ptF t).num] 125)) fun e w' => e = .returned (pkV (ptF u)) ∧ ∃ W, putK (putK w' R (ptF u)) w.heap.size (ptF t) = W ∧ G2 R C w W ∧ RX W R C s u ∧ PkAt W w.heap.size (ptF t) ∧ RdA w' R C (ptF t) ∧ PkAt w' w.heap.size zeroP ∧ PkAt w' (w.heap.size + 1) (ptF t)) := by
  refine (rnext_any (h.below hbb) hu).mono ?_
  rintro e w' ⟨q1, q2⟩
  have hA1 : PkAt ((w.alloc (.cells #[.int .i64 0, .int .i64 0, .string ⟨#[]⟩, .int .i64 0] 125)).alloc (.cells #[.int .i64 (ptF t).kind, .int .i64 ((ptF t).fr : Int), .string (ptF t).text, .int .i64 (ptF t).num] 125)) w.heap.size zeroP := (hb2.block _ (by rw [alloc_size]; omega)).trans (allocAtA w _)
  have hA2 : PkAt ((w.alloc (.cells #[.int .i64 0, .int .i64 0, .string ⟨#[]⟩, .int .i64 0] 125)).alloc (.cells #[.int .i64 (ptF t).kind, .int .i64 ((ptF t).fr : Int), .string (ptF t).text, .int .i64 (ptF t).num] 125)) (w.heap.size + 1) (ptF t) := by
   have := allocAtA (w.alloc (.cells #[.int .i64 0, .int .i64 0, .string ⟨#[]⟩, .int .i64 0] 125)) (.cells #[.int .i64 (ptF t).kind, .int .i64 ((ptF t).fr : Int), .string (ptF t).text, .int .i64 (ptF t).num] 125)
   rw [alloc_size] at this
   exact this
  have hSI : SI w w' R C s t u := ⟨⟨(G2.below hbb).trans q2.gr, q2.rd, q2.ct, q2.utf⟩, (q2.gr.block _ hA1.lt (by omega) (by omega)).trans hA1, (q2.gr.block _ hA2.lt (by omega) (by omega)).trans hA2, hlt, hltC⟩
  obtain ⟨W, hW1, hW2, hW3, hW4⟩ := HFin.out w' hSI
  exact ⟨q1, W, hW1, hW2, hW3, hW4, hSI.rn.rd, hSI.box, hSI.old⟩
 clear h hb1 hb2 hbb
 generalize ptF u = pu at *
 generalize ptF t = pt at *
 obtain ⟨ku, fu, xu, nu⟩ := pu
 obtain ⟨kt, ft, xt, nt⟩ := pt
 simp only at c0 c1 c2 c3 HN
 have HN2 : Hid (Calls Tryz.prog 227 #[.pointer (some ⟨C, 0, none⟩)] ((w.alloc (.cells #[.int .i64 0, .int .i64 0, .string ⟨#[]⟩, .int .i64 0] 125)).alloc (.cells #[.int .i64 kt, .int .i64 (ft : Int), .string xt, .int .i64 nt] 125)) fun e w' => e = .returned (.agg #[.int .i64 ku, .int .i64 (fu : Int), .string xu, .int .i64 nu]) ∧ ∃ W, putK (putK w' R ⟨ku, fu, xu, nu⟩) w.heap.size ⟨kt, ft, xt, nt⟩ = W ∧ G2 R C w W ∧ RX W R C s u ∧ PkAt W w.heap.size ⟨kt, ft, xt, nt⟩ ∧ RdA w' R C ⟨kt, ft, xt, nt⟩ ∧ PkAt w' w.heap.size zeroP ∧ PkAt w' (w.heap.size + 1) ⟨kt, ft, xt, nt⟩) := HN.out
 clear HN HFin
 go_enter Tryz.func63, Tryz.ntmps63
 go_wp2_with fail
 go_at_call 227
 refine HN2.out.mono ?_
 rintro e w3 ⟨rfl, W, hW, hG, hX, hP, hRd, hBx, hOl⟩
 obtain ⟨d0, d1, d2, d3, d4⟩ := hRd.cells
 obtain ⟨b0, b1, b2, b3⟩ := hBx.cells
 obtain ⟨o0, o1, o2, o3⟩ := hOl.cells
 obtain ⟨r0, r1, r2, r3⟩ := hP.cells
 simp only [zeroP] at d0 d1 d2 d3 b0 b1 b2 b3 o0 o1 o2 o3 r0 r1 r2 r3
 have f0 := hRd.fz 0
 have f1 := hRd.fz 1
 have f2 := hRd.fz 2
 have f3 := hRd.fz 3
 have g0 := hBx.fz 0
 have g1 := hBx.fz 1
 have g2 := hBx.fz 2
 have g3 := hBx.fz 3
 have hl3 := hRd.lt
 have hn3 := hBx.lt
 have ho3 := hOl.lt
 have HW : Hid (putK (putK w3 R ⟨ku, fu, xu, nu⟩) w.heap.size ⟨kt, ft, xt, nt⟩ = W) := hW
 have HG : Hid (G2 R C w W ∧ RX W R C s u) := ⟨hG, hX⟩
 clear hW hG hX hP hRd hBx hOl HN2 c0 c1 c2 c3 c4
 go_wp2
 have hW := HW.out
 unfold putK at hW
 rw [hW]
 refine bodyPost_ret (v := pkV ⟨kt, ft, xt, nt⟩) ?_ rfl ?_
 ·simp [results, go_sem, r0, r1, r2, r3, pkV]
 ·exact ⟨rfl, HG.out.1, HG.out.2⟩

end Go.Proofs.YtgmmfpdekefamaaGreatDoor

namespace Go.Proofs.YtgmmfpdekefamaaGreatDoor
open Go.RowKit
set_option linter.unusedVariables false
set_option maxRecDepth 100000

/-- what a token may be -/
theorem cut_kinds {s : ByteArray} {p : Nat} {t : Tok} (hp : p ≤ s.size) (h : cutE s p = some t) : t.kind = 0 ∨ t.kind = 1 ∨ t.kind = 2 ∨ t.kind = 3 ∨ (t.kind = 4 ∧ ∃ b l, t.text.toList = b :: l ∧ smallB (b.toNat : Int) = true) ∨ t.kind = 6 := by
 have hr := run_le blankB s hp
 unfold cutE at h
 generalize run blankB s p = i at *
 unfold cutAt at h
 split at h
 ·rename_i hi
  split at h
  ·obtain ⟨y, _, rfl⟩ := map_some h; exact .inr (.inl rfl)
  ·split at h
   ·obtain ⟨y, _, rfl⟩ := map_some h; exact .inr (.inr (.inr (.inl rfl)))
   ·split at h
    ·obtain ⟨y, _, rfl⟩ := map_some h; exact .inr (.inr (.inl rfl))
    ·split at h
     ·rename_i hsm
      obtain rfl := Option.some.inj h
      refine .inr (.inr (.inr (.inr (.inl ⟨rfl, ?_⟩))))
      have hj := run_le wordB s (i := i) (by omega)
      have hij : i < run wordB s i := by
       have hst : run wordB s i = run wordB s (i + 1) := run_step hi (by unfold wordB; rw [hsm]; rfl)
       have := run_le wordB s (i := i + 1) (by omega)
       omega
      simp only
      generalize run wordB s i = j at *
      refine ⟨s.get! i, ((s.data.toList.drop (i + 1)).take (j - i - 1)), ?_, hsm⟩
      rw [Lib.toList_data, ByteArray.data_extract, Array.toList_extract, List.extract_eq_take_drop, drop_cons1 hi]
      obtain ⟨m, hm⟩ : ∃ m, j - i = m + 1 := ⟨j - i - 1, by omega⟩
      rw [hm, List.take_succ_cons, Nat.add_sub_cancel]
     ·split at h
      ·obtain rfl := Option.some.inj h; exact .inr (.inr (.inr (.inr (.inr rfl))))
      ·cases h
 ·obtain rfl := Option.some.inj h
  exact .inl rfl
/-- a mark: a keyword, a function or a sign -/
def MkL (X : List UInt8) : Prop := keptL X = true ∨ 0 < kidsL X ∨ ∃ b l, X = b :: l ∧ smallB (b.toNat : Int) = false
theorem MkL.ne {X : List UInt8} (h : MkL X) : X ≠ [] := by
 rintro rfl
 rcases h with h | h | ⟨b, l, h, _⟩
 ·cases h
 ·simp [kidsL] at h
 ·cases h
theorem is_mark {s : ByteArray} {p : Nat} {t : Tok} (hp : p ≤ s.size) (h : cutE s p = some t) {X : List UInt8} (hX : MkL X) : (decide ((ptF t).kind = 6) && ((ptF t).text.toList == X)) = isS X (some t) := by
 have hne := hX.ne
 have hk := cut_kinds hp h
 show (decide ((ptK t).kind = 6) && ((ptK t).text.toList == X)) = ((decide (t.kind = 6) || decide (t.kind = 4)) && (t.text.toList == X))
 unfold ptK
 rcases hk with k | k | k | k | ⟨k, b, l, hb, hsm⟩ | k
 ·rw [if_pos k, k]
  have : ((⟨#[]⟩ : ByteArray).toList == X) = false := by
   rw [beq_eq_false_iff_ne, Lib.toList_data]
   exact fun e => hne e.symm
  show (decide ((6 : Int) = 6) && ((⟨#[]⟩ : ByteArray).toList == X)) = _
  rw [this]
  simp
 ·rw [if_neg (by omega), if_pos k, k]; simp
 ·rw [if_neg (by omega), if_neg (by omega), if_neg (by omega), if_pos k, k]; simp
 ·rw [if_neg (by omega), if_neg (by omega), if_pos k, k]
  unfold plP
  split <;> simp [zeroP]
 ·rw [if_neg (by omega), if_neg (by omega), if_neg (by omega), if_neg (by omega), if_pos k, k]
  unfold wdP
  by_cases hw : keptL t.text.toList = true ∨ 0 < kidsL t.text.toList
  ·rw [if_pos hw]; simp
  ·rw [if_neg hw]
   have : (t.text.toList == X) = false := by
    rw [beq_eq_false_iff_ne]
    intro e
    rcases hX with h1 | h1 | ⟨b', l', h1, h2⟩
    ·exact hw (.inl (e ▸ h1))
    ·exact hw (.inr (e ▸ h1))
    ·rw [← e, hb] at h1
     obtain ⟨rfl, _⟩ := List.cons.inj h1
     rw [hsm] at h2
     cases h2
   rw [this]
   simp
 ·rw [if_neg (by omega), if_neg (by omega), if_neg (by omega), if_neg (by omega), if_neg (by omega), k]; simp

set_option maxHeartbeats 4000000 in
theorem rcomes_any {w : World} {R C : Nat} {s : ByteArray} {t : Tok} (h : RX w R C s t) {x : ByteArray} (hX : MkL x.toList) : Calls Tryz.prog 120 #[.pointer (some ⟨R, 0, none⟩), .string x] w fun e w' => e = .returned (.bool (isS x.toList (some t))) ∧ w' = w := by
 obtain ⟨p, hp, hc⟩ := h.cut
 have hm := is_mark hp hc hX
 rw [← hm]
 obtain ⟨c0, c1, c2, c3, c4⟩ := h.rd.cells
 have hlt := h.rd.lt
 clear h hm hc hp hX
 generalize ptF t = pt at *
 obtain ⟨kt, ft, xt, nt⟩ := pt
 simp only at c0 c1 c2 c3 ⊢
 by_cases hk : kt = 6
 ·subst hk
  go_enter Tryz.func120, Tryz.ntmps120
  go_wp2
  go_ret
  exact ⟨by simp, rfl⟩
 ·have hk2 : (kt == 6) = false := by rw [beq_eq_false_iff_ne]; exact hk
  rw [decide_eq_false hk, Bool.false_and]
  go_enter Tryz.func120, Tryz.ntmps120
  go_wp2
  go_ret
  exact ⟨rfl, rfl⟩
set_option maxHeartbeats 4000000 in
theorem rtake_no {w : World} {R C : Nat} {s : ByteArray} {t : Tok} (h : RX w R C s t) {x : ByteArray} (hX : MkL x.toList) (hn : isS x.toList (some t) = false) : Calls Tryz.prog 65 #[.pointer (some ⟨R, 0, none⟩), .string x] w fun e w' => e = .returned (.bool false) ∧ w' = w := by
 have HC : Hid (Calls Tryz.prog 120 #[.pointer (some ⟨R, 0, none⟩), .string x] w fun e w' => e = .returned (.bool false) ∧ w' = w) := by have := rcomes_any h hX; rw [hn] at this; exact this
 clear h hX hn
 go_enter Tryz.func65, Tryz.ntmps65
 go_wp2_with fail
 go_at_call 120
 refine HC.out.mono ?_
 rintro e wq ⟨rfl, hwq⟩
 obtain rfl := hwq.symm
 clear hwq HC
 go_wp2
 go_ret
 exact ⟨rfl, rfl⟩
set_option maxHeartbeats 4000000 in
theorem rtake_yes {w : World} {R C : Nat} {s : ByteArray} {t u : Tok} (h : RX w R C s t) {x : ByteArray} (hX : MkL x.toList) (hn : isS x.toList (some t) = true) (hu : cutE s t.fin = some u) : Calls Tryz.prog 65 #[.pointer (some ⟨R, 0, none⟩), .string x] w fun e w' => e = .returned (.bool true) ∧ G2 R C w w' ∧ RX w' R C s u := by
 have HC : Hid (Calls Tryz.prog 120 #[.pointer (some ⟨R, 0, none⟩), .string x] w fun e w' => e = .returned (.bool true) ∧ w' = w) := by have := rcomes_any h hX; rw [hn] at this; exact this
 have HS : Hid (Calls Tryz.prog 63 #[.pointer (some ⟨R, 0, none⟩)] w fun e w' => (∃ v, e = .returned v) ∧ G2 R C w w' ∧ RX w' R C s u) := (rstep_any h hu).mono fun e w' ⟨q1, q2⟩ => ⟨⟨_, q1⟩, q2⟩
 clear h hX hn
 go_enter Tryz.func65, Tryz.ntmps65
 go_wp2_with fail
 go_at_call 120
 refine HC.out.mono ?_
 rintro e wq ⟨rfl, hwq⟩
 obtain rfl := hwq.symm
 clear hwq HC
 go_wp2_with fail
 go_at_call 63
 refine HS.out.mono ?_
 rintro e w2 ⟨⟨v, rfl⟩, hG, hX⟩
 have HG : Hid (G2 R C w w2 ∧ RX w2 R C s u) := ⟨hG, hX⟩
 clear hG hX HS
 go_wp2
 go_ret
 exact ⟨rfl, HG.out⟩
set_option maxHeartbeats 4000000 in
theorem rwant_any {w : World} {R C : Nat} {s : ByteArray} {t u : Tok} (h : RX w R C s t) {x : ByteArray} (hX : MkL x.toList) (hu : needS s x.toList (some t) = some u) : Calls Tryz.prog 64 #[.pointer (some ⟨R, 0, none⟩), .string x] w fun e w' => e = .returned (.tuple #[]) ∧ G2 R C w w' ∧ RX w' R C s u := by
 have hn : isS x.toList (some t) = true ∧ cutE s t.fin = some u := by
  unfold needS at hu
  split at hu
  ·rename_i h1; exact ⟨h1, hu⟩
  ·cases hu
 have HT : Hid (Calls Tryz.prog 65 #[.pointer (some ⟨R, 0, none⟩), .string x] w fun e w' => e = .returned (.bool true) ∧ G2 R C w w' ∧ RX w' R C s u) := rtake_yes h hX hn.1 hn.2
 clear h hX hn hu
 go_enter Tryz.func64, Tryz.ntmps64
 go_wp2_with fail
 go_at_call 65
 refine HT.out.mono ?_
 rintro e w2 ⟨rfl, hG, hX⟩
 have HG : Hid (G2 R C w w2 ∧ RX w2 R C s u) := ⟨hG, hX⟩
 clear hG hX HT
 go_wp2
 first | go_end0 | refine bodyPost_ret (results_none rfl _ _ _) rfl ?_
 exact ⟨rfl, HG.out⟩
theorem Tryz.fieldText (a b c : Value) (x : ByteArray) (w : World) : (Instr.field 125 (.agg #[a, b, .string x, c]) 2).run Tryz.prog w = .ok (.string x) w := by kernel_rfl
set_option maxHeartbeats 4000000 in
theorem rname_str {w : World} {R C : Nat} {s : ByteArray} {t u : Tok} (h : RX w R C s t) (hu : nameS s (some t) = some u) : Calls Tryz.prog 121 #[.pointer (some ⟨R, 0, none⟩)] w fun e w' => e = .returned (.string t.text) ∧ G2 R C w w' ∧ RX w' R C s u := by
 have hn : namedS (some t) = true ∧ cutE s t.fin = some u := by
  unfold nameS at hu
  split at hu
  ·rename_i h1; exact ⟨h1, hu⟩
  ·cases hu
 have hk : ptF t = ⟨4, t.fr, t.text, 0⟩ := by
  have h1 := hn.1
  unfold namedS at h1
  simp only [Bool.and_eq_true, decide_eq_true_eq, Bool.not_eq_true', beq_iff_eq] at h1
  unfold ptF ptK
  rw [if_neg (by omega), if_neg (by omega), if_neg (by omega), if_neg (by omega), if_pos h1.1]
  unfold wdP
  rw [if_neg (by rw [h1.2.1, h1.2.2]; simp)]
 have HS := rstep_any h hn.2
 obtain ⟨c0, c1, c2, c3, c4⟩ := h.rd.cells
 have hlt := h.rd.lt
 rw [hk] at c0 c1 c2 c3 HS
 simp only at c0 c1 c2 c3
 have HS2 : Hid (Calls Tryz.prog 63 #[.pointer (some ⟨R, 0, none⟩)] w fun e w' => e = .returned (.agg #[.int .i64 4, .int .i64 (t.fr : Int), .string t.text, .int .i64 0]) ∧ G2 R C w w' ∧ RX w' R C s u) := HS
 clear h hn hu hk HS
 have hF := Tryz.fieldText
 go_enter Tryz.func121, Tryz.ntmps121
 go_wp2_with fail
 go_at_call 63
 refine HS2.out.mono ?_
 rintro e w2 ⟨rfl, hG, hX⟩
 have HG : Hid (G2 R C w w2 ∧ RX w2 R C s u) := ⟨hG, hX⟩
 clear hG hX HS2
 go_wp2
 go_ret
 exact ⟨rfl, HG.out⟩

end Go.Proofs.YtgmmfpdekefamaaGreatDoor
