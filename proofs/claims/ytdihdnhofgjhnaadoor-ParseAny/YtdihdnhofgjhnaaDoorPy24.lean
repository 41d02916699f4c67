/- Texts of the proof, put together: YSet, YPsr. -/
import Derived.Test.YtdihdnhofgjhnaaDoorPy19
import Derived.Test.YtdihdnhofgjhnaaDoorPy23
import Derived.Test.YtdihdnhofgjhnaaDoorPy22
import Derived.Laws.EntriesVeiled
namespace Go.Proofs.YtdihdnhofgjhnaaDoor
open Go.RowKit
set_option linter.unusedVariables false
set_option maxRecDepth 100000

def errE (a : Addr) : Value := .iface 137 (.pointer (some a))
/-- the errors that a parser names -/
structure ErG (w : World) (ab ar ae : Addr) : Prop where
  bnd : w.cell? ⟨1, 0, none⟩ = some (errE ab)
  rul : w.cell? ⟨2, 0, none⟩ = some (errE ar)
  fin : w.cell? ⟨6, 0, none⟩ = some (errE ae)
theorem ErG.below {w w' : World} {ab ar ae : Addr} (h : ErG w ab ar ae) (hb : Below w.heap.size w w') : ErG w' ab ar ae :=
  ⟨(hb.cell (p := ⟨1, 0, none⟩) (lt_of_cellY h.bnd)).trans h.bnd, (hb.cell (p := ⟨2, 0, none⟩) (lt_of_cellY h.rul)).trans h.rul, (hb.cell (p := ⟨6, 0, none⟩) (lt_of_cellY h.fin)).trans h.fin⟩
def errV (ab ar ae : Addr) (c : Int) : Value := if c = 0 then .nilIface else if c = 2 then errE ab else if c = 3 then errE ar else errE ae
/-- what the reductions ahead of a terminal answer -/
def SetP (B : Nat) (w : World) (ab ar ae : Addr) (r : Int × Int × Pl) (e : Ending) (w' : World) : Prop :=
  Below w.heap.size w w' ∧ ∃ xs' xt' us', e = .returned (.tuple #[.agg #[xs', xt'], .int .i64 r.2.1, errV ab ar ae r.1]) ∧ StM B w' xs' xt' r.2.2 us'

theorem rred_any (g : Gm) (pv lv sv : Value) (tb : Tb) (av ov cv : Value) (xs xt ev : Value) (B : Nat) (σ : Pl) (us : List Value) (p : Int) (w : World) (hf : fitsB g tb = true) (hG : GrM w g pv lv sv) (hT : TbM w tb av ov cv) (hX : StM B w xs xt σ us) (hok : PlOk g tb σ) (hB : B ≤ w.heap.size) (hlen : σ.length ≤ 1000000) (hp : 0 ≤ p ∧ p < g.prods.length) (hev : w.cell? ⟨2, 0, none⟩ = some ev) :
    Calls Tryd.prog 43 #[gv g pv lv sv, tvv av ov cv, .agg #[xs, xt], .int .i64 p] w fun e w' => RedP B w xs xt ev (redS g tb p σ) e w' := by
  by_cases hlt : σ.length < (prodOf g p).right.length
  · refine (rred_few g pv lv sv tb av ov cv xs xt ev B σ us p w hG hX hp hev hlt).mono ?_
    rintro e w' ⟨rfl, hb⟩
    exact ⟨hb, .inl ⟨by unfold redS; rw [if_pos hlt], rfl⟩⟩
  · by_cases hz : xt = .slice none 0 0
    · exact rred_nil g pv lv sv tb av ov cv xs xt ev B σ us p w hf hG hT hX hok hB hlen hp hev (by omega) hz
    · exact rred_go g pv lv sv tb av ov cv xs xt ev B σ us p w hf hG hT hX hok hB hlen hp hev (by omega) hz

/-- on the way -/
structure SetI (B : Nat) (w : World) (g : Gm) (pv lv sv : Value) (tb : Tb) (av ov cv : Value) (L n : Nat) (t : Int) (R : Int × Int × Pl) (wr : World) (σ : Pl) (xs xt : Value) (us : List Value) : Prop where
  bel : Below w.heap.size w wr
  bg : BoxG wr w.heap.size g pv lv sv
  bt : BoxT wr (w.heap.size + 1) av ov cv
  bx : BoxX wr (w.heap.size + 2) xs xt
  br : BoxX wr (w.heap.size + 3) (.slice none 0 0) (.slice none 0 0)
  st : StM B wr xs xt σ us
  ok : PlOk g tb σ
  len : σ.length ≤ L + n
  res : setS g tb t (10000 - n) σ = R
/-- the answer is stored -/
theorem SetI.answer {B : Nat} {w : World} {g : Gm} {pv lv sv : Value} {tb : Tb} {av ov cv : Value} {L n : Nat} {t : Int} {R : Int × Int × Pl} {wr : World} {σ : Pl} {a1 a2 : Option Addr} {n1 c1 n2 c2 : Nat} {us : List Value} (h : SetI B w g pv lv sv tb av ov cv L n t R wr σ (.slice a1 n1 c1) (.slice a2 n2 c2) us) {w' : World} (hb : Below wr.heap.size wr w') :
    Below w.heap.size w ((w'.setCell ⟨w.heap.size + 3, 0, none⟩ (.slice a1 n1 c1)).setCell ⟨w.heap.size + 3, 1, none⟩ (.slice a2 n2 c2)) ∧ BoxX ((w'.setCell ⟨w.heap.size + 3, 0, none⟩ (.slice a1 n1 c1)).setCell ⟨w.heap.size + 3, 1, none⟩ (.slice a2 n2 c2)) (w.heap.size + 3) (.slice a1 n1 c1) (.slice a2 n2 c2) ∧ StM B ((w'.setCell ⟨w.heap.size + 3, 0, none⟩ (.slice a1 n1 c1)).setCell ⟨w.heap.size + 3, 1, none⟩ (.slice a2 n2 c2)) (.slice a1 n1 c1) (.slice a2 n2 c2) σ us := by
  have hr := h.br.below h.br.lt hb
  exact ⟨(h.bel.trans (hb.mono h.bel.size)).trans ((below_stored _ _).mono (by omega)), hr.stored _ _, (h.st.below hb).keep hr (grown_storedY _ _ _ _)⟩

end Go.Proofs.YtdihdnhofgjhnaaDoor

namespace Go.Proofs.YtdihdnhofgjhnaaDoor
open Go.RowKit
set_option linter.unusedVariables false
set_option maxRecDepth 100000

/-- what a parser was made of -/
structure PC where
  g : Gm
  pv : Value
  lv : Value
  sv : Value
  av : Value
  ov : Value
  cv : Value
  iv : Value
def ptrP (P : Nat) : Value := .pointer (some ⟨P, 0, none⟩)
def psA (c : PC) (P a r : Nat) (tv : Value) (acc : Bool) : Array Value := #[.int .i64 c.g.terms, .int .i64 c.g.names, .int .i64 c.g.start, c.pv, c.lv, c.sv, c.av, c.ov, c.cv, .func (.func 52) #[.pointer (some ⟨P, 0, none⟩)] #[], .func (.func 53) #[.pointer (some ⟨P, 0, none⟩)] #[], .func (.func 54) #[.pointer (some ⟨P, 0, none⟩)] #[], .func (.func 55) #[.pointer (some ⟨P, 0, none⟩)] #[], c.iv, .int .i64 a, .int .i64 r, tv, .bool acc]
def PaM (w : World) (c : PC) (P a r : Nat) (tv : Value) (acc : Bool) : Prop := w.heap[P]? = some (.cells (psA c P a r tv acc) 63 (0, 0))
theorem PaM.lt {w : World} {c : PC} {P a r : Nat} {tv : Value} {acc : Bool} (h : PaM w c P a r tv acc) : P < w.heap.size := (Array.getElem?_eq_some_iff.1 h).1
theorem PaM.at {w : World} {c : PC} {P a r : Nat} {tv : Value} {acc : Bool} (h : PaM w c P a r tv acc) (k : Nat) : w.cell? ⟨P, k, none⟩ = (psA c P a r tv acc)[k]? := by simp only [World.cell?]; rw [show w.heap[P]? = _ from h]; rfl
theorem PaM.fz {w : World} {c : PC} {P a r : Nat} {tv : Value} {acc : Bool} (h : PaM w c P a r tv acc) (k : Nat) : w.frozen? ⟨P, k, none⟩ = false := by simp only [World.frozen?]; rw [show w.heap[P]? = _ from h]; simp
theorem PaM.setAt {w : World} {c : PC} {P a r : Nat} {tv : Value} {acc : Bool} (h : PaM w c P a r tv acc) (a' : Nat) : PaM (w.setCell ⟨P, 14, none⟩ (.int .i64 a')) c P a' r tv acc := heap_setCell_same w P 14 _ 63 _ h
theorem PaM.setRed {w : World} {c : PC} {P a r : Nat} {tv : Value} {acc : Bool} (h : PaM w c P a r tv acc) (r' : Nat) : PaM (w.setCell ⟨P, 15, none⟩ (.int .i64 r')) c P a r' tv acc := heap_setCell_same w P 15 _ 63 _ h
theorem PaM.setTop {w : World} {c : PC} {P a r : Nat} {tv : Value} {acc : Bool} (h : PaM w c P a r tv acc) (tv' : Value) : PaM (w.setCell ⟨P, 16, none⟩ tv') c P a r tv' acc := heap_setCell_same w P 16 _ 63 _ h
theorem PaM.setAcc {w : World} {c : PC} {P a r : Nat} {tv : Value} {acc : Bool} (h : PaM w c P a r tv acc) : PaM (w.setCell ⟨P, 17, none⟩ (.bool true)) c P a r tv true := heap_setCell_same w P 17 _ 63 _ h
theorem PaM.below {w w' : World} {c : PC} {P a r : Nat} {tv : Value} {acc : Bool} (h : PaM w c P a r tv acc) (hb : Below w.heap.size w w') : PaM w' c P a r tv acc := (hb.block P h.lt).trans h

/-- all that a parser rests on -/
structure Gnd (w : World) (c : PC) (tb : Tb) (inp : List Int) (ab ar ae : Addr) : Prop where
  fit : fitsB c.g tb = true
  gr : GrM w c.g c.pv c.lv c.sv
  tbl : TbM w tb c.av c.ov c.cv
  inn : IntsR w c.iv inp
  len : inp.length ≤ 80
  err : ErG w ab ar ae
theorem Gnd.below {w w' : World} {c : PC} {tb : Tb} {inp : List Int} {ab ar ae : Addr} (h : Gnd w c tb inp ab ar ae) (hb : Below w.heap.size w w') : Gnd w' c tb inp ab ar ae :=
  ⟨h.fit, h.gr.below hb, h.tbl.below hb, h.inn.below hb, h.len, h.err.below hb⟩
/-- a parser on its way -/
structure PsI (w0 w : World) (c : PC) (P a r : Nat) (σ : Pl) (acc : Bool) (tq : Nat) : Prop where
  bel : Below w0.heap.size w0 w
  low : w0.heap.size ≤ P
  par : PaM w c P a r (.pointer (some ⟨tq, 0, none⟩)) acc
  pil : PilM (fun b => b ≠ P) w (.pointer (some ⟨tq, 0, none⟩)) σ
theorem PsI.below {w0 w w' : World} {c : PC} {P a r : Nat} {σ : Pl} {acc : Bool} {tq : Nat} (h : PsI w0 w c P a r σ acc tq) (hb : Below w.heap.size w w') : PsI w0 w' c P a r σ acc tq :=
  ⟨h.bel.trans (hb.mono h.bel.size), h.low, h.par.below hb, h.pil.below hb⟩
theorem grownP {w w' : World} {P : Nat} (h : Below w.heap.size w w') : w.grownBy w' (some P) := ⟨h.os, h.tape, h.output, h.size, fun k hk _ => h.block k hk⟩
theorem below_grownP {w0 w w' : World} {P : Nat} (h : Below w0.heap.size w0 w) (hg : w.grownBy w' (some P)) (hP : w0.heap.size ≤ P) : Below w0.heap.size w0 w' :=
  h.trans ⟨hg.os, hg.tape, hg.output, hg.size, fun k hk => hg.block k (Nat.lt_of_lt_of_le hk h.size) (by intro e; have := Option.some.inj e; omega)⟩
/-- a fault that is told -/
def FltP (w' : World) (e : Ending) (ev : Value) (a : Nat) : Prop := ∃ fb, e = .returned (.iface 66 (.pointer (some ⟨fb, 0, none⟩))) ∧ w'.cell? ⟨fb, 0, none⟩ = some ev ∧ w'.cell? ⟨fb, 1, none⟩ = some (.int .i64 a)

set_option maxHeartbeats 4000000 in
theorem from_any (c : PC) (tq : Nat) (w : World) (h1 : ∃ a n k, c.pv = .slice a n k) (h2 : ∃ a n k, c.lv = .slice a n k) (h3 : ∃ a n k, c.sv = .slice a n k) (h4 : ∃ a n k, c.av = .slice a n k) (h5 : ∃ a n k, c.ov = .slice a n k) (h6 : ∃ a n k, c.cv = .slice a n k) (h7 : ∃ a n k, c.iv = .slice a n k) :
    Calls Tryd.prog 33 #[.pointer (some ⟨tq, 0, none⟩), gv c.g c.pv c.lv c.sv, tvv c.av c.ov c.cv, c.iv] w fun e w' => e = .returned (.pointer (some ⟨w.heap.size + 2, 0, none⟩)) ∧ Below w.heap.size w w' ∧ PaM w' c (w.heap.size + 2) 0 0 (.pointer (some ⟨tq, 0, none⟩)) false := by
  obtain ⟨g, pv, lv, sv, av, ov, cv, iv⟩ := c
  simp only at *
  obtain ⟨a1, n1, c1, rfl⟩ := h1
  obtain ⟨a2, n2, c2, rfl⟩ := h2
  obtain ⟨a3, n3, c3, rfl⟩ := h3
  obtain ⟨a4, n4, c4, rfl⟩ := h4
  obtain ⟨a5, n5, c5, rfl⟩ := h5
  obtain ⟨a6, n6, c6, rfl⟩ := h6
  obtain ⟨a7, n7, c7, rfl⟩ := h7
  have HF : Hid (∀ o1 o2, Below w.heap.size w (((w.alloc o1).alloc o2).alloc (.cells (psA ⟨g, .slice a1 n1 c1, .slice a2 n2 c2, .slice a3 n3 c3, .slice a4 n4 c4, .slice a5 n5 c5, .slice a6 n6 c6, .slice a7 n7 c7⟩ (w.heap.size + 2) 0 0 (.pointer (some ⟨tq, 0, none⟩)) false) 63)) ∧ PaM (((w.alloc o1).alloc o2).alloc (.cells (psA ⟨g, .slice a1 n1 c1, .slice a2 n2 c2, .slice a3 n3 c3, .slice a4 n4 c4, .slice a5 n5 c5, .slice a6 n6 c6, .slice a7 n7 c7⟩ (w.heap.size + 2) 0 0 (.pointer (some ⟨tq, 0, none⟩)) false) 63)) ⟨g, .slice a1 n1 c1, .slice a2 n2 c2, .slice a3 n3 c3, .slice a4 n4 c4, .slice a5 n5 c5, .slice a6 n6 c6, .slice a7 n7 c7⟩ (w.heap.size + 2) 0 0 (.pointer (some ⟨tq, 0, none⟩)) false) := fun o1 o2 => by
    have b1 := alloc_below w o1
    have s1 := alloc_size w o1
    generalize w.alloc o1 = W1 at *
    have b2 := alloc_below W1 o2
    have s2 := alloc_size W1 o2
    generalize W1.alloc o2 = W2 at *
    have b3 := alloc_below W2 (.cells (psA ⟨g, .slice a1 n1 c1, .slice a2 n2 c2, .slice a3 n3 c3, .slice a4 n4 c4, .slice a5 n5 c5, .slice a6 n6 c6, .slice a7 n7 c7⟩ (w.heap.size + 2) 0 0 (.pointer (some ⟨tq, 0, none⟩)) false) 63)
    have n3 := heap_alloc_new W2 (.cells (psA ⟨g, .slice a1 n1 c1, .slice a2 n2 c2, .slice a3 n3 c3, .slice a4 n4 c4, .slice a5 n5 c5, .slice a6 n6 c6, .slice a7 n7 c7⟩ (w.heap.size + 2) 0 0 (.pointer (some ⟨tq, 0, none⟩)) false) 63)
    rw [show W2.heap.size = w.heap.size + 2 by omega] at n3
    exact ⟨b1.trans ((b2.trans (b3.mono (by omega))).mono (by omega)), n3⟩
  unfold gv gvs tvv tvs
  go_enter Tryd.func33, Tryd.ntmps33
  go_wp2
  go_ret
  exact ⟨rfl, HF.out _ _⟩

set_option maxHeartbeats 4000000 in
theorem fault_any {w : World} {c : PC} {P a r : Nat} {tv : Value} {acc : Bool} (h : PaM w c P a r tv acc) (x : Addr) :
    Calls Tryd.prog 35 #[.pointer (some ⟨P, 0, none⟩), errE x] w fun e w' => FltP w' e (errE x) a ∧ Below w.heap.size w w' := by
  have c14 : w.cell? ⟨P, 14, none⟩ = some (.int .i64 a) := h.at 14
  have hl := h.lt
  have HF : Hid (Below w.heap.size w (w.alloc (.cells #[errE x, .int .i64 a] 70))) := alloc_below _ _
  have HN : Hid ((w.alloc (.cells #[errE x, .int .i64 a] 70)).heap[w.heap.size]? = some (.cells #[errE x, .int .i64 a] 70 (0, 0))) := heap_alloc_new _ _
  have HK : Hid ((w.alloc (.cells #[errE x, .int .i64 a] 70)).cell? ⟨w.heap.size, 0, none⟩ = some (errE x) ∧ (w.alloc (.cells #[errE x, .int .i64 a] 70)).cell? ⟨w.heap.size, 1, none⟩ = some (.int .i64 a)) := by
    refine ⟨?_, ?_⟩ <;> · simp only [World.cell?]; rw [HN.out]; rfl
  clear h HN
  unfold errE at *
  go_enter Tryd.func35, Tryd.ntmps35
  go_wp2
  go_ret
  exact ⟨⟨w.heap.size, rfl, HK.out.1, HK.out.2⟩, HF.out⟩

end Go.Proofs.YtdihdnhofgjhnaaDoor
