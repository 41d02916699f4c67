/- The document: reductions ahead of a terminal. -/
import Derived.Test.YtbdmjfapebdgjaaDoorYStdB
import Derived.Test.YtbdmjfapebdgjaaDoorYRedC
namespace Go.Proofs.YtbdmjfapebdgjaaDoor
open Go.RowKit
set_option linter.unusedVariables false
set_option maxRecDepth 100000

def errE (a : Addr) : Value := .iface 136 (.pointer (some a))
/-- the errors that a parser names -/
structure ErG (w : World) (ab ar ae : Addr) : Prop where
  bnd : w.cell? ⟨1, 0, none⟩ = some (errE ab)
  rul : w.cell? ⟨2, 0, none⟩ = some (errE ar)
  fin : w.cell? ⟨6, 0, none⟩ = some (errE ae)
theorem ErG.below {w w' : World} {ab ar ae : Addr} (h : ErG w ab ar ae) (hb : Below w.heap.size w w') : ErG w' ab ar ae :=
  ⟨(hb.cell (p := ⟨1, 0, none⟩) (lt_of_cellY h.bnd)).trans h.bnd, (hb.cell (p := ⟨2, 0, none⟩) (lt_of_cellY h.rul)).trans h.rul, (hb.cell (p := ⟨6, 0, none⟩) (lt_of_cellY h.fin)).trans h.fin⟩
def errV (ab ar ae : Addr) (c : Int) : Value := if c = 0 then .nilIface else if c = 2 then errE ab else if c = 3 then errE ar else errE ae
/-- what the reductions ahead of a terminal answer -/
def SetP (B : Nat) (w : World) (ab ar ae : Addr) (r : Int × Int × Pl) (e : Ending) (w' : World) : Prop :=
  Below w.heap.size w w' ∧ ∃ xs' xt' us', e = .returned (.tuple #[.agg #[xs', xt'], .int .i64 r.2.1, errV ab ar ae r.1]) ∧ StM B w' xs' xt' r.2.2 us'

theorem rred_any (g : Gm) (pv lv sv : Value) (tb : Tb) (av ov cv : Value) (xs xt ev : Value) (B : Nat) (σ : Pl) (us : List Value) (p : Int) (w : World) (hf : fitsB g tb = true) (hG : GrM w g pv lv sv) (hT : TbM w tb av ov cv) (hX : StM B w xs xt σ us) (hok : PlOk g tb σ) (hB : B ≤ w.heap.size) (hlen : σ.length ≤ 1000000) (hp : 0 ≤ p ∧ p < g.prods.length) (hev : w.cell? ⟨2, 0, none⟩ = some ev) :
    Calls Tryd.prog 42 #[gv g pv lv sv, tvv av ov cv, .agg #[xs, xt], .int .i64 p] w fun e w' => RedP B w xs xt ev (redS g tb p σ) e w' := by
  by_cases hlt : σ.length < (prodOf g p).right.length
  · refine (rred_few g pv lv sv tb av ov cv xs xt ev B σ us p w hG hX hp hev hlt).mono ?_
    rintro e w' ⟨rfl, hb⟩
    exact ⟨hb, .inl ⟨by unfold redS; rw [if_pos hlt], rfl⟩⟩
  · by_cases hz : xt = .slice none 0 0
    · exact rred_nil g pv lv sv tb av ov cv xs xt ev B σ us p w hf hG hT hX hok hB hlen hp hev (by omega) hz
    · exact rred_go g pv lv sv tb av ov cv xs xt ev B σ us p w hf hG hT hX hok hB hlen hp hev (by omega) hz

/-- on the way -/
structure SetI (B : Nat) (w : World) (g : Gm) (pv lv sv : Value) (tb : Tb) (av ov cv : Value) (L n : Nat) (t : Int) (R : Int × Int × Pl) (wr : World) (σ : Pl) (xs xt : Value) (us : List Value) : Prop where
  bel : Below w.heap.size w wr
  bg : BoxG wr w.heap.size g pv lv sv
  bt : BoxT wr (w.heap.size + 1) av ov cv
  bx : BoxX wr (w.heap.size + 2) xs xt
  br : BoxX wr (w.heap.size + 3) (.slice none 0 0) (.slice none 0 0)
  st : StM B wr xs xt σ us
  ok : PlOk g tb σ
  len : σ.length ≤ L + n
  res : setS g tb t (10000 - n) σ = R
/-- the answer is stored -/
theorem SetI.answer {B : Nat} {w : World} {g : Gm} {pv lv sv : Value} {tb : Tb} {av ov cv : Value} {L n : Nat} {t : Int} {R : Int × Int × Pl} {wr : World} {σ : Pl} {a1 a2 : Option Addr} {n1 c1 n2 c2 : Nat} {us : List Value} (h : SetI B w g pv lv sv tb av ov cv L n t R wr σ (.slice a1 n1 c1) (.slice a2 n2 c2) us) {w' : World} (hb : Below wr.heap.size wr w') :
    Below w.heap.size w ((w'.setCell ⟨w.heap.size + 3, 0, none⟩ (.slice a1 n1 c1)).setCell ⟨w.heap.size + 3, 1, none⟩ (.slice a2 n2 c2)) ∧ BoxX ((w'.setCell ⟨w.heap.size + 3, 0, none⟩ (.slice a1 n1 c1)).setCell ⟨w.heap.size + 3, 1, none⟩ (.slice a2 n2 c2)) (w.heap.size + 3) (.slice a1 n1 c1) (.slice a2 n2 c2) ∧ StM B ((w'.setCell ⟨w.heap.size + 3, 0, none⟩ (.slice a1 n1 c1)).setCell ⟨w.heap.size + 3, 1, none⟩ (.slice a2 n2 c2)) (.slice a1 n1 c1) (.slice a2 n2 c2) σ us := by
  have hr := h.br.below h.br.lt hb
  exact ⟨(h.bel.trans (hb.mono h.bel.size)).trans ((below_stored _ _).mono (by omega)), hr.stored _ _, (h.st.below hb).keep hr (grown_storedY _ _ _ _)⟩

end Go.Proofs.YtbdmjfapebdgjaaDoor
