/- Texts of the proof, put together: GFsW. -/
import Derived.Test.YtmkimaceioacgaaDoorGk42
import Derived.Test.YtmkimaceioacgaaDoorGk12
import Derived.Test.YtmkimaceioacgaaDoorGk43
import Derived.Test.YtmkimaceioacgaaDoorGk26
import Derived.Deep.DeepCutAuto
namespace Go.Proofs.YtmkimaceioacgaaDoor
open Go.RowKit
set_option linter.unusedVariables false
set_option maxRecDepth 100000

/-- a variable for a row, still empty -/
def VarS (w : World) (a : Nat) (T : TypeId) : Prop := w.heap[a]? = some (.cells #[.slice none 0 0] T (0, 0))
theorem VarS.lt {w : World} {a : Nat} {T : TypeId} (h : VarS w a T) : a < w.heap.size := (Array.getElem?_eq_some_iff.1 h).1
theorem VarS.cell {w : World} {a : Nat} {T : TypeId} (h : VarS w a T) : w.cell? ⟨a, 0, none⟩ = some (.slice none 0 0) := by unfold VarS at h; simp only [World.cell?, h]; rfl
theorem VarS.fz {w : World} {a : Nat} {T : TypeId} (h : VarS w a T) : w.frozen? ⟨a, 0, none⟩ = false := by unfold VarS at h; simp [World.frozen?, h]
theorem VarS.below {w w' : World} {a : Nat} {T : TypeId} (h : VarS w a T) (hb : Below w.heap.size w w') : VarS w' a T := (hb.block a h.lt).trans h
theorem VarS.set {w : World} {a : Nat} {T : TypeId} (h : VarS w a T) (v : Value) : (w.setCell ⟨a, 0, none⟩ v).cell? ⟨a, 0, none⟩ = some v := by
  unfold VarS at h
  have := heap_setC w a 0 _ T v h
  simp only [World.cell?, this]
  rfl
theorem VarS.other {w : World} {a b : Nat} {T : TypeId} (h : VarS w a T) (hne : a ≠ b) (v : Value) : VarS (w.setCell ⟨b, 0, none⟩ v) a T := by
  unfold VarS at *
  rw [Below.heap_setCell _ _ _ _ (by simpa using hne)]
  exact h
theorem cell_set_ne {w : World} {a b o : Nat} {v : Value} (hne : b ≠ a) : (w.setCell ⟨a, 0, none⟩ v).cell? ⟨b, o, none⟩ = w.cell? ⟨b, o, none⟩ := by
  simp only [World.cell?]
  rw [Below.heap_setCell _ _ _ _ (by simpa using hne)]
/-- numbers and productions do not lie in such a variable -/
theorem IntsR.setS {w : World} {a : Nat} {T : TypeId} (hs : VarS w a T) (x : Value) {v : Value} {l : List Int} (h : IntsR w v l) : IntsR (w.setCell ⟨a, 0, none⟩ x) v l := by
  obtain ⟨p, c, h1, h0, h2⟩ := h
  refine ⟨p, c, h1, h0, ?_⟩
  by_cases hl : l = []
  · exact .inl hl
  · obtain ⟨g, off, e, hg, hc⟩ := h2.resolve_left hl
    have hp : 0 < l.length := List.length_pos_iff.2 hl
    have hne : g ≠ a := fun e' => by
      have h3 := hc 0 hp
      unfold VarS at hs
      simp only [World.cell?, e', hs] at h3
      rcases off with _ | off
      · simp at h3
      · simp at h3
    exact .inr ⟨g, off, e, by simpa using hg, fun j hj => by rw [cell_set_ne hne]; exact hc j hj⟩
theorem PdsM.setS {w : World} {a : Nat} {T : TypeId} (hs : VarS w a T) (x : Value) {v : Value} {l : List PdR} (h : PdsM w v l) : PdsM (w.setCell ⟨a, 0, none⟩ x) v l := by
  obtain ⟨p, c, h1, h2⟩ := h
  refine ⟨p, c, h1, ?_⟩
  by_cases hl : l = []
  · exact .inl hl
  · obtain ⟨g, off, e, hg, hc⟩ := h2.resolve_left hl
    have hp : 0 < l.length := List.length_pos_iff.2 hl
    have hne : g ≠ a := fun e' => by
      obtain ⟨v, h3⟩ := hc 0 hp
      have h4 := h3.c2
      unfold VarS at hs
      simp [World.cell?, e', hs] at h4
    refine .inr ⟨g, off, e, by simpa using hg, fun j hj => ?_⟩
    obtain ⟨v, h3⟩ := hc j hj
    exact ⟨v, by rw [cell_set_ne hne]; exact h3.c0, by rw [cell_set_ne hne]; exact h3.c1, by rw [cell_set_ne hne]; exact h3.c2, h3.right.setS hs x⟩
theorem OwnD.setS {w : World} {a D N : Nat} {T : TypeId} {own : Nat → List PdR} (hs : VarS w a T) (x : Value) (hne : D ≠ a) (h : OwnD w D N own) : OwnD (w.setCell ⟨a, 0, none⟩ x) D N own := by
  refine ⟨by simpa using h.1, fun n hn => ?_⟩
  obtain ⟨v, h1, h2⟩ := h.2 n hn
  exact ⟨v, by rw [cell_set_ne hne]; exact h1, h2.setS hs x⟩
theorem RowB.setS {w : World} {a D : Nat} {T : TypeId} {L : List Bool} (hs : VarS w a T) (x : Value) (hT : T ≠ 4) (h : RowB w D L) : RowB (w.setCell ⟨a, 0, none⟩ x) D L := by
  refine RowB.other h fun e => ?_
  unfold RowB at h
  unfold VarS at hs
  rw [e, hs] at h
  simp at h
  exact hT h.2
theorem BoxG.setS {w : World} {a B : Nat} {g : Gm} {pv lv sv : Value} (x : Value) (hne : B ≠ a) (h : BoxG w B g pv lv sv) : BoxG (w.setCell ⟨a, 0, none⟩ x) B g pv lv sv :=
  ⟨by simpa using h.lt, by rw [cell_set_ne hne]; exact h.c0, by rw [cell_set_ne hne]; exact h.c1, by rw [cell_set_ne hne]; exact h.c2, by rw [cell_set_ne hne]; exact h.c3, by rw [cell_set_ne hne]; exact h.c4, by rw [cell_set_ne hne]; exact h.c5⟩

/-- while two rows are made and two variables laid, in whatever order -/
structure NdF (w wc : World) (g : Gm) (pv lv sv : Value) (N : Nat) (ps : List PdR) (oa ob oD : Option Nat) (oE : Option (Nat × List Bool)) : Prop where
  box : BoxG wc w.heap.size g pv lv sv
  bl : Below w.heap.size w wc
  va : ∀ a, oa = some a → VarS wc a 58 ∧ w.heap.size < a
  vb : ∀ b, ob = some b → VarS wc b 31 ∧ w.heap.size < b
  ne : ∀ a b, oa = some a → ob = some b → a ≠ b
  own : ∀ D, oD = some D → OwnD wc D N (ownL ps) ∧ (∀ a, oa = some a → D ≠ a) ∧ (∀ b, ob = some b → D ≠ b)
  emp : ∀ x, oE = some x → RowB wc x.1 x.2 ∧ x.2.length = N ∧ ∀ n, factB x.2 n = hgtB false (prsS ps) N n
theorem NdF.drew {w wc : World} {g : Gm} {pv lv sv : Value} {N : Nat} {ps : List PdR} {oa ob oD : Option Nat} {oE : Option (Nat × List Bool)} (h : NdF w wc g pv lv sv N ps oa ob oD oE) : NdF w wc.drew g pv lv sv N ps oa ob oD oE :=
  ⟨⟨h.box.lt, h.box.c0, h.box.c1, h.box.c2, h.box.c3, h.box.c4, h.box.c5⟩, below_drewG h.bl 1, h.va, h.vb, h.ne, fun D hD => ⟨(h.own D hD).1.below (below_drewG (Below.refl _ _) 1), (h.own D hD).2⟩, h.emp⟩
theorem NdF.keep {w wc wd : World} {g : Gm} {pv lv sv : Value} {N : Nat} {ps : List PdR} {oa ob oD : Option Nat} {oE : Option (Nat × List Bool)} (h : NdF w wc g pv lv sv N ps oa ob oD oE) (hb : Below wc.heap.size wc wd) : NdF w wd g pv lv sv N ps oa ob oD oE :=
  ⟨h.box.below h.box.lt hb, h.bl.trans (hb.mono h.bl.size), fun a ha => ⟨(h.va a ha).1.below hb, (h.va a ha).2⟩, fun b hB => ⟨(h.vb b hB).1.below hb, (h.vb b hB).2⟩, h.ne, fun D hD => ⟨(h.own D hD).1.below hb, (h.own D hD).2⟩, fun x hx => ⟨(h.emp x hx).1.below hb, (h.emp x hx).2⟩⟩
theorem NdF.ownC {w wc wd : World} {g : Gm} {pv lv sv : Value} {N : Nat} {ps : List PdR} {oa ob : Option Nat} {oE : Option (Nat × List Bool)} (h : NdF w wc g pv lv sv N ps oa ob none oE) (hb : Below wc.heap.size wc wd) (hd : OwnD wd (wc.heap.size + 1) N (ownL ps)) : NdF w wd g pv lv sv N ps oa ob (some (wc.heap.size + 1)) oE := by
  have k := h.keep hb
  refine ⟨k.box, k.bl, k.va, k.vb, k.ne, fun D hD => ?_, k.emp⟩
  obtain rfl : wc.heap.size + 1 = D := by simpa using hD
  exact ⟨hd, fun a ha => by have := (h.va a ha).1.lt; omega, fun b hB => by have := (h.vb b hB).1.lt; omega⟩
theorem NdF.havC {w wc wd : World} {g : Gm} {pv lv sv : Value} {N : Nat} {ps : List PdR} {oa ob oD : Option Nat} (h : NdF w wc g pv lv sv N ps oa ob oD none) (hb : Below wc.heap.size wc wd) {B : Nat} {E : List Bool} (hr : RowB wd B E) (hl : E.length = N) (hf : ∀ n, factB E n = hgtB false (prsS ps) N n) : NdF w wd g pv lv sv N ps oa ob oD (some (B, E)) := by
  have k := h.keep hb
  refine ⟨k.box, k.bl, k.va, k.vb, k.ne, k.own, fun x hx => ?_⟩
  obtain rfl : (B, E) = x := by simpa using hx
  exact ⟨hr, hl, hf⟩
theorem NdF.allocA {w wc : World} {g : Gm} {pv lv sv : Value} {N : Nat} {ps : List PdR} {ob oD : Option Nat} {oE : Option (Nat × List Bool)} (h : NdF w wc g pv lv sv N ps none ob oD oE) : NdF w (wc.alloc (.cells #[.slice none 0 0] 58)) g pv lv sv N ps (some wc.heap.size) ob oD oE := by
  have k := h.keep (alloc_below wc (.cells #[.slice none 0 0] 58))
  have hlt := h.box.lt
  refine ⟨k.box, k.bl, fun a ha => ?_, k.vb, fun a b ha hB => ?_, fun D hD => ⟨(k.own D hD).1, fun a ha => ?_, (k.own D hD).2.2⟩, k.emp⟩
  · obtain rfl : wc.heap.size = a := by simpa using ha
    exact ⟨alloc_at _ _, hlt⟩
  · obtain rfl : wc.heap.size = a := by simpa using ha
    have := (h.vb b hB).1.lt; omega
  · obtain rfl : wc.heap.size = a := by simpa using ha
    have := (h.own D hD).1.1; omega
theorem NdF.allocB {w wc : World} {g : Gm} {pv lv sv : Value} {N : Nat} {ps : List PdR} {oa oD : Option Nat} {oE : Option (Nat × List Bool)} (h : NdF w wc g pv lv sv N ps oa none oD oE) : NdF w (wc.alloc (.cells #[.slice none 0 0] 31)) g pv lv sv N ps oa (some wc.heap.size) oD oE := by
  have k := h.keep (alloc_below wc (.cells #[.slice none 0 0] 31))
  have hlt := h.box.lt
  refine ⟨k.box, k.bl, k.va, fun b hB => ?_, fun a b ha hB => ?_, fun D hD => ⟨(k.own D hD).1, (k.own D hD).2.1, fun b hB => ?_⟩, k.emp⟩
  · obtain rfl : wc.heap.size = b := by simpa using hB
    exact ⟨alloc_at _ _, hlt⟩
  · obtain rfl : wc.heap.size = b := by simpa using hB
    have := (h.va a ha).1.lt; omega
  · obtain rfl : wc.heap.size = b := by simpa using hB
    have := (h.own D hD).1.1; omega
/-- all are there -/
structure FnF (w wx : World) (g : Gm) (pv lv sv : Value) (N : Nat) (ps : List PdR) (a b EB : Nat) (E : List Bool) : Prop where
  box : BoxG wx w.heap.size g pv lv sv
  bl : Below w.heap.size w wx
  own : OwnM wx a N (ownL ps)
  emp : VarB wx b EB N E
  len : E.length = N
  fct : ∀ n, factB E n = hgtB false (prsS ps) N n
theorem NdF.fin {w wc : World} {g : Gm} {pv lv sv : Value} {N : Nat} {ps : List PdR} {a b D EB : Nat} {E : List Bool} (h : NdF w wc g pv lv sv N ps (some a) (some b) (some D) (some (EB, E))) :
    FnF w ((wc.setCell ⟨a, 0, none⟩ (.slice (some ⟨D, 0, none⟩) N N)).setCell ⟨b, 0, none⟩ (.slice (some ⟨EB, 0, none⟩) N N)) g pv lv sv N ps a b EB E := by
  obtain ⟨a1, a2⟩ := h.va a rfl
  obtain ⟨b1, b2⟩ := h.vb b rfl
  have hab := h.ne a b rfl rfl
  obtain ⟨o1, o2, o3⟩ := h.own D rfl
  obtain ⟨e1, e2, e3⟩ := h.emp (EB, E) rfl
  have b1' := b1.other (b := a) (fun e => hab e.symm) (.slice (some ⟨D, 0, none⟩) N N)
  have o1' := (o1.setS a1 (.slice (some ⟨D, 0, none⟩) N N) (o2 a rfl)).setS b1' (.slice (some ⟨EB, 0, none⟩) N N) (o3 b rfl)
  have e1' := (e1.setS a1 (.slice (some ⟨D, 0, none⟩) N N) (by decide)).setS b1' (.slice (some ⟨EB, 0, none⟩) N N) (by decide)
  refine ⟨(h.box.setS _ (by omega)).setS _ (by omega), below_set (below_set h.bl (by omega) _ _) (by omega) _ _, ⟨D, by have := a1.lt; simpa using this, o1'.1, ?_, o1'.2⟩, ⟨by have := b1.lt; simpa using this, b1'.set _, e1'⟩, e2, e3⟩
  rw [cell_set_ne hab]
  exact a1.set _

theorem NdF.leaf {w wc : World} {g : Gm} {pv lv sv : Value} {N : Nat} {ps : List PdR} {a b D EB : Nat} {E : List Bool} (h : NdF w wc g pv lv sv N ps (some a) (some b) (some D) (some (EB, E))) :
    (wc.cell? ⟨a, 0, none⟩ = some (.slice none 0 0) ∧ wc.frozen? ⟨a, 0, none⟩ = false ∧ a < wc.heap.size) ∧ BoxG (wc.setCell ⟨a, 0, none⟩ (.slice (some ⟨D, 0, none⟩) N N)) w.heap.size g pv lv sv ∧ ((wc.setCell ⟨a, 0, none⟩ (.slice (some ⟨D, 0, none⟩) N N)).cell? ⟨b, 0, none⟩ = some (.slice none 0 0) ∧ (wc.setCell ⟨a, 0, none⟩ (.slice (some ⟨D, 0, none⟩) N N)).frozen? ⟨b, 0, none⟩ = false ∧ b < wc.heap.size) := by
  obtain ⟨a1, a2⟩ := h.va a rfl
  obtain ⟨b1, b2⟩ := h.vb b rfl
  have hab := h.ne a b rfl rfl
  have b1' := b1.other (b := a) (fun e => hab e.symm) (.slice (some ⟨D, 0, none⟩) N N)
  exact ⟨⟨a1.cell, a1.fz, a1.lt⟩, h.box.setS _ (by omega), b1'.cell, b1'.fz, b1.lt⟩

set_option maxHeartbeats 16000000 in
theorem firsts_any (t s : Int) (N : Nat) (ps : List PdR) (ls ss : List Int) (pv lv sv : Value) (w : World) (hN1 : 1 ≤ N) (hN8 : N ≤ 8) (T : Nat) (hT8 : T ≤ 8) (hTr : TrmP T ps) (hG : GOkM N ps) (h : PdsM w pv ps) :
    Calls Tryd.prog 21 #[gv ⟨t, N, s, ps, ls, ss⟩ pv lv sv] w fun e w' => ∃ B L, e = .returned (.slice (some ⟨B, 0, none⟩) N N) ∧ RowM w' B L ∧ L.length = N ∧ (∀ n, factM L n < 512) ∧ (∀ n, n < N → ∀ i, ((factM L n).testBit i = true ↔ fstP N ps n i)) ∧ (∀ n, n < N → hgtB true (prsS ps) N n = true → factM L n ≠ 0 ∨ hgtB false (prsS ps) N n = true) ∧ w.heap.size ≤ B ∧ Below w.heap.size w w' := by
  have hB0 := boxG_below w ⟨t, N, s, ps, ls, ss⟩ pv lv sv
  have hB1 := boxG_size w ⟨t, N, s, ps, ls, ss⟩ pv lv sv
  have hB2 := boxG_box w ⟨t, N, s, ps, ls, ss⟩ pv lv sv
  have hmf : ∀ (fn : Fn) (first cap : Array Value) (w : World), (Instr.makeFunc fn first cap).run Tryd.prog w = .ok (.func fn first cap) w := fun _ _ _ _ => rfl
  obtain ⟨pa, pc, rfl⟩ := h.slice
  have HP : Hid (PdsM w (.slice pa ps.length pc) ps) := h
  have HOP : Hid (∀ wx, Below w.heap.size w wx → Calls Tryd.prog 30 #[gv ⟨t, N, s, ps, ls, ss⟩ (.slice pa ps.length pc) lv sv] wx fun e w' => e = .returned (.slice (some ⟨wx.heap.size + 1, 0, none⟩) N N) ∧ OwnD w' (wx.heap.size + 1) N (ownL ps) ∧ Below wx.heap.size wx w') := fun wx hx => ownProds_any t s N ps ls ss _ lv sv wx hG.n hG.len (fun m hm => ⟨(hG.pd m hm).1.1, (hG.pd m hm).1.2.1⟩) (h.below hx)
  have HHT : Hid (∀ wx, Below w.heap.size w wx → Calls Tryd.prog 19 #[gv ⟨t, N, s, ps, ls, ss⟩ (.slice pa ps.length pc) lv sv, .bool false] wx fun e w' => ∃ B L, e = .returned (.slice (some ⟨B, 0, none⟩) N N) ∧ RowB w' B L ∧ L.length = N ∧ (∀ n, factB L n = hgtB false (prsS ps) N n) ∧ wx.heap.size ≤ B ∧ Below wx.heap.size wx w') := fun wx hx => haveTrees_any false t s N ps ls ss _ lv sv wx hG (h.below hx)
  have HN0 : Hid (NdF w (boxG w ⟨t, N, s, ps, ls, ss⟩ (.slice pa ps.length pc) lv sv) ⟨t, N, s, ps, ls, ss⟩ (.slice pa ps.length pc) lv sv N ps none none none none) := ⟨hB2, hB0, fun _ e => by simp at e, fun _ e => by simp at e, fun _ _ e => by simp at e, fun _ e => by simp at e, fun _ e => by simp at e⟩
  have HSS : Hid (∀ w5, BoxG w5 w.heap.size ⟨t, N, s, ps, ls, ss⟩ (.slice pa ps.length pc) lv sv → w5.cell? ⟨w.heap.size, 0, none⟩ = some (.int .i64 t) ∧ w5.cell? ⟨w.heap.size, 1, none⟩ = some (.int .i64 N) ∧ w5.cell? ⟨w.heap.size, 2, none⟩ = some (.int .i64 s) ∧ w5.cell? ⟨w.heap.size, 3, none⟩ = some (.slice pa ps.length pc) ∧ w5.cell? ⟨w.heap.size, 4, none⟩ = some lv ∧ w5.cell? ⟨w.heap.size, 5, none⟩ = some sv) := fun w5 hb => ⟨hb.c0, hb.c1, hb.c2, hb.c3, hb.c4, hb.c5⟩
  unfold gv gvs at HOP HHT
  unfold boxG gvs at HN0
  unfold gv gvs
  simp only at HOP HHT HN0
  clear hB0 hB1 hB2
  have hwlt := HN0.out.box.lt
  go_enter Tryd.func21, Tryd.ntmps21
  go_upto_region 1 with fail
  generalize w.alloc (.cells #[.int .i64 t, .int .i64 N, .int .i64 s, .slice pa ps.length pc, lv, sv] 25) = w0 at *
  go_cut [3, 4] (fun s3 s4 wx => ∃ a b EB E, s3 = .pointer (some ⟨a, 0, none⟩) ∧ s4 = .pointer (some ⟨b, 0, none⟩) ∧ Hid (FnF w wx ⟨t, N, s, ps, ls, ss⟩ (.slice pa ps.length pc) lv sv N ps a b EB E))
  case first =>
    refine wp_region_held_drew (S := fun w' => w'.cell? ⟨w.heap.size, 0, none⟩ = some (.int .i64 t) ∧ w'.cell? ⟨w.heap.size, 1, none⟩ = some (.int .i64 N) ∧ w'.cell? ⟨w.heap.size, 2, none⟩ = some (.int .i64 s) ∧ w'.cell? ⟨w.heap.size, 3, none⟩ = some (.slice pa ps.length pc) ∧ w'.cell? ⟨w.heap.size, 4, none⟩ = some lv ∧ w'.cell? ⟨w.heap.size, 5, none⟩ = some sv) (by kernel_rfl) (HSS.out _ HN0.out.drew.box) (fun hHeld0 => ?_)
    refine wpAnyH_take (i := 0) (v := ?_) rfl (by kernel_rfl) (by kernel_rfl) (by kernel_rfl) (fun _ _ _ h => h) (Or.inl ⟨by rfl, ?_⟩) (by assumption) ?_
    rotate_left
    · (intro w hSw; (try dsimp only at hSw); go_simp; first | done | with_reducible rfl)
    simp only [Act.put, List.getElem_toArray, List.getElem_cons_zero, List.setIfInBounds_toArray, List.set_cons_zero, List.set_cons_succ]
    refine wpAnyH_take (i := 2) (v := ?_) rfl (by kernel_rfl) (by kernel_rfl) (by kernel_rfl) (fun _ _ _ h => h) (Or.inl ⟨by rfl, ?_⟩) (by assumption) ?_
    rotate_left
    · (intro w hSw; (try dsimp only at hSw); go_simp; first | done | with_reducible rfl)
    simp only [Act.put, List.getElem_toArray, List.getElem_cons_succ, List.getElem_cons_zero, List.setIfInBounds_toArray, List.set_cons_zero, List.set_cons_succ]
    have HN1 : Hid _ := HN0.out.drew
    clear HN0
    have hHeld1 := hHeld0
    clear hHeld0
    generalize w0.drew = wz at *
    refine wpAnyH_ready (rs := [1, 4, 5]) (by kernel_rfl) (by simp) ?_
    refine (AllReadyH.cons rfl (fun K hK => ?_) (AllReadyH.cons rfl (fun K hK => ?_) (AllReadyH.cons rfl (fun K hK => ?_) AllReadyH.nil)))
    · go_simp
      go_wp2_with (go_at_call 30; refine (HOP.out _ HN1.out.bl).mono ?_; rintro e wd2 ⟨rfl, hd, hbd⟩)
      have HN2 : Hid _ := NdF.ownC HN1.out hbd hd
      clear hd
      refine hK.out _ _ (HSS.out _ HN2.out.box) (fun hHeld2 => ?_)
      clear hK K HN1 hHeld1
      clear hbd
      refine wpAnyH_ready (rs := [3, 4, 5]) (by kernel_rfl) (by simp) ?_
      refine (AllReadyH.cons rfl (fun K hK => ?_) (AllReadyH.cons rfl (fun K hK => ?_) (AllReadyH.cons rfl (fun K hK => ?_) AllReadyH.nil)))
      · go_simp
        go_wp2_with (go_at_call 19; refine (HHT.out _ HN2.out.bl).mono ?_; rintro e wd3 ⟨EB, E, rfl, hrow, hEl, hEf, _, hbd⟩)
        have HN3 : Hid _ := NdF.havC HN2.out hbd hrow hEl hEf
        clear hrow hEl hEf
        refine hK.out _ _ (HSS.out _ HN3.out.box) (fun hHeld3 => ?_)
        clear hK K HN2 hHeld2
        clear hbd
        refine wpAnyH_ready (rs := [4, 5]) (by kernel_rfl) (by simp) ?_
        refine (AllReadyH.cons rfl (fun K hK => ?_) (AllReadyH.cons rfl (fun K hK => ?_) AllReadyH.nil))
        · go_simp
          have HN4 : Hid _ := NdF.allocA HN3.out
          refine hK.out _ _ (HSS.out _ HN4.out.box) (fun hHeld4 => ?_)
          clear hK K HN3 hHeld3
          generalize wd3.alloc (.cells #[.slice none 0 0] 58) = wn4 at *
          refine wpAnyH_ready (rs := [5]) (by kernel_rfl) (by simp) ?_
          refine (AllReadyH.cons rfl (fun K hK => ?_) AllReadyH.nil)
          go_simp
          have HN5 : Hid _ := NdF.allocB HN4.out
          refine hK.out _ _ (HSS.out _ HN5.out.box) (fun hHeld5 => ?_)
          clear hK K HN4 hHeld4
          generalize wn4.alloc (.cells #[.slice none 0 0] 31) = wn5 at *
          obtain ⟨⟨va0, va1, va2⟩, ub, vb0, vb1, vb2⟩ := NdF.leaf HN5.out
          have HFN : Hid _ := HN5.out.fin
          have UB : Hid _ := ub
          clear ub HN5
          refine wpAnyH_ready (rs := [6]) (by kernel_rfl) (by simp) ?_
          refine AllReadyH.cons rfl (fun K hK => ?_) AllReadyH.nil
          go_simp
          refine hK.out _ _ (HSS.out _ UB.out) (fun hHeld6 => ?_)
          clear hK K hHeld5
          refine wpAnyH_ready (rs := [7]) (by kernel_rfl) (by simp) ?_
          refine AllReadyH.cons rfl (fun K hK => ?_) AllReadyH.nil
          go_simp
          refine hK.out _ _ (HSS.out _ HFN.out.box) (fun hHeld7 => ?_)
          clear hK K hHeld6
          refine wpAnyH_done (by kernel_rfl) ?_ _
          try go_wp2_with fail
          go_meet
          case rel => exact ⟨_, _, _, _, rfl, rfl, HFN⟩
        · go_simp
          have HN4 : Hid _ := NdF.allocB HN3.out
          refine hK.out _ _ (HSS.out _ HN4.out.box) (fun hHeld4 => ?_)
          clear hK K HN3 hHeld3
          generalize wd3.alloc (.cells #[.slice none 0 0] 31) = wn4 at *
          refine wpAnyH_ready (rs := [4]) (by kernel_rfl) (by simp) ?_
          refine (AllReadyH.cons rfl (fun K hK => ?_) AllReadyH.nil)
          go_simp
          have HN5 : Hid _ := NdF.allocA HN4.out
          refine hK.out _ _ (HSS.out _ HN5.out.box) (fun hHeld5 => ?_)
          clear hK K HN4 hHeld4
          generalize wn4.alloc (.cells #[.slice none 0 0] 58) = wn5 at *
          obtain ⟨⟨va0, va1, va2⟩, ub, vb0, vb1, vb2⟩ := NdF.leaf HN5.out
          have HFN : Hid _ := HN5.out.fin
          have UB : Hid _ := ub
          clear ub HN5
          refine wpAnyH_ready (rs := [6]) (by kernel_rfl) (by simp) ?_
          refine AllReadyH.cons rfl (fun K hK => ?_) AllReadyH.nil
          go_simp
          refine hK.out _ _ (HSS.out _ UB.out) (fun hHeld6 => ?_)
          clear hK K hHeld5
          refine wpAnyH_ready (rs := [7]) (by kernel_rfl) (by simp) ?_
          refine AllReadyH.cons rfl (fun K hK => ?_) AllReadyH.nil
          go_simp
          refine hK.out _ _ (HSS.out _ HFN.out.box) (fun hHeld7 => ?_)
          clear hK K hHeld6
          refine wpAnyH_done (by kernel_rfl) ?_ _
          try go_wp2_with fail
          go_meet
          case rel => exact ⟨_, _, _, _, rfl, rfl, HFN⟩
      · go_simp
        have HN3 : Hid _ := NdF.allocA HN2.out
        refine hK.out _ _ (HSS.out _ HN3.out.box) (fun hHeld3 => ?_)
        clear hK K HN2 hHeld2
        generalize wd2.alloc (.cells #[.slice none 0 0] 58) = wn3 at *
        refine wpAnyH_ready (rs := [3, 5]) (by kernel_rfl) (by simp) ?_
        refine (AllReadyH.cons rfl (fun K hK => ?_) (AllReadyH.cons rfl (fun K hK => ?_) AllReadyH.nil))
        · go_simp
          go_wp2_with (go_at_call 19; refine (HHT.out _ HN3.out.bl).mono ?_; rintro e wd4 ⟨EB, E, rfl, hrow, hEl, hEf, _, hbd⟩)
          have HN4 : Hid _ := NdF.havC HN3.out hbd hrow hEl hEf
          clear hrow hEl hEf
          refine hK.out _ _ (HSS.out _ HN4.out.box) (fun hHeld4 => ?_)
          clear hK K HN3 hHeld3
          clear hbd
          refine wpAnyH_ready (rs := [5]) (by kernel_rfl) (by simp) ?_
          refine (AllReadyH.cons rfl (fun K hK => ?_) AllReadyH.nil)
          go_simp
          have HN5 : Hid _ := NdF.allocB HN4.out
          refine hK.out _ _ (HSS.out _ HN5.out.box) (fun hHeld5 => ?_)
          clear hK K HN4 hHeld4
          generalize wd4.alloc (.cells #[.slice none 0 0] 31) = wn5 at *
          obtain ⟨⟨va0, va1, va2⟩, ub, vb0, vb1, vb2⟩ := NdF.leaf HN5.out
          have HFN : Hid _ := HN5.out.fin
          have UB : Hid _ := ub
          clear ub HN5
          refine wpAnyH_ready (rs := [6]) (by kernel_rfl) (by simp) ?_
          refine AllReadyH.cons rfl (fun K hK => ?_) AllReadyH.nil
          go_simp
          refine hK.out _ _ (HSS.out _ UB.out) (fun hHeld6 => ?_)
          clear hK K hHeld5
          refine wpAnyH_ready (rs := [7]) (by kernel_rfl) (by simp) ?_
          refine AllReadyH.cons rfl (fun K hK => ?_) AllReadyH.nil
          go_simp
          refine hK.out _ _ (HSS.out _ HFN.out.box) (fun hHeld7 => ?_)
          clear hK K hHeld6
          refine wpAnyH_done (by kernel_rfl) ?_ _
          try go_wp2_with fail
          go_meet
          case rel => exact ⟨_, _, _, _, rfl, rfl, HFN⟩
        · go_simp
          have HN4 : Hid _ := NdF.allocB HN3.out
          refine hK.out _ _ (HSS.out _ HN4.out.box) (fun hHeld4 => ?_)
          clear hK K HN3 hHeld3
          generalize wn3.alloc (.cells #[.slice none 0 0] 31) = wn4 at *
          refine wpAnyH_ready (rs := [3]) (by kernel_rfl) (by simp) ?_
          refine (AllReadyH.cons rfl (fun K hK => ?_) AllReadyH.nil)
          go_simp
          go_wp2_with (go_at_call 19; refine (HHT.out _ HN4.out.bl).mono ?_; rintro e wd5 ⟨EB, E, rfl, hrow, hEl, hEf, _, hbd⟩)
          have HN5 : Hid _ := NdF.havC HN4.out hbd hrow hEl hEf
          clear hrow hEl hEf
          refine hK.out _ _ (HSS.out _ HN5.out.box) (fun hHeld5 => ?_)
          clear hK K HN4 hHeld4
          clear hbd
          obtain ⟨⟨va0, va1, va2⟩, ub, vb0, vb1, vb2⟩ := NdF.leaf HN5.out
          have HFN : Hid _ := HN5.out.fin
          have UB : Hid _ := ub
          clear ub HN5
          refine wpAnyH_ready (rs := [6]) (by kernel_rfl) (by simp) ?_
          refine AllReadyH.cons rfl (fun K hK => ?_) AllReadyH.nil
          go_simp
          refine hK.out _ _ (HSS.out _ UB.out) (fun hHeld6 => ?_)
          clear hK K hHeld5
          refine wpAnyH_ready (rs := [7]) (by kernel_rfl) (by simp) ?_
          refine AllReadyH.cons rfl (fun K hK => ?_) AllReadyH.nil
          go_simp
          refine hK.out _ _ (HSS.out _ HFN.out.box) (fun hHeld7 => ?_)
          clear hK K hHeld6
          refine wpAnyH_done (by kernel_rfl) ?_ _
          try go_wp2_with fail
          go_meet
          case rel => exact ⟨_, _, _, _, rfl, rfl, HFN⟩
      · go_simp
        have HN3 : Hid _ := NdF.allocB HN2.out
        refine hK.out _ _ (HSS.out _ HN3.out.box) (fun hHeld3 => ?_)
        clear hK K HN2 hHeld2
        generalize wd2.alloc (.cells #[.slice none 0 0] 31) = wn3 at *
        refine wpAnyH_ready (rs := [3, 4]) (by kernel_rfl) (by simp) ?_
        refine (AllReadyH.cons rfl (fun K hK => ?_) (AllReadyH.cons rfl (fun K hK => ?_) AllReadyH.nil))
        · go_simp
          go_wp2_with (go_at_call 19; refine (HHT.out _ HN3.out.bl).mono ?_; rintro e wd4 ⟨EB, E, rfl, hrow, hEl, hEf, _, hbd⟩)
          have HN4 : Hid _ := NdF.havC HN3.out hbd hrow hEl hEf
          clear hrow hEl hEf
          refine hK.out _ _ (HSS.out _ HN4.out.box) (fun hHeld4 => ?_)
          clear hK K HN3 hHeld3
          clear hbd
          refine wpAnyH_ready (rs := [4]) (by kernel_rfl) (by simp) ?_
          refine (AllReadyH.cons rfl (fun K hK => ?_) AllReadyH.nil)
          go_simp
          have HN5 : Hid _ := NdF.allocA HN4.out
          refine hK.out _ _ (HSS.out _ HN5.out.box) (fun hHeld5 => ?_)
          clear hK K HN4 hHeld4
          generalize wd4.alloc (.cells #[.slice none 0 0] 58) = wn5 at *
          obtain ⟨⟨va0, va1, va2⟩, ub, vb0, vb1, vb2⟩ := NdF.leaf HN5.out
          have HFN : Hid _ := HN5.out.fin
          have UB : Hid _ := ub
          clear ub HN5
          refine wpAnyH_ready (rs := [6]) (by kernel_rfl) (by simp) ?_
          refine AllReadyH.cons rfl (fun K hK => ?_) AllReadyH.nil
          go_simp
          refine hK.out _ _ (HSS.out _ UB.out) (fun hHeld6 => ?_)
          clear hK K hHeld5
          refine wpAnyH_ready (rs := [7]) (by kernel_rfl) (by simp) ?_
          refine AllReadyH.cons rfl (fun K hK => ?_) AllReadyH.nil
          go_simp
          refine hK.out _ _ (HSS.out _ HFN.out.box) (fun hHeld7 => ?_)
          clear hK K hHeld6
          refine wpAnyH_done (by kernel_rfl) ?_ _
          try go_wp2_with fail
          go_meet
          case rel => exact ⟨_, _, _, _, rfl, rfl, HFN⟩
        · go_simp
          have HN4 : Hid _ := NdF.allocA HN3.out
          refine hK.out _ _ (HSS.out _ HN4.out.box) (fun hHeld4 => ?_)
          clear hK K HN3 hHeld3
          generalize wn3.alloc (.cells #[.slice none 0 0] 58) = wn4 at *
          refine wpAnyH_ready (rs := [3]) (by kernel_rfl) (by simp) ?_
          refine (AllReadyH.cons rfl (fun K hK => ?_) AllReadyH.nil)
          go_simp
          go_wp2_with (go_at_call 19; refine (HHT.out _ HN4.out.bl).mono ?_; rintro e wd5 ⟨EB, E, rfl, hrow, hEl, hEf, _, hbd⟩)
          have HN5 : Hid _ := NdF.havC HN4.out hbd hrow hEl hEf
          clear hrow hEl hEf
          refine hK.out _ _ (HSS.out _ HN5.out.box) (fun hHeld5 => ?_)
          clear hK K HN4 hHeld4
          clear hbd
          obtain ⟨⟨va0, va1, va2⟩, ub, vb0, vb1, vb2⟩ := NdF.leaf HN5.out
          have HFN : Hid _ := HN5.out.fin
          have UB : Hid _ := ub
          clear ub HN5
          refine wpAnyH_ready (rs := [6]) (by kernel_rfl) (by simp) ?_
          refine AllReadyH.cons rfl (fun K hK => ?_) AllReadyH.nil
          go_simp
          refine hK.out _ _ (HSS.out _ UB.out) (fun hHeld6 => ?_)
          clear hK K hHeld5
          refine wpAnyH_ready (rs := [7]) (by kernel_rfl) (by simp) ?_
          refine AllReadyH.cons rfl (fun K hK => ?_) AllReadyH.nil
          go_simp
          refine hK.out _ _ (HSS.out _ HFN.out.box) (fun hHeld7 => ?_)
          clear hK K hHeld6
          refine wpAnyH_done (by kernel_rfl) ?_ _
          try go_wp2_with fail
          go_meet
          case rel => exact ⟨_, _, _, _, rfl, rfl, HFN⟩
    · go_simp
      have HN2 : Hid _ := NdF.allocA HN1.out
      refine hK.out _ _ (HSS.out _ HN2.out.box) (fun hHeld2 => ?_)
      clear hK K HN1 hHeld1
      generalize wz.alloc (.cells #[.slice none 0 0] 58) = wn2 at *
      refine wpAnyH_ready (rs := [1, 5]) (by kernel_rfl) (by simp) ?_
      refine (AllReadyH.cons rfl (fun K hK => ?_) (AllReadyH.cons rfl (fun K hK => ?_) AllReadyH.nil))
      · go_simp
        go_wp2_with (go_at_call 30; refine (HOP.out _ HN2.out.bl).mono ?_; rintro e wd3 ⟨rfl, hd, hbd⟩)
        have HN3 : Hid _ := NdF.ownC HN2.out hbd hd
        clear hd
        refine hK.out _ _ (HSS.out _ HN3.out.box) (fun hHeld3 => ?_)
        clear hK K HN2 hHeld2
        clear hbd
        refine wpAnyH_ready (rs := [3, 5]) (by kernel_rfl) (by simp) ?_
        refine (AllReadyH.cons rfl (fun K hK => ?_) (AllReadyH.cons rfl (fun K hK => ?_) AllReadyH.nil))
        · go_simp
          go_wp2_with (go_at_call 19; refine (HHT.out _ HN3.out.bl).mono ?_; rintro e wd4 ⟨EB, E, rfl, hrow, hEl, hEf, _, hbd⟩)
          have HN4 : Hid _ := NdF.havC HN3.out hbd hrow hEl hEf
          clear hrow hEl hEf
          refine hK.out _ _ (HSS.out _ HN4.out.box) (fun hHeld4 => ?_)
          clear hK K HN3 hHeld3
          clear hbd
          refine wpAnyH_ready (rs := [5]) (by kernel_rfl) (by simp) ?_
          refine (AllReadyH.cons rfl (fun K hK => ?_) AllReadyH.nil)
          go_simp
          have HN5 : Hid _ := NdF.allocB HN4.out
          refine hK.out _ _ (HSS.out _ HN5.out.box) (fun hHeld5 => ?_)
          clear hK K HN4 hHeld4
          generalize wd4.alloc (.cells #[.slice none 0 0] 31) = wn5 at *
          obtain ⟨⟨va0, va1, va2⟩, ub, vb0, vb1, vb2⟩ := NdF.leaf HN5.out
          have HFN : Hid _ := HN5.out.fin
          have UB : Hid _ := ub
          clear ub HN5
          refine wpAnyH_ready (rs := [6]) (by kernel_rfl) (by simp) ?_
          refine AllReadyH.cons rfl (fun K hK => ?_) AllReadyH.nil
          go_simp
          refine hK.out _ _ (HSS.out _ UB.out) (fun hHeld6 => ?_)
          clear hK K hHeld5
          refine wpAnyH_ready (rs := [7]) (by kernel_rfl) (by simp) ?_
          refine AllReadyH.cons rfl (fun K hK => ?_) AllReadyH.nil
          go_simp
          refine hK.out _ _ (HSS.out _ HFN.out.box) (fun hHeld7 => ?_)
          clear hK K hHeld6
          refine wpAnyH_done (by kernel_rfl) ?_ _
          try go_wp2_with fail
          go_meet
          case rel => exact ⟨_, _, _, _, rfl, rfl, HFN⟩
        · go_simp
          have HN4 : Hid _ := NdF.allocB HN3.out
          refine hK.out _ _ (HSS.out _ HN4.out.box) (fun hHeld4 => ?_)
          clear hK K HN3 hHeld3
          generalize wd3.alloc (.cells #[.slice none 0 0] 31) = wn4 at *
          refine wpAnyH_ready (rs := [3]) (by kernel_rfl) (by simp) ?_
          refine (AllReadyH.cons rfl (fun K hK => ?_) AllReadyH.nil)
          go_simp
          go_wp2_with (go_at_call 19; refine (HHT.out _ HN4.out.bl).mono ?_; rintro e wd5 ⟨EB, E, rfl, hrow, hEl, hEf, _, hbd⟩)
          have HN5 : Hid _ := NdF.havC HN4.out hbd hrow hEl hEf
          clear hrow hEl hEf
          refine hK.out _ _ (HSS.out _ HN5.out.box) (fun hHeld5 => ?_)
          clear hK K HN4 hHeld4
          clear hbd
          obtain ⟨⟨va0, va1, va2⟩, ub, vb0, vb1, vb2⟩ := NdF.leaf HN5.out
          have HFN : Hid _ := HN5.out.fin
          have UB : Hid _ := ub
          clear ub HN5
          refine wpAnyH_ready (rs := [6]) (by kernel_rfl) (by simp) ?_
          refine AllReadyH.cons rfl (fun K hK => ?_) AllReadyH.nil
          go_simp
          refine hK.out _ _ (HSS.out _ UB.out) (fun hHeld6 => ?_)
          clear hK K hHeld5
          refine wpAnyH_ready (rs := [7]) (by kernel_rfl) (by simp) ?_
          refine AllReadyH.cons rfl (fun K hK => ?_) AllReadyH.nil
          go_simp
          refine hK.out _ _ (HSS.out _ HFN.out.box) (fun hHeld7 => ?_)
          clear hK K hHeld6
          refine wpAnyH_done (by kernel_rfl) ?_ _
          try go_wp2_with fail
          go_meet
          case rel => exact ⟨_, _, _, _, rfl, rfl, HFN⟩
      · go_simp
        have HN3 : Hid _ := NdF.allocB HN2.out
        refine hK.out _ _ (HSS.out _ HN3.out.box) (fun hHeld3 => ?_)
        clear hK K HN2 hHeld2
        generalize wn2.alloc (.cells #[.slice none 0 0] 31) = wn3 at *
        refine wpAnyH_ready (rs := [1]) (by kernel_rfl) (by simp) ?_
        refine (AllReadyH.cons rfl (fun K hK => ?_) AllReadyH.nil)
        go_simp
        go_wp2_with (go_at_call 30; refine (HOP.out _ HN3.out.bl).mono ?_; rintro e wd4 ⟨rfl, hd, hbd⟩)
        have HN4 : Hid _ := NdF.ownC HN3.out hbd hd
        clear hd
        refine hK.out _ _ (HSS.out _ HN4.out.box) (fun hHeld4 => ?_)
        clear hK K HN3 hHeld3
        clear hbd
        refine wpAnyH_ready (rs := [3]) (by kernel_rfl) (by simp) ?_
        refine (AllReadyH.cons rfl (fun K hK => ?_) AllReadyH.nil)
        go_simp
        go_wp2_with (go_at_call 19; refine (HHT.out _ HN4.out.bl).mono ?_; rintro e wd5 ⟨EB, E, rfl, hrow, hEl, hEf, _, hbd⟩)
        have HN5 : Hid _ := NdF.havC HN4.out hbd hrow hEl hEf
        clear hrow hEl hEf
        refine hK.out _ _ (HSS.out _ HN5.out.box) (fun hHeld5 => ?_)
        clear hK K HN4 hHeld4
        clear hbd
        obtain ⟨⟨va0, va1, va2⟩, ub, vb0, vb1, vb2⟩ := NdF.leaf HN5.out
        have HFN : Hid _ := HN5.out.fin
        have UB : Hid _ := ub
        clear ub HN5
        refine wpAnyH_ready (rs := [6]) (by kernel_rfl) (by simp) ?_
        refine AllReadyH.cons rfl (fun K hK => ?_) AllReadyH.nil
        go_simp
        refine hK.out _ _ (HSS.out _ UB.out) (fun hHeld6 => ?_)
        clear hK K hHeld5
        refine wpAnyH_ready (rs := [7]) (by kernel_rfl) (by simp) ?_
        refine AllReadyH.cons rfl (fun K hK => ?_) AllReadyH.nil
        go_simp
        refine hK.out _ _ (HSS.out _ HFN.out.box) (fun hHeld7 => ?_)
        clear hK K hHeld6
        refine wpAnyH_done (by kernel_rfl) ?_ _
        try go_wp2_with fail
        go_meet
        case rel => exact ⟨_, _, _, _, rfl, rfl, HFN⟩
    · go_simp
      have HN2 : Hid _ := NdF.allocB HN1.out
      refine hK.out _ _ (HSS.out _ HN2.out.box) (fun hHeld2 => ?_)
      clear hK K HN1 hHeld1
      generalize wz.alloc (.cells #[.slice none 0 0] 31) = wn2 at *
      refine wpAnyH_ready (rs := [1, 4]) (by kernel_rfl) (by simp) ?_
      refine (AllReadyH.cons rfl (fun K hK => ?_) (AllReadyH.cons rfl (fun K hK => ?_) AllReadyH.nil))
      · go_simp
        go_wp2_with (go_at_call 30; refine (HOP.out _ HN2.out.bl).mono ?_; rintro e wd3 ⟨rfl, hd, hbd⟩)
        have HN3 : Hid _ := NdF.ownC HN2.out hbd hd
        clear hd
        refine hK.out _ _ (HSS.out _ HN3.out.box) (fun hHeld3 => ?_)
        clear hK K HN2 hHeld2
        clear hbd
        refine wpAnyH_ready (rs := [3, 4]) (by kernel_rfl) (by simp) ?_
        refine (AllReadyH.cons rfl (fun K hK => ?_) (AllReadyH.cons rfl (fun K hK => ?_) AllReadyH.nil))
        · go_simp
          go_wp2_with (go_at_call 19; refine (HHT.out _ HN3.out.bl).mono ?_; rintro e wd4 ⟨EB, E, rfl, hrow, hEl, hEf, _, hbd⟩)
          have HN4 : Hid _ := NdF.havC HN3.out hbd hrow hEl hEf
          clear hrow hEl hEf
          refine hK.out _ _ (HSS.out _ HN4.out.box) (fun hHeld4 => ?_)
          clear hK K HN3 hHeld3
          clear hbd
          refine wpAnyH_ready (rs := [4]) (by kernel_rfl) (by simp) ?_
          refine (AllReadyH.cons rfl (fun K hK => ?_) AllReadyH.nil)
          go_simp
          have HN5 : Hid _ := NdF.allocA HN4.out
          refine hK.out _ _ (HSS.out _ HN5.out.box) (fun hHeld5 => ?_)
          clear hK K HN4 hHeld4
          generalize wd4.alloc (.cells #[.slice none 0 0] 58) = wn5 at *
          obtain ⟨⟨va0, va1, va2⟩, ub, vb0, vb1, vb2⟩ := NdF.leaf HN5.out
          have HFN : Hid _ := HN5.out.fin
          have UB : Hid _ := ub
          clear ub HN5
          refine wpAnyH_ready (rs := [6]) (by kernel_rfl) (by simp) ?_
          refine AllReadyH.cons rfl (fun K hK => ?_) AllReadyH.nil
          go_simp
          refine hK.out _ _ (HSS.out _ UB.out) (fun hHeld6 => ?_)
          clear hK K hHeld5
          refine wpAnyH_ready (rs := [7]) (by kernel_rfl) (by simp) ?_
          refine AllReadyH.cons rfl (fun K hK => ?_) AllReadyH.nil
          go_simp
          refine hK.out _ _ (HSS.out _ HFN.out.box) (fun hHeld7 => ?_)
          clear hK K hHeld6
          refine wpAnyH_done (by kernel_rfl) ?_ _
          try go_wp2_with fail
          go_meet
          case rel => exact ⟨_, _, _, _, rfl, rfl, HFN⟩
        · go_simp
          have HN4 : Hid _ := NdF.allocA HN3.out
          refine hK.out _ _ (HSS.out _ HN4.out.box) (fun hHeld4 => ?_)
          clear hK K HN3 hHeld3
          generalize wd3.alloc (.cells #[.slice none 0 0] 58) = wn4 at *
          refine wpAnyH_ready (rs := [3]) (by kernel_rfl) (by simp) ?_
          refine (AllReadyH.cons rfl (fun K hK => ?_) AllReadyH.nil)
          go_simp
          go_wp2_with (go_at_call 19; refine (HHT.out _ HN4.out.bl).mono ?_; rintro e wd5 ⟨EB, E, rfl, hrow, hEl, hEf, _, hbd⟩)
          have HN5 : Hid _ := NdF.havC HN4.out hbd hrow hEl hEf
          clear hrow hEl hEf
          refine hK.out _ _ (HSS.out _ HN5.out.box) (fun hHeld5 => ?_)
          clear hK K HN4 hHeld4
          clear hbd
          obtain ⟨⟨va0, va1, va2⟩, ub, vb0, vb1, vb2⟩ := NdF.leaf HN5.out
          have HFN : Hid _ := HN5.out.fin
          have UB : Hid _ := ub
          clear ub HN5
          refine wpAnyH_ready (rs := [6]) (by kernel_rfl) (by simp) ?_
          refine AllReadyH.cons rfl (fun K hK => ?_) AllReadyH.nil
          go_simp
          refine hK.out _ _ (HSS.out _ UB.out) (fun hHeld6 => ?_)
          clear hK K hHeld5
          refine wpAnyH_ready (rs := [7]) (by kernel_rfl) (by simp) ?_
          refine AllReadyH.cons rfl (fun K hK => ?_) AllReadyH.nil
          go_simp
          refine hK.out _ _ (HSS.out _ HFN.out.box) (fun hHeld7 => ?_)
          clear hK K hHeld6
          refine wpAnyH_done (by kernel_rfl) ?_ _
          try go_wp2_with fail
          go_meet
          case rel => exact ⟨_, _, _, _, rfl, rfl, HFN⟩
      · go_simp
        have HN3 : Hid _ := NdF.allocA HN2.out
        refine hK.out _ _ (HSS.out _ HN3.out.box) (fun hHeld3 => ?_)
        clear hK K HN2 hHeld2
        generalize wn2.alloc (.cells #[.slice none 0 0] 58) = wn3 at *
        refine wpAnyH_ready (rs := [1]) (by kernel_rfl) (by simp) ?_
        refine (AllReadyH.cons rfl (fun K hK => ?_) AllReadyH.nil)
        go_simp
        go_wp2_with (go_at_call 30; refine (HOP.out _ HN3.out.bl).mono ?_; rintro e wd4 ⟨rfl, hd, hbd⟩)
        have HN4 : Hid _ := NdF.ownC HN3.out hbd hd
        clear hd
        refine hK.out _ _ (HSS.out _ HN4.out.box) (fun hHeld4 => ?_)
        clear hK K HN3 hHeld3
        clear hbd
        refine wpAnyH_ready (rs := [3]) (by kernel_rfl) (by simp) ?_
        refine (AllReadyH.cons rfl (fun K hK => ?_) AllReadyH.nil)
        go_simp
        go_wp2_with (go_at_call 19; refine (HHT.out _ HN4.out.bl).mono ?_; rintro e wd5 ⟨EB, E, rfl, hrow, hEl, hEf, _, hbd⟩)
        have HN5 : Hid _ := NdF.havC HN4.out hbd hrow hEl hEf
        clear hrow hEl hEf
        refine hK.out _ _ (HSS.out _ HN5.out.box) (fun hHeld5 => ?_)
        clear hK K HN4 hHeld4
        clear hbd
        obtain ⟨⟨va0, va1, va2⟩, ub, vb0, vb1, vb2⟩ := NdF.leaf HN5.out
        have HFN : Hid _ := HN5.out.fin
        have UB : Hid _ := ub
        clear ub HN5
        refine wpAnyH_ready (rs := [6]) (by kernel_rfl) (by simp) ?_
        refine AllReadyH.cons rfl (fun K hK => ?_) AllReadyH.nil
        go_simp
        refine hK.out _ _ (HSS.out _ UB.out) (fun hHeld6 => ?_)
        clear hK K hHeld5
        refine wpAnyH_ready (rs := [7]) (by kernel_rfl) (by simp) ?_
        refine AllReadyH.cons rfl (fun K hK => ?_) AllReadyH.nil
        go_simp
        refine hK.out _ _ (HSS.out _ HFN.out.box) (fun hHeld7 => ?_)
        clear hK K hHeld6
        refine wpAnyH_done (by kernel_rfl) ?_ _
        try go_wp2_with fail
        go_meet
        case rel => exact ⟨_, _, _, _, rfl, rfl, HFN⟩
  case rest =>
    obtain ⟨a, b, EB, E, rfl, rfl, HF⟩ := hcut
    obtain ⟨q0, q1, q2, q3, q4, q5, q6⟩ := HF.out.box
    simp only at q0 q1 q2 q3 q4 q5 q6
    have hWi := within_any t s N ps ls ss (.slice pa ps.length pc) lv sv wc hG.n hG.len hG.pd (HP.out.below HF.out.bl)
    unfold gv gvs at hWi
    simp only at hWi
    clear HOP HHT HN0 HSS
    go_wp2_with fail
    refine hWi.mono ?_
    rintro e w4 ⟨rfl, ⟨cnt, hlnk, hcb⟩, hb4⟩
    clear hWi q0 q1 q2 q3 q4 q5 q6
    have hen : ∀ args w, (callFunc 45 args).run Tryd.prog w = .ok (.enter 45 args) w := enters_of Tryd.func45 (by kernel_rfl) rfl
    have hSy : SaysM w4 45 (.pointer (some ⟨a, 0, none⟩)) (.pointer (some ⟨b, 0, none⟩)) N (sayF (hgtB false (prsS ps) N) ps) := by
      intro w' L B n hn hL hlt hv hb
      have hc := firstsC_any N hG.n (ownL ps n) (Nat.le_trans (ownL_len ps n) hG.len) (fun p hp => (hG.mem (List.mem_filter.1 hp).1).2) (fun p hp => hTr.row hT8 hp) E EB b a (ownL ps) L B n hn rfl w' hL hlt HF.out.len hv ((HF.out.own.below hb4).below hb) ((HF.out.emp.below hb4).below hb)
      rw [show factB E = hgtB false (prsS ps) N from funext HF.out.fct] at hc
      exact hc
    have hLe := leastM_any N hN1 hG.n _ _ _ 8000 (by omega) (sayF_ok hG hT8 hTr) 45 hen (.pointer (some ⟨a, 0, none⟩)) (.pointer (some ⟨b, 0, none⟩)) w4 (wc.heap.size + 1) _ cnt hlnk (fun n _ => hcb n) (fun n k _ hk => hG.link n k hk) hSy
    unfold mkV mkA at hLe
    rw [show (((0 : Nat) : Int)) = 0 from rfl] at hLe
    have hbx : Below w.heap.size w w4 := HF.out.bl.trans (hb4.mono HF.out.bl.size)
    clear hSy hlnk hcb
    go_wp2_with fail
    refine hLe.mono ?_
    rintro e w5 ⟨B, L, rfl, hrow, hwk, hB, hb5⟩
    have HRw : Hid (RowM w5 B L) := hrow
    have HWk : Hid (∀ n, n < N → ∀ i, ((factM L n).testBit i = true ↔ fstP N ps n i)) := fun n hn i => hwk.firsts hG n i hn
    have HLv : Hid (∀ n, n < N → hgtB true (prsS ps) N n = true → factM L n ≠ 0 ∨ hgtB false (prsS ps) N n = true) := fun n hn => hwk.lives hG N n hn
    have HLn : Hid (L.length = N) := hwk.len
    have HLt : Hid (∀ n, factM L n < 512) := hwk.lt
    have hB2 : w.heap.size ≤ B := Nat.le_trans hbx.size hB
    have hb6 := hbx.trans (hb5.mono hbx.size)
    clear hrow hwk hLe hB hb5 HF
    go_wp2
    go_ret
    exact ⟨B, L, rfl, HRw.out, HLn.out, HLt.out, HWk.out, HLv.out, hB2, hb6⟩

end Go.Proofs.YtmkimaceioacgaaDoor
