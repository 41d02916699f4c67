/- Texts of the proof, put together: APsr, APsrB, APsrC. -/
import Derived.Test.YtgmmfpdekefamaaGreatDoorAt11
import Derived.Deep.RegionWith
namespace Go.Proofs.YtgmmfpdekefamaaGreatDoor
open Go.RowKit
set_option linter.unusedVariables false
set_option maxRecDepth 100000

/-- the globals stand -/
def EnvA (W0 w : World) : Prop := 16 ≤ w.heap.size ∧ ∀ k, k < 16 → w.heap[k]? = W0.heap[k]?
theorem EnvA.grown {W0 w w' : World} {R : Nat} (h : EnvA W0 w) (hg : w.grownBy w' (some R)) (hR : 16 ≤ R) : EnvA W0 w' :=
 ⟨Nat.le_trans h.1 hg.size, fun k hk => (hg.block k (Nat.lt_of_lt_of_le hk h.1) (fun e => by cases e; omega)).trans (h.2 k hk)⟩
theorem EnvA.below {W0 w w' : World} (h : EnvA W0 w) (hb : Below w.heap.size w w') : EnvA W0 w' :=
 ⟨Nat.le_trans h.1 hb.size, fun k hk => (hb.block k (Nat.lt_of_lt_of_le hk h.1)).trans (h.2 k hk)⟩
/-- the two errors are errors -/
structure LibA (W0 : World) : Prop where
 syn : ∃ te pe, W0.cell? ⟨0, 0, none⟩ = some (.iface te pe)
 bnd : ∃ te pe, W0.cell? ⟨1, 0, none⟩ = some (.iface te pe)
theorem EnvA.syn {W0 w : World} (L : LibA W0) (h : EnvA W0 w) : ∃ te pe, w.cell? ⟨0, 0, none⟩ = some (.iface te pe) := by
 obtain ⟨te, pe, e⟩ := L.syn
 exact ⟨te, pe, (World.cell?_of_block (a := ⟨0, 0, none⟩) (h.2 0 (by omega))).trans e⟩
theorem grownA_below {w w' : World} (h : Below w.heap.size w w') (row : Option Nat) : w.grownBy w' row := ⟨h.os, h.tape, h.output, h.size, fun k hk _ => h.block k hk⟩
theorem grownA_drewN (w : World) (n : Nat) (row : Option Nat) : w.grownBy (w.drewN n) row := ⟨rfl, rfl, rfl, Nat.le_refl _, fun _ _ _ => rfl⟩
theorem grownA_undrew {w w' : World} {n : Nat} {row : Option Nat} (h : (w.drewN n).grownBy w' row) : w.grownBy w' row := ⟨h.os, h.tape, h.output, h.size, h.block⟩
theorem grownA_drewR {w w' : World} {n : Nat} {row : Option Nat} (h : w.grownBy w' row) : w.grownBy (w'.drewN n) row := ⟨h.os, h.tape, h.output, h.size, h.block⟩

theorem gT {a w w' : World} {row : Option Nat} (h : a.grownBy w row) (k : w.grownBy w' row) : a.grownBy w' row :=
 ⟨k.os.trans h.os, k.tape.trans h.tape, k.output.trans h.output, Nat.le_trans h.size k.size, fun b hb hne => (k.block b (Nat.lt_of_lt_of_le hb h.size) hne).trans (h.block b hb hne)⟩
theorem gSet (w : World) (b i : Nat) (v : Value) : w.grownBy (w.setCell ⟨b, i, none⟩ v) (some b) :=
 ⟨rfl, rfl, rfl, by simp [World.setCell], fun k _ hk => Below.heap_setCell _ _ _ _ (fun e => hk (by simp [e]))⟩
theorem gSetB {a w : World} {b : Nat} (h : a.grownBy w (some b)) (i : Nat) (v : Value) : a.grownBy (w.setCell ⟨b, i, none⟩ v) (some b) := gT h (gSet w b i v)
/-- the parser's block -/
def PsAt (w : World) (R : Nat) (s : ByteArray) (t : Tok) (bad : Value) (z : Int) : Prop := w.heap[R]? = some (.cells #[.string s, .bool false, .int .i64 t.kind, .string t.text, .int .i64 t.fr, .int .i64 t.fin, .int .i64 t.num, bad, .int .i64 z] 73 (0, 0))
theorem PsAt.lt {w : World} {R : Nat} {s : ByteArray} {t : Tok} {bad : Value} {z : Int} (h : PsAt w R s t bad z) : R < w.heap.size := (Array.getElem?_eq_some_iff.1 h).1
theorem PsAt.cells {w : World} {R : Nat} {s : ByteArray} {t : Tok} {bad : Value} {z : Int} (h : PsAt w R s t bad z) : w.cell? ⟨R, 0, none⟩ = some (.string s) ∧ w.cell? ⟨R, 1, none⟩ = some (.bool false) ∧ w.cell? ⟨R, 2, none⟩ = some (.int .i64 t.kind) ∧ w.cell? ⟨R, 3, none⟩ = some (.string t.text) ∧ w.cell? ⟨R, 4, none⟩ = some (.int .i64 t.fr) ∧ w.cell? ⟨R, 5, none⟩ = some (.int .i64 t.fin) ∧ w.cell? ⟨R, 6, none⟩ = some (.int .i64 t.num) ∧ w.cell? ⟨R, 7, none⟩ = some bad ∧ w.cell? ⟨R, 8, none⟩ = some (.int .i64 z) :=
 ⟨cellsAtA h 0 _ rfl, cellsAtA h 1 _ rfl, cellsAtA h 2 _ rfl, cellsAtA h 3 _ rfl, cellsAtA h 4 _ rfl, cellsAtA h 5 _ rfl, cellsAtA h 6 _ rfl, cellsAtA h 7 _ rfl, cellsAtA h 8 _ rfl⟩
theorem PsAt.fz {w : World} {R : Nat} {s : ByteArray} {t : Tok} {bad : Value} {z : Int} (h : PsAt w R s t bad z) (j : Nat) : w.frozen? ⟨R, j, none⟩ = false := by unfold PsAt at h; simp [World.frozen?, h]
theorem PsAt.kept {w w' : World} {R : Nat} {s : ByteArray} {t : Tok} {bad : Value} {z : Int} (h : PsAt w R s t bad z) (hg : w.grownBy w' none) : PsAt w' R s t bad z := (hg.block R h.lt (by simp)).trans h
theorem PsAt.setBad {w : World} {R : Nat} {s : ByteArray} {t : Tok} {bad : Value} {z : Int} (h : PsAt w R s t bad z) (e : Value) (y : Int) : PsAt ((w.setCell ⟨R, 7, none⟩ e).setCell ⟨R, 8, none⟩ (.int .i64 y)) R s t e y := heap_setCell_same _ R 8 _ 73 _ (heap_setCell_same w R 7 _ 73 _ h)
/-- the next token is put in -/
def putP (w : World) (R : Nat) (t : Tok) : World := ((((w.setCell ⟨R, 2, none⟩ (.int .i64 t.kind)).setCell ⟨R, 3, none⟩ (.string t.text)).setCell ⟨R, 4, none⟩ (.int .i64 t.fr)).setCell ⟨R, 5, none⟩ (.int .i64 t.fin)).setCell ⟨R, 6, none⟩ (.int .i64 t.num)
theorem PsAt.put {w : World} {R : Nat} {s : ByteArray} {t : Tok} {bad : Value} {z : Int} (h : PsAt w R s t bad z) (u : Tok) : PsAt (putP w R u) R s u bad z :=
 heap_setCell_same _ R 6 _ 73 _ (heap_setCell_same _ R 5 _ 73 _ (heap_setCell_same _ R 4 _ 73 _ (heap_setCell_same _ R 3 _ 73 _ (heap_setCell_same w R 2 _ 73 _ h))))
theorem grown_putP {w w' : World} {R : Nat} (h : w.grownBy w' (some R)) (t : Tok) : w.grownBy (putP w' R t) (some R) :=
 gSetB (gSetB (gSetB (gSetB (gSetB h 2 _) 3 _) 4 _) 5 _) 6 _

/-- what a token of the text is like -/
def TokOk (s : ByteArray) (t : Tok) : Prop := t.kind ≠ 7 ∧ t.fr ≤ s.size ∧ t.fin ≤ s.size ∧ (t.kind ≠ 0 → t.fr < t.fin)
/-- the parser stands at a token, or something is wrong (none) -/
structure PX (W0 w : World) (R : Nat) (s : ByteArray) (o : Option Tok) : Prop where
 env : EnvA W0 w
 r16 : 16 ≤ R
 text : s.size ≤ 70000
 lt : R < w.heap.size
 good : ∀ t, o = some t → TokOk s t ∧ ∃ z, PsAt w R s t .nilIface z
 bad : o = none → ∃ (t : Tok) (te : TypeId) (pe : Value) (z : Int), t.fr ≤ s.size ∧ PsAt w R s t (.iface te pe) z
theorem PX.kept {W0 w w' : World} {R : Nat} {s : ByteArray} {o : Option Tok} (h : PX W0 w R s o) (hg : w.grownBy w' none) : PX W0 w' R s o := by
 have hg' : w.grownBy w' (some R) := ⟨hg.os, hg.tape, hg.output, hg.size, fun k hk _ => hg.block k hk (by simp)⟩
 refine ⟨h.env.grown hg' h.r16, h.r16, h.text, Nat.lt_of_lt_of_le h.lt hg.size, fun t ht => ?_, fun ht => ?_⟩
 ·obtain ⟨h1, z, h2⟩ := h.good t ht
  exact ⟨h1, z, h2.kept hg⟩
 ·obtain ⟨t, te, pe, z, h1, h2⟩ := h.bad ht
  exact ⟨t, te, pe, z, h1, h2.kept hg⟩
theorem PX.drewN {W0 w : World} {R : Nat} {s : ByteArray} {o : Option Tok} (h : PX W0 w R s o) (n : Nat) : PX W0 (w.drewN n) R s o := h.kept (grownA_drewN w n none)
theorem PX.below {W0 w w' : World} {R : Nat} {s : ByteArray} {o : Option Tok} (h : PX W0 w R s o) (hb : Below w.heap.size w w') : PX W0 w' R s o := h.kept (grownA_below hb none)
theorem PX.ofGood {W0 w w' : World} {R : Nat} {s : ByteArray} {o : Option Tok} {t : Tok} {z : Int} (h : PX W0 w R s o) (hg : w.grownBy w' (some R)) (ht : TokOk s t) (hp : PsAt w' R s t .nilIface z) : PX W0 w' R s (some t) :=
 ⟨h.env.grown hg h.r16, h.r16, h.text, hp.lt, fun t' e => (by cases e; exact ⟨ht, z, hp⟩), fun e => (by cases e)⟩
/-- the cells, whatever the state -/
theorem PX.cells {W0 w : World} {R : Nat} {s : ByteArray} {o : Option Tok} (h : PX W0 w R s o) : ∃ (t : Tok) (b : Value) (z : Int), PsAt w R s t b z ∧ t.fr ≤ s.size ∧ ((o = some t ∧ b = .nilIface ∧ TokOk s t) ∨ (o = none ∧ ∃ te pe, b = .iface te pe)) := by
 cases o with
 | none => obtain ⟨t, te, pe, z, h1, h2⟩ := h.bad rfl; exact ⟨t, _, z, h2, h1, .inr ⟨rfl, te, pe, rfl⟩⟩
 | some t => obtain ⟨h1, z, h2⟩ := h.good t rfl; exact ⟨t, _, z, h2, h1.2.1, .inl ⟨rfl, rfl, h1⟩⟩

/-- the parser, whatever its state -/
structure PY (W0 w : World) (R : Nat) (s : ByteArray) (t : Tok) (b : Value) : Prop where
 env : EnvA W0 w
 r16 : 16 ≤ R
 text : s.size ≤ 70000
 fr : t.fr ≤ s.size
 at_ : ∃ z, PsAt w R s t b z
 bad : b = .nilIface ∨ ∃ te pe, b = .iface te pe
theorem PX.weak {W0 w : World} {R : Nat} {s : ByteArray} {o : Option Tok} (h : PX W0 w R s o) : ∃ t b, PY W0 w R s t b := by
 obtain ⟨t, b, z, hp, hf, ⟨rfl, rfl, hok⟩ | ⟨rfl, te', pe', rfl⟩⟩ := h.cells
 ·exact ⟨t, _, h.env, h.r16, h.text, hf, ⟨z, hp⟩, .inl rfl⟩
 ·exact ⟨t, _, h.env, h.r16, h.text, hf, ⟨z, hp⟩, .inr ⟨te', pe', rfl⟩⟩
theorem PY.drewN {W0 w : World} {R : Nat} {s : ByteArray} {t : Tok} {b : Value} (h : PY W0 w R s t b) (n : Nat) : PY W0 (w.drewN n) R s t b := by
 obtain ⟨z, hp⟩ := h.at_
 exact ⟨h.env, h.r16, h.text, h.fr, ⟨z, hp⟩, h.bad⟩
theorem PY.toBad {W0 w w' : World} {R : Nat} {s : ByteArray} {t : Tok} {b : Value} {te : TypeId} {pe : Value} {z : Int} (h : PY W0 w R s t b) (hg : w.grownBy w' (some R)) (hp : PsAt w' R s t (.iface te pe) z) : PX W0 w' R s none :=
 ⟨h.env.grown hg h.r16, h.r16, h.text, hp.lt, fun t' e => (by cases e), fun _ => ⟨t, te, pe, z, h.fr, hp⟩⟩
theorem grownA_refl (w : World) (row : Option Nat) : w.grownBy w row := ⟨rfl, rfl, rfl, Nat.le_refl _, fun _ _ _ => rfl⟩

set_option maxHeartbeats 1000000 in
theorem pfail_any {W0 w : World} {R : Nat} {s : ByteArray} {t : Tok} {b : Value} (h : PY W0 w R s t b) (te : TypeId) (pe : Value) (y : Int) :
  Calls Tryz.prog 60 #[.pointer (some ⟨R, 0, none⟩), .iface te pe, .int .i64 y] w fun e w' => e = .returned (.tuple #[]) ∧ w.grownBy w' (some R) ∧ PX W0 w' R s none := by
 have HX : Hid (PY W0 w R s t b) := h
 obtain ⟨z, hp⟩ := h.at_
 rcases h.bad with rfl | ⟨te', pe', rfl⟩
 ·obtain ⟨_, _, _, _, _, _, _, c7, c8⟩ := hp.cells
  have f7 := hp.fz 7
  have f8 := hp.fz 8
  have HP : Hid (PsAt w R s t .nilIface z) := hp
  clear h hp
  go_enter Tryz.func60, Tryz.ntmps60
  go_wp2
  go_end0
  have hg2 : w.grownBy ((w.setCell ⟨R, 7, none⟩ (.iface te pe)).setCell ⟨R, 8, none⟩ (.int .i64 y)) (some R) := gSetB (gSet w R 7 _) 8 _
  exact ⟨rfl, hg2, HX.out.toBad hg2 (HP.out.setBad _ _)⟩
 ·obtain ⟨_, _, _, _, _, _, _, c7, c8⟩ := hp.cells
  have HP : Hid (PsAt w R s t (.iface te' pe') z) := hp
  clear h hp
  go_enter Tryz.func60, Tryz.ntmps60
  go_wp2
  go_end0
  exact ⟨rfl, grownA_refl w _, HX.out.toBad (grownA_refl w _) HP.out⟩

set_option maxHeartbeats 2000000 in
theorem pwrong_weak {W0 w : World} (L : LibA W0) {R : Nat} {s : ByteArray} {t : Tok} {b : Value} (h : PY W0 w R s t b) :
  Calls Tryz.prog 32 #[.pointer (some ⟨R, 0, none⟩)] w fun e w' => e = .returned (.tuple #[]) ∧ w.grownBy w' (some R) ∧ PX W0 w' R s none := by
 obtain ⟨te, pe, cs⟩ := h.env.syn L
 obtain ⟨z, hp⟩ := h.at_
 obtain ⟨_, _, _, _, c4, _, _, _, _⟩ := hp.cells
 have HF : Hid (∀ n, Calls Tryz.prog 60 #[.pointer (some ⟨R, 0, none⟩), .iface te pe, .int .i64 t.fr] (w.drewN n) fun e w' => e = .returned (.tuple #[]) ∧ w.grownBy w' (some R) ∧ PX W0 w' R s none) := fun n => by
  refine (pfail_any (h.drewN n) te pe t.fr).mono ?_
  rintro e w' ⟨h1, h2, h3⟩
  exact ⟨h1, grownA_undrew h2, h3⟩
 clear h hp
 go_enter Tryz.func32, Tryz.ntmps32
 go_wp2
 go_region_with (go_at_call 60; refine (HF.out _).mono ?_; rintro e w' ⟨rfl, hg, hB⟩)
 all_goals
  go_wp2
  go_end0
  exact ⟨rfl, hg, hB⟩
theorem pwrong_any {W0 w : World} (L : LibA W0) {R : Nat} {s : ByteArray} {o : Option Tok} (h : PX W0 w R s o) :
  Calls Tryz.prog 32 #[.pointer (some ⟨R, 0, none⟩)] w fun e w' => e = .returned (.tuple #[]) ∧ w.grownBy w' (some R) ∧ PX W0 w' R s none := by
 obtain ⟨t, b, hY⟩ := h.weak
 exact pwrong_weak L hY

end Go.Proofs.YtgmmfpdekefamaaGreatDoor

namespace Go.Proofs.YtgmmfpdekefamaaGreatDoor
open Go.RowKit
set_option linter.unusedVariables false
set_option maxRecDepth 100000

def nextS (s : ByteArray) (o : Option Tok) : Option Tok := o.bind fun t => cutE s t.fin
def isS (x : List UInt8) : Option Tok → Bool
 | none => false
 | some t => (decide (t.kind = 6) || decide (t.kind = 4)) && (t.text.toList == x)
def eatS (s : ByteArray) (x : List UInt8) (o : Option Tok) : Option Tok := if isS x o = true then nextS s o else o
def needS (s : ByteArray) (x : List UInt8) (o : Option Tok) : Option Tok := if isS x o = true then nextS s o else none
def namedS : Option Tok → Bool
 | none => false
 | some t => decide (t.kind = 4) && (!(keptL t.text.toList) && (kidsL t.text.toList == 0))
def nameS (s : ByteArray) (o : Option Tok) : Option Tok := if namedS o = true then nextS s o else none

set_option maxHeartbeats 4000000 in
theorem pnext_any {W0 w : World} (L : LibA W0) {R : Nat} {s : ByteArray} {o : Option Tok} (h : PX W0 w R s o) :
  Calls Tryz.prog 30 #[.pointer (some ⟨R, 0, none⟩)] w fun e w' => e = .returned (.tuple #[]) ∧ w.grownBy w' (some R) ∧ PX W0 w' R s (nextS s o) := by
 have HX : Hid (PX W0 w R s o) := h
 obtain ⟨t, b, z, hp, hf, ⟨rfl, rfl, hok⟩ | ⟨rfl, te', pe', rfl⟩⟩ := h.cells
 ·obtain ⟨c0, c1, c2, c3, c4, c5, c6, c7, c8⟩ := hp.cells
  have hsz := h.text
  have hRw := h.lt
  have HP : Hid (PsAt w R s t .nilIface z) := hp
  have HC : Hid (∀ n, Calls Tryz.prog 55 #[.string s, .int .i64 t.fin, .bool false] (w.drewN n) fun e w' => ∃ u : Tok, e = .returned (tokV u) ∧ w.grownBy w' none ∧ u.fr ≤ s.size ∧ ((u.kind ≠ 7 ∧ nextS s (some t) = some u ∧ TokOk s u) ∨ (u.kind = 7 ∧ nextS s (some t) = none)) ∧ (w'.cell? ⟨R, 2, none⟩ = some (.int .i64 t.kind) ∧ w'.cell? ⟨R, 3, none⟩ = some (.string t.text) ∧ w'.cell? ⟨R, 4, none⟩ = some (.int .i64 t.fr) ∧ w'.cell? ⟨R, 5, none⟩ = some (.int .i64 t.fin) ∧ w'.cell? ⟨R, 6, none⟩ = some (.int .i64 t.num)) ∧ (w'.frozen? ⟨R, 2, none⟩ = false ∧ w'.frozen? ⟨R, 3, none⟩ = false ∧ w'.frozen? ⟨R, 4, none⟩ = false ∧ w'.frozen? ⟨R, 5, none⟩ = false ∧ w'.frozen? ⟨R, 6, none⟩ = false)) := fun n => by
   refine (rcut_e s t.fin hok.2.2.1 hsz (w.drewN n)).mono ?_
   rintro e w' ⟨hb, u, h1, h2, h3, h4⟩
   have hg : w.grownBy w' none := grownA_undrew (grownA_below hb none)
   have hp1 := HP.out.kept hg
   obtain ⟨_, _, q2, q3, q4, q5, q6, _, _⟩ := hp1.cells
   refine ⟨u, h1, hg, h3, ?_, ⟨q2, q3, q4, q5, q6⟩, hp1.fz 2, hp1.fz 3, hp1.fz 4, hp1.fz 5, hp1.fz 6⟩
   rcases h2 with ⟨a, b⟩ | ⟨a, b⟩
   ·exact .inl ⟨a, b, a, h3, h4, (cut_goes hok.2.2.1 b).2.2.2.1⟩
   ·exact .inr ⟨a, b⟩
  clear hp h hok
  go_enter Tryz.func30, Tryz.ntmps30
  go_wp2
  go_region_with (go_at_call 55; refine (HC.out _).mono ?_; rintro e w1 ⟨⟨uk, ux, uf, ut, un⟩, rfl, hg1, huf, hu, ⟨q2, q3, q4, q5, q6⟩, r2, r3, r4, r5, r6⟩; unfold tokV)
  all_goals
   have HPut : Hid (PsAt (putP w1 R ⟨uk, ux, uf, ut, un⟩) R s ⟨uk, ux, uf, ut, un⟩ .nilIface z) := (HP.out.kept hg1).put _
   have HG1 : Hid (w.grownBy (putP w1 R ⟨uk, ux, uf, ut, un⟩) (some R)) := grown_putP ⟨hg1.os, hg1.tape, hg1.output, hg1.size, fun k hk _ => hg1.block k hk (by simp)⟩ _
   unfold putP at HPut HG1
   simp only at HPut HG1
   have e2 := HPut.out.cells.2.2.1
   simp only at e2
   generalize ((((w1.setCell ⟨R, 2, none⟩ (.int .i64 uk)).setCell ⟨R, 3, none⟩ (.string ux)).setCell ⟨R, 4, none⟩ (.int .i64 uf)).setCell ⟨R, 5, none⟩ (.int .i64 ut)).setCell ⟨R, 6, none⟩ (.int .i64 un) = w2 at *
   clear q2 q3 q4 q5 q6 r2 r3 r4 r5 r6 hg1 c0 c1 c2 c3 c4 c5 c6 c7 c8
   have HU : Hid ((uk ≠ 7 ∧ nextS s (some t) = some ⟨uk, ux, uf, ut, un⟩ ∧ TokOk s ⟨uk, ux, uf, ut, un⟩) ∨ (uk = 7 ∧ nextS s (some t) = none)) := hu
   have hor : (uk == 7) = false ∨ (uk == 7) = true := by cases (uk == 7) <;> simp
   clear hu
   rcases hor with hk | hk
   ·go_wp2
    go_end0
    refine ⟨rfl, HG1.out, ?_⟩
    rcases HU.out with ⟨h1, h2, h3⟩ | ⟨h1, _⟩
    ·rw [h2]; exact HX.out.ofGood HG1.out h3 HPut.out
    ·rw [h1] at hk; cases hk
   ·have HW : Hid (Calls Tryz.prog 32 #[.pointer (some ⟨R, 0, none⟩)] w2 fun e w' => e = .returned (.tuple #[]) ∧ w2.grownBy w' (some R) ∧ PX W0 w' R s none) := pwrong_weak L ⟨HX.out.env.grown HG1.out HX.out.r16, HX.out.r16, hsz, huf, ⟨z, HPut.out⟩, .inl rfl⟩
    go_wp2_with fail
    go_at_call 32
    refine HW.out.mono ?_
    rintro e w3 ⟨rfl, hg3, hB3⟩
    go_wp2
    go_end0
    refine ⟨rfl, gT HG1.out hg3, ?_⟩
    rcases HU.out with ⟨h1, _⟩ | ⟨_, h2⟩
    ·rw [beq_iff_eq] at hk; exact absurd hk h1
    ·rw [h2]; exact hB3
 ·obtain ⟨_, _, _, _, _, _, _, c7, _⟩ := hp.cells
  clear h hp
  go_enter Tryz.func30, Tryz.ntmps30
  go_wp2
  refine bodyPost_ret (results_none rfl _ _ _) rfl ?_
  exact ⟨rfl, grownA_refl w _, HX.out⟩


set_option maxHeartbeats 4000000 in
theorem pis_any {W0 w : World} {R : Nat} {s : ByteArray} {o : Option Tok} (h : PX W0 w R s o) (x : ByteArray) :
  Calls Tryz.prog 116 #[.pointer (some ⟨R, 0, none⟩), .string x] w fun e w' => e = .returned (.bool (isS x.toList o)) ∧ ∃ n, w' = w.drewN n := by
 obtain ⟨t, b, z, hp, hf, ⟨rfl, rfl, hok⟩ | ⟨rfl, te', pe', rfl⟩⟩ := h.cells
 ·obtain ⟨c0, c1, c2, c3, c4, c5, c6, c7, c8⟩ := hp.cells
  have HV : Hid (isS x.toList (some t) = ((decide (t.kind = 6) || decide (t.kind = 4)) && (t.text.toList == x.toList))) := rfl
  have d6 : (t.kind == 6) = decide (t.kind = 6) := by by_cases h : t.kind = 6 <;> simp [h]
  have d4 : (t.kind == 4) = decide (t.kind = 4) := by by_cases h : t.kind = 4 <;> simp [h]
  rw [← d6, ← d4] at HV
  clear h hp hok d6 d4
  generalize t.kind = k at *
  generalize t.text = tx at *
  cases e6 : (k == 6)
  ·cases e4 : (k == 4)
   ·go_enter Tryz.func116, Tryz.ntmps116
    go_wp2
    first | go_quiet (fail) | skip
    go_wp2
    go_ret
    exact ⟨by rw [HV.out, e6, e4]; rfl, by first | exact ⟨0, rfl⟩ | exact ⟨_, rfl⟩⟩
   ·cases ex : (tx.toList == x.toList)
    all_goals
     go_enter Tryz.func116, Tryz.ntmps116
     go_wp2
     first | go_quiet (fail) | skip
     go_wp2
     go_ret
     exact ⟨by rw [HV.out, e6, e4, ex]; rfl, by first | exact ⟨0, rfl⟩ | exact ⟨_, rfl⟩⟩
  ·cases ex : (tx.toList == x.toList)
   all_goals
    go_enter Tryz.func116, Tryz.ntmps116
    go_wp2
    first | go_quiet (fail) | skip
    go_wp2
    go_ret
    exact ⟨by rw [HV.out, e6, ex]; rfl, by first | exact ⟨0, rfl⟩ | exact ⟨_, rfl⟩⟩
 ·obtain ⟨c0, c1, c2, c3, c4, c5, c6, c7, c8⟩ := hp.cells
  clear h hp
  go_enter Tryz.func116, Tryz.ntmps116
  go_wp2
  first | go_quiet (fail) | skip
  go_wp2
  go_ret
  exact ⟨rfl, by first | exact ⟨0, rfl⟩ | exact ⟨_, rfl⟩⟩

set_option maxHeartbeats 2000000 in
theorem peat_any {W0 w : World} (L : LibA W0) {R : Nat} {s : ByteArray} {o : Option Tok} (h : PX W0 w R s o) (x : ByteArray) :
  Calls Tryz.prog 56 #[.pointer (some ⟨R, 0, none⟩), .string x] w fun e w' => e = .returned (.bool (isS x.toList o)) ∧ w.grownBy w' (some R) ∧ PX W0 w' R s (eatS s x.toList o) := by
 have HI : Hid (Calls Tryz.prog 116 #[.pointer (some ⟨R, 0, none⟩), .string x] w fun e w' => e = .returned (.bool (isS x.toList o)) ∧ ∃ n, w' = w.drewN n) := pis_any h x
 have HX : Hid (PX W0 w R s o) := h
 have HE : Hid (eatS s x.toList o = if isS x.toList o = true then nextS s o else o) := rfl
 clear h
 cases hi : isS x.toList o
 ·rw [hi] at HI HE
  go_enter Tryz.func56, Tryz.ntmps56
  go_wp2_with fail
  go_at_call 116
  refine HI.out.mono ?_
  rintro e w1 ⟨rfl, n, rfl⟩
  go_wp2
  go_ret
  exact ⟨rfl, grownA_drewN w n _, by rw [HE.out]; exact HX.out.drewN n⟩
 ·rw [hi] at HI HE
  have HN : Hid (∀ n, Calls Tryz.prog 30 #[.pointer (some ⟨R, 0, none⟩)] (w.drewN n) fun e w' => e = .returned (.tuple #[]) ∧ (w.drewN n).grownBy w' (some R) ∧ PX W0 w' R s (nextS s o)) := fun n => pnext_any L (HX.out.drewN n)
  go_enter Tryz.func56, Tryz.ntmps56
  go_wp2_with fail
  go_at_call 116
  refine HI.out.mono ?_
  rintro e w1 ⟨rfl, n, rfl⟩
  go_wp2_with fail
  go_at_call 30
  refine (HN.out n).mono ?_
  rintro e w2 ⟨rfl, hg, hX2⟩
  go_wp2
  go_ret
  exact ⟨rfl, grownA_undrew hg, by rw [HE.out]; exact hX2⟩

set_option maxHeartbeats 2000000 in
theorem pneed_any {W0 w : World} (L : LibA W0) {R : Nat} {s : ByteArray} {o : Option Tok} (h : PX W0 w R s o) (x : ByteArray) :
  Calls Tryz.prog 58 #[.pointer (some ⟨R, 0, none⟩), .string x] w fun e w' => e = .returned (.tuple #[]) ∧ w.grownBy w' (some R) ∧ PX W0 w' R s (needS s x.toList o) := by
 have HI : Hid (Calls Tryz.prog 56 #[.pointer (some ⟨R, 0, none⟩), .string x] w fun e w' => e = .returned (.bool (isS x.toList o)) ∧ w.grownBy w' (some R) ∧ PX W0 w' R s (eatS s x.toList o)) := peat_any L h x
 have HE : Hid (eatS s x.toList o = if isS x.toList o = true then nextS s o else o) := rfl
 have HF : Hid (needS s x.toList o = if isS x.toList o = true then nextS s o else none) := rfl
 clear h
 cases hi : isS x.toList o
 ·rw [hi] at HI HE HF
  go_enter Tryz.func58, Tryz.ntmps58
  go_wp2_with fail
  go_at_call 56
  refine HI.out.mono ?_
  rintro e w1 ⟨rfl, hg1, hX1⟩
  have HW : Hid (Calls Tryz.prog 32 #[.pointer (some ⟨R, 0, none⟩)] w1 fun e w' => e = .returned (.tuple #[]) ∧ w1.grownBy w' (some R) ∧ PX W0 w' R s none) := pwrong_any L hX1
  go_wp2_with fail
  go_at_call 32
  refine HW.out.mono ?_
  rintro e w2 ⟨rfl, hg2, hX2⟩
  go_wp2
  go_end0
  exact ⟨rfl, gT hg1 hg2, by rw [HF.out]; exact hX2⟩
 ·rw [hi] at HI HE HF
  go_enter Tryz.func58, Tryz.ntmps58
  go_wp2_with fail
  go_at_call 56
  refine HI.out.mono ?_
  rintro e w1 ⟨rfl, hg1, hX1⟩
  go_wp2
  go_end0
  exact ⟨rfl, hg1, by rw [HF.out]; rw [HE.out] at hX1; exact hX1⟩

end Go.Proofs.YtgmmfpdekefamaaGreatDoor

namespace Go.Proofs.YtgmmfpdekefamaaGreatDoor
open Go.RowKit
set_option linter.unusedVariables false
set_option maxRecDepth 100000

set_option maxHeartbeats 4000000 in
theorem pnamed_any {W0 w : World} {R : Nat} {s : ByteArray} {o : Option Tok} (h : PX W0 w R s o) :
  Calls Tryz.prog 117 #[.pointer (some ⟨R, 0, none⟩)] w fun e w' => e = .returned (.bool (namedS o)) ∧ ∃ n, w' = w.drewN n := by
 obtain ⟨t, b, z, hp, hf, ⟨rfl, rfl, hok⟩ | ⟨rfl, te', pe', rfl⟩⟩ := h.cells
 ·obtain ⟨c0, c1, c2, c3, c4, c5, c6, c7, c8⟩ := hp.cells
  have HV : Hid (namedS (some t) = (decide (t.kind = 4) && (!(keptL t.text.toList) && (kidsL t.text.toList == 0)))) := rfl
  have HK : Hid (∀ w, Calls Tryz.prog 149 #[.string t.text] w fun e w' => e = .returned (.bool (keptL t.text.toList)) ∧ w' = w) := fun w => rkept_any t.text w
  have HD : Hid (∀ w, Calls Tryz.prog 90 #[.string t.text] w fun e w' => e = .returned (.int .i64 (kidsL t.text.toList)) ∧ w' = w) := fun w => rkids_any t.text w
  clear h hp hok
  generalize t.kind = k at *
  generalize t.text = tx at *
  generalize keptL tx.toList = kk at *
  generalize kidsL tx.toList = kd at *
  cases e4 : (k != 4)
  ·have e4' : k = 4 := by rw [bne_eq_false_iff_eq] at e4; exact e4
   cases kk
   ·have HV2 : Hid (namedS (some t) = (kd == 0)) := by show _ = _; rw [HV.out, e4']; simp
    clear HV
    go_enter Tryz.func117, Tryz.ntmps117
    go_wp2_with fail
    first | go_quiet (fail) | skip
    go_wp2_with fail
    go_at_call 149
    refine (HK.out _).mono ?_
    rintro e w1 ⟨rfl, hw⟩
    obtain rfl := hw.symm
    clear hw
    go_wp2_with fail
    go_at_call 90
    refine (HD.out _).mono ?_
    rintro e w2 ⟨rfl, hw⟩
    obtain rfl := hw.symm
    clear hw
    all_goals
     go_wp2
     go_ret
     exact ⟨by rw [HV2.out]; rfl, by first | exact ⟨0, rfl⟩ | exact ⟨_, rfl⟩⟩
   ·have HV2 : Hid (namedS (some t) = false) := by show _ = _; rw [HV.out]; simp
    clear HV
    go_enter Tryz.func117, Tryz.ntmps117
    go_wp2_with fail
    first | go_quiet (fail) | skip
    go_wp2_with fail
    go_at_call 149
    refine (HK.out _).mono ?_
    rintro e w1 ⟨rfl, hw⟩
    obtain rfl := hw.symm
    clear hw
    go_wp2
    first | go_quiet (fail) | skip
    go_wp2
    go_ret
    exact ⟨by rw [HV2.out]; rfl, by first | exact ⟨0, rfl⟩ | exact ⟨_, rfl⟩⟩
  ·have HV2 : Hid (namedS (some t) = false) := by
    show _ = _
    rw [HV.out, decide_eq_false (by rw [bne_iff_ne] at e4; exact e4)]
    rfl
   clear HV HK HD
   go_enter Tryz.func117, Tryz.ntmps117
   go_wp2
   first | go_quiet (fail) | skip
   go_wp2
   go_ret
   exact ⟨by rw [HV2.out]; rfl, by first | exact ⟨0, rfl⟩ | exact ⟨_, rfl⟩⟩
 ·obtain ⟨c0, c1, c2, c3, c4, c5, c6, c7, c8⟩ := hp.cells
  clear h hp
  go_enter Tryz.func117, Tryz.ntmps117
  go_wp2
  first | go_quiet (fail) | skip
  go_wp2
  go_ret
  exact ⟨rfl, by first | exact ⟨0, rfl⟩ | exact ⟨_, rfl⟩⟩

/-- the text of the token at which the parser stands -/
def textS : Option Tok → ByteArray
 | none => emptyT
 | some t => t.text

set_option maxHeartbeats 4000000 in
theorem pname_any {W0 w : World} (L : LibA W0) {R : Nat} {s : ByteArray} {o : Option Tok} (h : PX W0 w R s o) :
  Calls Tryz.prog 57 #[.pointer (some ⟨R, 0, none⟩)] w fun e w' => ∃ x, e = .returned (.string x) ∧ w.grownBy w' (some R) ∧ PX W0 w' R s (nameS s o) ∧ (namedS o = true → x = textS o) := by
 have HI : Hid (Calls Tryz.prog 117 #[.pointer (some ⟨R, 0, none⟩)] w fun e w' => e = .returned (.bool (namedS o)) ∧ ∃ n, w' = w.drewN n) := pnamed_any h
 have HX : Hid (PX W0 w R s o) := h
 have HE : Hid (nameS s o = if namedS o = true then nextS s o else none) := rfl
 obtain ⟨t, b, z, hp, hf, hh⟩ := h.cells
 obtain ⟨c0, c1, c2, c3, c4, c5, c6, c7, c8⟩ := hp.cells
 have HT : Hid (namedS o = true → t.text = textS o) := by
  rcases hh with ⟨rfl, _, _⟩ | ⟨rfl, _⟩
  ·exact fun _ => rfl
  ·exact fun h => by cases h
 clear h hp hh
 cases hi : namedS o
 ·rw [hi] at HI HE
  have HW : Hid (∀ n, Calls Tryz.prog 32 #[.pointer (some ⟨R, 0, none⟩)] (w.drewN n) fun e w' => e = .returned (.tuple #[]) ∧ (w.drewN n).grownBy w' (some R) ∧ PX W0 w' R s none) := fun n => pwrong_any L (HX.out.drewN n)
  go_enter Tryz.func57, Tryz.ntmps57
  go_wp2_with fail
  go_at_call 117
  refine HI.out.mono ?_
  rintro e w1 ⟨rfl, n, rfl⟩
  have d3 : (w.drewN n).cell? ⟨R, 3, none⟩ = some (.string t.text) := c3
  go_wp2_with fail
  go_at_call 32
  refine (HW.out n).mono ?_
  rintro e w2 ⟨rfl, hg2, hX2⟩
  go_wp2
  go_ret
  exact ⟨_, rfl, grownA_undrew hg2, by rw [HE.out]; exact hX2, fun h => by cases h⟩
 ·rw [hi] at HI HE
  have HW : Hid (∀ n, Calls Tryz.prog 30 #[.pointer (some ⟨R, 0, none⟩)] (w.drewN n) fun e w' => e = .returned (.tuple #[]) ∧ (w.drewN n).grownBy w' (some R) ∧ PX W0 w' R s (nextS s o)) := fun n => pnext_any L (HX.out.drewN n)
  go_enter Tryz.func57, Tryz.ntmps57
  go_wp2_with fail
  go_at_call 117
  refine HI.out.mono ?_
  rintro e w1 ⟨rfl, n, rfl⟩
  have d3 : (w.drewN n).cell? ⟨R, 3, none⟩ = some (.string t.text) := c3
  have d1 : (w.drewN n).cell? ⟨R, 1, none⟩ = some (.bool false) := c1
  go_wp2_with fail
  first | go_quiet (fail) | skip
  go_wp2_with fail
  go_at_call 30
  refine (HW.out n).mono ?_
  rintro e w2 ⟨rfl, hg2, hX2⟩
  go_wp2
  go_ret
  exact ⟨_, rfl, grownA_undrew hg2, by rw [HE.out]; exact hX2, fun _ => HT.out hi⟩

end Go.Proofs.YtgmmfpdekefamaaGreatDoor
