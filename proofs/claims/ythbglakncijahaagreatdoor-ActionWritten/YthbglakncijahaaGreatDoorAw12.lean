/- Texts of the proof, put together: ACutG, APsr. -/
import Derived.Test.YthbglakncijahaaGreatDoorAw07
import Derived.Test.YthbglakncijahaaGreatDoorAw11
import Derived.Deep.RegionWith
namespace Go.Proofs.YthbglakncijahaaGreatDoor
open Go.RowKit
set_option linter.unusedVariables false
set_option maxRecDepth 100000

theorem wholeZ_empty {s : ByteArray} (h : s.size = 0) : wholeZ s = none := by
  unfold wholeZ
  rw [if_neg (by omega), if_neg (by omega)]
theorem numE_goes {s : ByteArray} {i : Nat} {n : Int} {j : Nat} (hi : i ≤ s.size) (h : numE s i = some (n, j)) : i < j ∧ j ≤ s.size := by
  have hr := run_le digitB s hi
  unfold numE at h
  simp only at h
  cases hw : wholeZ (s.extract i (run digitB s i)) with
  | none => rw [hw] at h; cases h
  | some m =>
    rw [hw] at h
    simp only at h
    have hne : i ≠ run digitB s i := fun e => by
      have := wholeZ_empty (s := s.extract i (run digitB s i)) (by rw [ByteArray.size_extract]; omega)
      rw [this] at hw
      cases hw
    split at h
    · cases h
    · simp only [Option.some.injEq, Prod.mk.injEq] at h
      omega
theorem quoE_goes (s : ByteArray) : ∀ (f i : Nat) (t x : ByteArray) (j : Nat), quoE s f i t = some (x, j) → i < j ∧ j ≤ s.size
  | 0, i, t, x, j, h => by cases h
  | f + 1, i, t, x, j, h => by
    rw [quoE] at h
    by_cases h1 : i < s.size
    · rw [if_pos h1] at h
      split at h
      · cases h
      · split at h
        · simp only [Option.some.injEq, Prod.mk.injEq] at h; omega
        · split at h
          · have := quoE_goes s f _ _ _ _ h
            have hw := dec_width s i
            omega
          · split at h
            · split at h
              · have := quoE_goes s f _ _ _ _ h; omega
              · split at h
                · have := quoE_goes s f _ _ _ _ h; omega
                · split at h
                  · have := quoE_goes s f _ _ _ _ h; omega
                  · cases h
            · cases h
    · rw [if_neg h1] at h; cases h
theorem cut_goes {s : ByteArray} {p : Nat} {u : Tok} (hp : p ≤ s.size) (h : cutE s p = some u) : p ≤ u.fr ∧ u.fr ≤ s.size ∧ u.fin ≤ s.size ∧ (u.kind ≠ 0 → u.fr < u.fin) ∧ (u.kind = 0 → u.fr = s.size ∧ u.fin = s.size) ∧ u.kind ≠ 7 ∧ u.kind ≠ 5 := by
  have hr := run_le blankB s hp
  unfold cutE at h
  generalize run blankB s p = i at *
  unfold cutAt at h
  by_cases hi : i < s.size
  · rw [if_pos hi] at h
    split at h
    · cases hn : numE s i with
      | none => rw [hn] at h; cases h
      | some x =>
        obtain ⟨n, j⟩ := x
        rw [hn] at h
        obtain rfl := Option.some.inj h
        have := numE_goes (by omega) hn
        simp only
        refine ⟨by omega, by omega, by omega, fun _ => by omega, fun h => by omega, by omega, by omega⟩
    · split at h
      · cases hn : numE s (i + 1) with
        | none => rw [hn] at h; cases h
        | some x =>
          obtain ⟨n, j⟩ := x
          rw [hn] at h
          obtain rfl := Option.some.inj h
          have := numE_goes (by omega) hn
          simp only
          refine ⟨by omega, by omega, by omega, fun _ => by omega, fun h => by omega, by omega, by omega⟩
      · split at h
        · cases hn : quoE s (s.size - i) (i + 1) emptyT with
          | none => rw [hn] at h; cases h
          | some x =>
            obtain ⟨n, j⟩ := x
            rw [hn] at h
            obtain rfl := Option.some.inj h
            have := quoE_goes _ _ _ _ _ _ hn
            simp only
            refine ⟨by omega, by omega, by omega, fun _ => by omega, fun h => by omega, by omega, by omega⟩
        · split at h
          · rename_i hsm
            obtain rfl := Option.some.inj h
            have hw := run_le wordB s (show i ≤ s.size by omega)
            have hst : run wordB s i = run wordB s (i + 1) := run_step hi (by unfold wordB; rw [hsm]; rfl)
            have hw2 := run_le wordB s (show i + 1 ≤ s.size by omega)
            simp only
            refine ⟨by omega, by omega, by omega, fun _ => by omega, fun h => by omega, by omega, by omega⟩
          · split at h
            · rename_i hs
              obtain rfl := Option.some.inj h
              have : i + sgnE s i ≤ s.size := by
                unfold sgnE
                split
                · omega
                · split <;> omega
              simp only
              refine ⟨by omega, by omega, by omega, fun _ => by omega, fun h => by omega, by omega, by omega⟩
            · cases h
  · rw [if_neg hi] at h
    obtain rfl := Option.some.inj h
    simp only
    refine ⟨by omega, by omega, by omega, fun h => by omega, fun _ => by omega, by omega, by omega⟩

end Go.Proofs.YthbglakncijahaaGreatDoor

namespace Go.Proofs.YthbglakncijahaaGreatDoor
open Go.RowKit
set_option linter.unusedVariables false
set_option maxRecDepth 100000

/-- the globals stand -/
def EnvA (W0 w : World) : Prop := 16 ≤ w.heap.size ∧ ∀ k, k < 16 → w.heap[k]? = W0.heap[k]?
theorem EnvA.grown {W0 w w' : World} {R : Nat} (h : EnvA W0 w) (hg : w.grownBy w' (some R)) (hR : 16 ≤ R) : EnvA W0 w' :=
  ⟨Nat.le_trans h.1 hg.size, fun k hk => (hg.block k (Nat.lt_of_lt_of_le hk h.1) (fun e => by cases e; omega)).trans (h.2 k hk)⟩
theorem EnvA.below {W0 w w' : World} (h : EnvA W0 w) (hb : Below w.heap.size w w') : EnvA W0 w' :=
  ⟨Nat.le_trans h.1 hb.size, fun k hk => (hb.block k (Nat.lt_of_lt_of_le hk h.1)).trans (h.2 k hk)⟩
/-- the two errors are errors -/
structure LibA (W0 : World) : Prop where
  syn : ∃ te pe, W0.cell? ⟨0, 0, none⟩ = some (.iface te pe)
  bnd : ∃ te pe, W0.cell? ⟨1, 0, none⟩ = some (.iface te pe)
theorem EnvA.syn {W0 w : World} (L : LibA W0) (h : EnvA W0 w) : ∃ te pe, w.cell? ⟨0, 0, none⟩ = some (.iface te pe) := by
  obtain ⟨te, pe, e⟩ := L.syn
  exact ⟨te, pe, (World.cell?_of_block (a := ⟨0, 0, none⟩) (h.2 0 (by omega))).trans e⟩
theorem grownA_below {w w' : World} (h : Below w.heap.size w w') (row : Option Nat) : w.grownBy w' row := ⟨h.os, h.tape, h.output, h.size, fun k hk _ => h.block k hk⟩
theorem grownA_drewN (w : World) (n : Nat) (row : Option Nat) : w.grownBy (w.drewN n) row := ⟨rfl, rfl, rfl, Nat.le_refl _, fun _ _ _ => rfl⟩
theorem grownA_undrew {w w' : World} {n : Nat} {row : Option Nat} (h : (w.drewN n).grownBy w' row) : w.grownBy w' row := ⟨h.os, h.tape, h.output, h.size, h.block⟩
theorem grownA_drewR {w w' : World} {n : Nat} {row : Option Nat} (h : w.grownBy w' row) : w.grownBy (w'.drewN n) row := ⟨h.os, h.tape, h.output, h.size, h.block⟩

theorem gT {a w w' : World} {row : Option Nat} (h : a.grownBy w row) (k : w.grownBy w' row) : a.grownBy w' row :=
  ⟨k.os.trans h.os, k.tape.trans h.tape, k.output.trans h.output, Nat.le_trans h.size k.size, fun b hb hne => (k.block b (Nat.lt_of_lt_of_le hb h.size) hne).trans (h.block b hb hne)⟩
theorem gSet (w : World) (b i : Nat) (v : Value) : w.grownBy (w.setCell ⟨b, i, none⟩ v) (some b) :=
  ⟨rfl, rfl, rfl, by simp [World.setCell], fun k _ hk => Below.heap_setCell _ _ _ _ (fun e => hk (by simp [e]))⟩
theorem gSetB {a w : World} {b : Nat} (h : a.grownBy w (some b)) (i : Nat) (v : Value) : a.grownBy (w.setCell ⟨b, i, none⟩ v) (some b) := gT h (gSet w b i v)
theorem gAl {a w : World} {row : Option Nat} (h : a.grownBy w row) (o : Obj) : a.grownBy (w.alloc o) row := gT h (World.grownBy_alloc w o row)
/-- the parser's block -/
def PsAt (w : World) (R : Nat) (s : ByteArray) (t : Tok) (bad : Value) (z : Int) : Prop := w.heap[R]? = some (.cells #[.string s, .bool false, .int .i64 t.kind, .string t.text, .int .i64 t.fr, .int .i64 t.fin, .int .i64 t.num, bad, .int .i64 z] 73 (0, 0))
theorem PsAt.lt {w : World} {R : Nat} {s : ByteArray} {t : Tok} {bad : Value} {z : Int} (h : PsAt w R s t bad z) : R < w.heap.size := (Array.getElem?_eq_some_iff.1 h).1
theorem PsAt.cells {w : World} {R : Nat} {s : ByteArray} {t : Tok} {bad : Value} {z : Int} (h : PsAt w R s t bad z) : w.cell? ⟨R, 0, none⟩ = some (.string s) ∧ w.cell? ⟨R, 1, none⟩ = some (.bool false) ∧ w.cell? ⟨R, 2, none⟩ = some (.int .i64 t.kind) ∧ w.cell? ⟨R, 3, none⟩ = some (.string t.text) ∧ w.cell? ⟨R, 4, none⟩ = some (.int .i64 t.fr) ∧ w.cell? ⟨R, 5, none⟩ = some (.int .i64 t.fin) ∧ w.cell? ⟨R, 6, none⟩ = some (.int .i64 t.num) ∧ w.cell? ⟨R, 7, none⟩ = some bad ∧ w.cell? ⟨R, 8, none⟩ = some (.int .i64 z) :=
  ⟨cellsAtA h 0 _ rfl, cellsAtA h 1 _ rfl, cellsAtA h 2 _ rfl, cellsAtA h 3 _ rfl, cellsAtA h 4 _ rfl, cellsAtA h 5 _ rfl, cellsAtA h 6 _ rfl, cellsAtA h 7 _ rfl, cellsAtA h 8 _ rfl⟩
theorem PsAt.fz {w : World} {R : Nat} {s : ByteArray} {t : Tok} {bad : Value} {z : Int} (h : PsAt w R s t bad z) (j : Nat) : w.frozen? ⟨R, j, none⟩ = false := by unfold PsAt at h; simp [World.frozen?, h]
theorem PsAt.kept {w w' : World} {R : Nat} {s : ByteArray} {t : Tok} {bad : Value} {z : Int} (h : PsAt w R s t bad z) (hg : w.grownBy w' none) : PsAt w' R s t bad z := (hg.block R h.lt (by simp)).trans h
theorem PsAt.setBad {w : World} {R : Nat} {s : ByteArray} {t : Tok} {bad : Value} {z : Int} (h : PsAt w R s t bad z) (e : Value) (y : Int) : PsAt ((w.setCell ⟨R, 7, none⟩ e).setCell ⟨R, 8, none⟩ (.int .i64 y)) R s t e y := heap_setCell_same _ R 8 _ 73 _ (heap_setCell_same w R 7 _ 73 _ h)
/-- the next token is put in -/
def putP (w : World) (R : Nat) (t : Tok) : World := ((((w.setCell ⟨R, 2, none⟩ (.int .i64 t.kind)).setCell ⟨R, 3, none⟩ (.string t.text)).setCell ⟨R, 4, none⟩ (.int .i64 t.fr)).setCell ⟨R, 5, none⟩ (.int .i64 t.fin)).setCell ⟨R, 6, none⟩ (.int .i64 t.num)
theorem PsAt.put {w : World} {R : Nat} {s : ByteArray} {t : Tok} {bad : Value} {z : Int} (h : PsAt w R s t bad z) (u : Tok) : PsAt (putP w R u) R s u bad z :=
  heap_setCell_same _ R 6 _ 73 _ (heap_setCell_same _ R 5 _ 73 _ (heap_setCell_same _ R 4 _ 73 _ (heap_setCell_same _ R 3 _ 73 _ (heap_setCell_same w R 2 _ 73 _ h))))
theorem grown_putP {w w' : World} {R : Nat} (h : w.grownBy w' (some R)) (t : Tok) : w.grownBy (putP w' R t) (some R) :=
  gSetB (gSetB (gSetB (gSetB (gSetB h 2 _) 3 _) 4 _) 5 _) 6 _

/-- what a token of the text is like -/
def TokOk (s : ByteArray) (t : Tok) : Prop := t.kind ≠ 7 ∧ t.fr ≤ s.size ∧ t.fin ≤ s.size ∧ (t.kind ≠ 0 → t.fr < t.fin)
/-- the parser stands at a token, or something is wrong (none) -/
structure PX (W0 w : World) (R : Nat) (s : ByteArray) (o : Option Tok) : Prop where
  env : EnvA W0 w
  r16 : 16 ≤ R
  text : s.size ≤ 70000
  lt : R < w.heap.size
  good : ∀ t, o = some t → TokOk s t ∧ ∃ z, PsAt w R s t .nilIface z
  bad : o = none → ∃ (t : Tok) (te : TypeId) (pe : Value) (z : Int), t.fr ≤ s.size ∧ PsAt w R s t (.iface te pe) z
theorem PX.kept {W0 w w' : World} {R : Nat} {s : ByteArray} {o : Option Tok} (h : PX W0 w R s o) (hg : w.grownBy w' none) : PX W0 w' R s o := by
  have hg' : w.grownBy w' (some R) := ⟨hg.os, hg.tape, hg.output, hg.size, fun k hk _ => hg.block k hk (by simp)⟩
  refine ⟨h.env.grown hg' h.r16, h.r16, h.text, Nat.lt_of_lt_of_le h.lt hg.size, fun t ht => ?_, fun ht => ?_⟩
  · obtain ⟨h1, z, h2⟩ := h.good t ht
    exact ⟨h1, z, h2.kept hg⟩
  · obtain ⟨t, te, pe, z, h1, h2⟩ := h.bad ht
    exact ⟨t, te, pe, z, h1, h2.kept hg⟩
theorem PX.drewN {W0 w : World} {R : Nat} {s : ByteArray} {o : Option Tok} (h : PX W0 w R s o) (n : Nat) : PX W0 (w.drewN n) R s o := h.kept (grownA_drewN w n none)
theorem PX.below {W0 w w' : World} {R : Nat} {s : ByteArray} {o : Option Tok} (h : PX W0 w R s o) (hb : Below w.heap.size w w') : PX W0 w' R s o := h.kept (grownA_below hb none)
theorem PX.ofGood {W0 w w' : World} {R : Nat} {s : ByteArray} {o : Option Tok} {t : Tok} {z : Int} (h : PX W0 w R s o) (hg : w.grownBy w' (some R)) (ht : TokOk s t) (hp : PsAt w' R s t .nilIface z) : PX W0 w' R s (some t) :=
  ⟨h.env.grown hg h.r16, h.r16, h.text, hp.lt, fun t' e => (by cases e; exact ⟨ht, z, hp⟩), fun e => (by cases e)⟩
theorem PX.ofBad {W0 w w' : World} {R : Nat} {s : ByteArray} {o : Option Tok} {t : Tok} {te : TypeId} {pe : Value} {z : Int} (h : PX W0 w R s o) (hg : w.grownBy w' (some R)) (ht : t.fr ≤ s.size) (hp : PsAt w' R s t (.iface te pe) z) : PX W0 w' R s none :=
  ⟨h.env.grown hg h.r16, h.r16, h.text, hp.lt, fun t' e => (by cases e), fun _ => ⟨t, te, pe, z, ht, hp⟩⟩
/-- the cells, whatever the state -/
theorem PX.cells {W0 w : World} {R : Nat} {s : ByteArray} {o : Option Tok} (h : PX W0 w R s o) : ∃ (t : Tok) (b : Value) (z : Int), PsAt w R s t b z ∧ t.fr ≤ s.size ∧ ((o = some t ∧ b = .nilIface ∧ TokOk s t) ∨ (o = none ∧ ∃ te pe, b = .iface te pe)) := by
  cases o with
  | none => obtain ⟨t, te, pe, z, h1, h2⟩ := h.bad rfl; exact ⟨t, _, z, h2, h1, .inr ⟨rfl, te, pe, rfl⟩⟩
  | some t => obtain ⟨h1, z, h2⟩ := h.good t rfl; exact ⟨t, _, z, h2, h1.2.1, .inl ⟨rfl, rfl, h1⟩⟩

/-- the parser, whatever its state -/
structure PY (W0 w : World) (R : Nat) (s : ByteArray) (t : Tok) (b : Value) : Prop where
  env : EnvA W0 w
  r16 : 16 ≤ R
  text : s.size ≤ 70000
  fr : t.fr ≤ s.size
  at_ : ∃ z, PsAt w R s t b z
  bad : b = .nilIface ∨ ∃ te pe, b = .iface te pe
theorem PX.weak {W0 w : World} {R : Nat} {s : ByteArray} {o : Option Tok} (h : PX W0 w R s o) : ∃ t b, PY W0 w R s t b := by
  obtain ⟨t, b, z, hp, hf, ⟨rfl, rfl, hok⟩ | ⟨rfl, te', pe', rfl⟩⟩ := h.cells
  · exact ⟨t, _, h.env, h.r16, h.text, hf, ⟨z, hp⟩, .inl rfl⟩
  · exact ⟨t, _, h.env, h.r16, h.text, hf, ⟨z, hp⟩, .inr ⟨te', pe', rfl⟩⟩
theorem PY.drewN {W0 w : World} {R : Nat} {s : ByteArray} {t : Tok} {b : Value} (h : PY W0 w R s t b) (n : Nat) : PY W0 (w.drewN n) R s t b := by
  obtain ⟨z, hp⟩ := h.at_
  exact ⟨h.env, h.r16, h.text, h.fr, ⟨z, hp⟩, h.bad⟩
theorem PY.toBad {W0 w w' : World} {R : Nat} {s : ByteArray} {t : Tok} {b : Value} {te : TypeId} {pe : Value} {z : Int} (h : PY W0 w R s t b) (hg : w.grownBy w' (some R)) (hp : PsAt w' R s t (.iface te pe) z) : PX W0 w' R s none :=
  ⟨h.env.grown hg h.r16, h.r16, h.text, hp.lt, fun t' e => (by cases e), fun _ => ⟨t, te, pe, z, h.fr, hp⟩⟩
theorem grownA_refl (w : World) (row : Option Nat) : w.grownBy w row := ⟨rfl, rfl, rfl, Nat.le_refl _, fun _ _ _ => rfl⟩

set_option maxHeartbeats 1000000 in
theorem pfail_any {W0 w : World} {R : Nat} {s : ByteArray} {t : Tok} {b : Value} (h : PY W0 w R s t b) (te : TypeId) (pe : Value) (y : Int) :
    Calls Tryz.prog 60 #[.pointer (some ⟨R, 0, none⟩), .iface te pe, .int .i64 y] w fun e w' => e = .returned (.tuple #[]) ∧ w.grownBy w' (some R) ∧ PX W0 w' R s none := by
  have HX : Hid (PY W0 w R s t b) := h
  obtain ⟨z, hp⟩ := h.at_
  rcases h.bad with rfl | ⟨te', pe', rfl⟩
  · obtain ⟨_, _, _, _, _, _, _, c7, c8⟩ := hp.cells
    have f7 := hp.fz 7
    have f8 := hp.fz 8
    have HP : Hid (PsAt w R s t .nilIface z) := hp
    clear h hp
    go_enter Tryz.func60, Tryz.ntmps60
    go_wp2
    go_end0
    have hg2 : w.grownBy ((w.setCell ⟨R, 7, none⟩ (.iface te pe)).setCell ⟨R, 8, none⟩ (.int .i64 y)) (some R) := gSetB (gSet w R 7 _) 8 _
    exact ⟨rfl, hg2, HX.out.toBad hg2 (HP.out.setBad _ _)⟩
  · obtain ⟨_, _, _, _, _, _, _, c7, c8⟩ := hp.cells
    have HP : Hid (PsAt w R s t (.iface te' pe') z) := hp
    clear h hp
    go_enter Tryz.func60, Tryz.ntmps60
    go_wp2
    go_end0
    exact ⟨rfl, grownA_refl w _, HX.out.toBad (grownA_refl w _) HP.out⟩

set_option maxHeartbeats 2000000 in
theorem pwrong_weak {W0 w : World} (L : LibA W0) {R : Nat} {s : ByteArray} {t : Tok} {b : Value} (h : PY W0 w R s t b) :
    Calls Tryz.prog 32 #[.pointer (some ⟨R, 0, none⟩)] w fun e w' => e = .returned (.tuple #[]) ∧ w.grownBy w' (some R) ∧ PX W0 w' R s none := by
  obtain ⟨te, pe, cs⟩ := h.env.syn L
  obtain ⟨z, hp⟩ := h.at_
  obtain ⟨_, _, _, _, c4, _, _, _, _⟩ := hp.cells
  have HF : Hid (∀ n, Calls Tryz.prog 60 #[.pointer (some ⟨R, 0, none⟩), .iface te pe, .int .i64 t.fr] (w.drewN n) fun e w' => e = .returned (.tuple #[]) ∧ w.grownBy w' (some R) ∧ PX W0 w' R s none) := fun n => by
    refine (pfail_any (h.drewN n) te pe t.fr).mono ?_
    rintro e w' ⟨h1, h2, h3⟩
    exact ⟨h1, grownA_undrew h2, h3⟩
  clear h hp
  go_enter Tryz.func32, Tryz.ntmps32
  go_wp2
  go_region_with (go_at_call 60; refine (HF.out _).mono ?_; rintro e w' ⟨rfl, hg, hB⟩)
  all_goals
    go_wp2
    go_end0
    exact ⟨rfl, hg, hB⟩
theorem pwrong_any {W0 w : World} (L : LibA W0) {R : Nat} {s : ByteArray} {o : Option Tok} (h : PX W0 w R s o) :
    Calls Tryz.prog 32 #[.pointer (some ⟨R, 0, none⟩)] w fun e w' => e = .returned (.tuple #[]) ∧ w.grownBy w' (some R) ∧ PX W0 w' R s none := by
  obtain ⟨t, b, hY⟩ := h.weak
  exact pwrong_weak L hY

end Go.Proofs.YthbglakncijahaaGreatDoor
