/- Texts of the proof, put together: ANml, ABox. -/
import Derived.Test.YthbglakncijahaaGreatDoorAw07
import Derived.Laws.Rows
namespace Go.Proofs.YthbglakncijahaaGreatDoor
open Go.RowKit
set_option linter.unusedVariables false
set_option maxRecDepth 100000

theorem numE_none {s : ByteArray} {i : Nat} (h : wholeZ (s.extract i (run digitB s i)) = none) : numE s i = none := by
  unfold numE; simp only [h]
theorem numE_some {s : ByteArray} {i : Nat} {n : Int} (h : wholeZ (s.extract i (run digitB s i)) = some n) : numE s i = if i + 1 < run digitB s i ∧ (s.get! i).toNat = 48 then none else some (n, run digitB s i) := by
  unfold numE; simp only [h]

theorem two_cells (w : World) (o : Obj) (a b c d e : Value) (ty : TypeId) : ∃ W, (w.alloc o).alloc (.cells #[a, b, c, d, e] ty) = W ∧ Below w.heap.size w W ∧ W.cell? ⟨w.heap.size + 1, 0, none⟩ = some a ∧ W.cell? ⟨w.heap.size + 1, 1, none⟩ = some b ∧ W.cell? ⟨w.heap.size + 1, 2, none⟩ = some c ∧ W.cell? ⟨w.heap.size + 1, 3, none⟩ = some d ∧ W.cell? ⟨w.heap.size + 1, 4, none⟩ = some e := by
  have h := allocAtA (w.alloc o) (.cells #[a, b, c, d, e] ty)
  rw [alloc_size] at h
  refine ⟨_, rfl, (alloc_below w o).trans ((alloc_below (w.alloc o) _).mono (by rw [alloc_size]; omega)), cellsAtA h 0 _ rfl, cellsAtA h 1 _ rfl, cellsAtA h 2 _ rfl, cellsAtA h 3 _ rfl, cellsAtA h 4 _ rfl⟩

set_option maxHeartbeats 4000000 in
theorem rnumeral_any (s : ByteArray) (hs : s.size ≤ 140737488351232) (t : Tok) (kind : Int) (i : Nat) (hi : i ≤ s.size) (w : World) :
    Calls Tryz.prog 112 #[.string s, tokV t, .int .i64 kind, .int .i64 i] w fun e w' => Below w.heap.size w w' ∧ ∃ t' : Tok, e = .returned (tokV t') ∧ t'.fr = t.fr ∧ t'.text = t.text ∧ ((t'.kind = kind ∧ numE s i = some (t'.num, t'.fin)) ∨ (t'.kind = 7 ∧ numE s i = none)) ∧ t'.fin ≤ s.size := by
  obtain ⟨k0, x0, f0, t0, n0⟩ := t
  unfold tokV
  simp only
  go_enter Tryz.func112, Tryz.ntmps112
  go_wp2
  go_loop [9, 10] (fun a _ => ∃ pos : Nat, i ≤ pos ∧ pos ≤ s.size ∧ a = .int .i64 pos ∧ Hid (run digitB s pos = run digitB s i)) (fun a _ => s.size - (intOf a).toNat)
  case atStart => exact ⟨i, by omega, hi, rfl, rfl⟩
  case round =>
    obtain ⟨pos, hip, hp, rfl, HR⟩ := hrel
    by_cases hlt : pos < s.size
    · have hb := get_atA s pos hlt
      have HD : Hid (∀ w, Calls Tryz.prog 110 #[.int .u8 ((s.get! pos).toNat : Int)] w fun e w' => e = .returned (.bool (digitB ((s.get! pos).toNat : Int))) ∧ w' = w) := fun w => rdigit_any _ w
      cases hd : digitB ((s.get! pos).toNat : Int)
      · have HV : Hid (run digitB s i = pos) := by
          show _ = _
          rw [← HR.out]
          exact run_stop fun _ => hd
        rw [hd] at HD
        clear HR hd
        go_wp2_with fail
        go_at_call 110
        refine (HD.out _).mono ?_
        rintro e w' ⟨rfl, rfl⟩
        go_wp2_with fail
        refine (wholeN_any (s.extract i pos) (by simp; omega) _).mono ?_
        rintro e w' ⟨rfl, z, b, rfl, hz⟩
        cases b
        · have HN : Hid (numE s i = none) := by
            show _ = _
            rcases hz with ⟨h, _⟩ | ⟨_, h⟩
            · cases h
            · exact numE_none (by rw [HV.out]; exact h)
          clear hz
          go_wp2
          obtain ⟨W, hW, hb, c0, c1, c2, c3, c4⟩ := two_cells w (.cells #[.int .i64 7, .string x0, .int .i64 f0, .int .i64 pos, .int .i64 z] 71) (.int .i64 7) (.string x0) (.int .i64 f0) (.int .i64 pos) (.int .i64 z) 71
          rw [hW]
          refine bodyPost_ret (v := .agg #[.int .i64 7, .string x0, .int .i64 f0, .int .i64 pos, .int .i64 z]) ?_ rfl ?_
          · simp [results, go_sem, c0, c1, c2, c3, c4]
          · exact ⟨hb, ⟨7, x0, f0, pos, z⟩, rfl, rfl, rfl, .inr ⟨rfl, HN.out⟩, hp⟩
        · have HN : Hid (numE s i = if i + 1 < pos ∧ (s.get! i).toNat = 48 then none else some (z, pos)) := by
            show _ = _
            rcases hz with ⟨_, h⟩ | ⟨h, _⟩
            · have := numE_some (by rw [HV.out]; exact h)
              rw [this, HV.out]
            · cases h
          clear hz
          have hii : IntKind.i64.wrap ((i : Int) + 1) = (i : Int) + 1 := by rw [IntKind.wrap_i64]; omega
          by_cases h1 : i + 1 < pos
          · have hd1 : decide ((pos : Int) > (i : Int) + 1) = true := decide_eq_true (by omega)
            have hib := get_atA s i (by omega)
            cases h2 : (((s.get! i).toNat : Int) == 48)
            · have HN2 : Hid (numE s i = some (z, pos)) := by
                show _ = _
                rw [HN.out, if_neg]
                rintro ⟨_, h⟩
                rw [h] at h2
                cases h2
              clear HN
              go_wp2
              obtain ⟨W, hW, hb, c0, c1, c2, c3, c4⟩ := two_cells w (.cells #[.int .i64 kind, .string x0, .int .i64 f0, .int .i64 pos, .int .i64 z] 71) (.int .i64 kind) (.string x0) (.int .i64 f0) (.int .i64 pos) (.int .i64 z) 71
              rw [hW]
              refine bodyPost_ret (v := .agg #[.int .i64 kind, .string x0, .int .i64 f0, .int .i64 pos, .int .i64 z]) ?_ rfl ?_
              · simp [results, go_sem, c0, c1, c2, c3, c4]
              · exact ⟨hb, ⟨kind, x0, f0, pos, z⟩, rfl, rfl, rfl, .inl ⟨rfl, HN2.out⟩, hp⟩
            · have HN2 : Hid (numE s i = none) := by
                show _ = _
                rw [HN.out, if_pos]
                rw [beq_iff_eq] at h2
                exact ⟨h1, by omega⟩
              clear HN
              go_wp2
              obtain ⟨W, hW, hb, c0, c1, c2, c3, c4⟩ := two_cells w (.cells #[.int .i64 7, .string x0, .int .i64 f0, .int .i64 pos, .int .i64 z] 71) (.int .i64 7) (.string x0) (.int .i64 f0) (.int .i64 pos) (.int .i64 z) 71
              rw [hW]
              refine bodyPost_ret (v := .agg #[.int .i64 7, .string x0, .int .i64 f0, .int .i64 pos, .int .i64 z]) ?_ rfl ?_
              · simp [results, go_sem, c0, c1, c2, c3, c4]
              · exact ⟨hb, ⟨7, x0, f0, pos, z⟩, rfl, rfl, rfl, .inr ⟨rfl, HN2.out⟩, hp⟩
          · have hd1 : decide ((pos : Int) > (i : Int) + 1) = false := decide_eq_false (by omega)
            have HN2 : Hid (numE s i = some (z, pos)) := by
              show _ = _
              rw [HN.out, if_neg (fun h => h1 h.1)]
            clear HN
            go_wp2
            obtain ⟨W, hW, hb, c0, c1, c2, c3, c4⟩ := two_cells w (.cells #[.int .i64 kind, .string x0, .int .i64 f0, .int .i64 pos, .int .i64 z] 71) (.int .i64 kind) (.string x0) (.int .i64 f0) (.int .i64 pos) (.int .i64 z) 71
            rw [hW]
            refine bodyPost_ret (v := .agg #[.int .i64 kind, .string x0, .int .i64 f0, .int .i64 pos, .int .i64 z]) ?_ rfl ?_
            · simp [results, go_sem, c0, c1, c2, c3, c4]
            · exact ⟨hb, ⟨kind, x0, f0, pos, z⟩, rfl, rfl, rfl, .inl ⟨rfl, HN2.out⟩, hp⟩
      · have HV : Hid (run digitB s (pos + 1) = run digitB s i) := by
          show _ = _
          rw [← HR.out]
          exact (run_step hlt hd).symm
        rw [hd] at HD
        clear HR hd
        go_wp2_with fail
        go_at_call 110
        refine (HD.out _).mono ?_
        rintro e w' ⟨rfl, rfl⟩
        go_wp2
        go_round
        case rel => exact ⟨pos + 1, by omega, by omega, by go_num, HV⟩
        case measure => simp [intOf]; omega
    · have HV : Hid (run digitB s i = pos) := by
        show _ = _
        rw [← HR.out]
        exact run_stop fun h => absurd h hlt
      clear HR
      obtain rfl : pos = s.size := by omega
      go_wp2_with fail
      refine (wholeN_any (s.extract i s.size) (by simp; omega) _).mono ?_
      rintro e w' ⟨rfl, z, b, rfl, hz⟩
      cases b
      · have HN : Hid (numE s i = none) := by
          show _ = _
          rcases hz with ⟨h, _⟩ | ⟨_, h⟩
          · cases h
          · exact numE_none (by rw [HV.out]; exact h)
        clear hz
        go_wp2
        obtain ⟨W, hW, hb, c0, c1, c2, c3, c4⟩ := two_cells w (.cells #[.int .i64 7, .string x0, .int .i64 f0, .int .i64 s.size, .int .i64 z] 71) (.int .i64 7) (.string x0) (.int .i64 f0) (.int .i64 s.size) (.int .i64 z) 71
        rw [hW]
        refine bodyPost_ret (v := .agg #[.int .i64 7, .string x0, .int .i64 f0, .int .i64 s.size, .int .i64 z]) ?_ rfl ?_
        · simp [results, go_sem, c0, c1, c2, c3, c4]
        · exact ⟨hb, ⟨7, x0, f0, s.size, z⟩, rfl, rfl, rfl, .inr ⟨rfl, HN.out⟩, Nat.le_refl _⟩
      · have HN : Hid (numE s i = if i + 1 < s.size ∧ (s.get! i).toNat = 48 then none else some (z, s.size)) := by
          show _ = _
          rcases hz with ⟨_, h⟩ | ⟨h, _⟩
          · have := numE_some (by rw [HV.out]; exact h)
            rw [this, HV.out]
          · cases h
        clear hz
        have hii : IntKind.i64.wrap ((i : Int) + 1) = (i : Int) + 1 := by rw [IntKind.wrap_i64]; omega
        by_cases h1 : i + 1 < s.size
        · have hd1 : decide ((s.size : Int) > (i : Int) + 1) = true := decide_eq_true (by omega)
          have hib := get_atA s i (by omega)
          cases h2 : (((s.get! i).toNat : Int) == 48)
          · have HN2 : Hid (numE s i = some (z, s.size)) := by
              show _ = _
              rw [HN.out, if_neg]
              rintro ⟨_, h⟩
              rw [h] at h2
              cases h2
            clear HN
            go_wp2
            obtain ⟨W, hW, hb, c0, c1, c2, c3, c4⟩ := two_cells w (.cells #[.int .i64 kind, .string x0, .int .i64 f0, .int .i64 s.size, .int .i64 z] 71) (.int .i64 kind) (.string x0) (.int .i64 f0) (.int .i64 s.size) (.int .i64 z) 71
            rw [hW]
            refine bodyPost_ret (v := .agg #[.int .i64 kind, .string x0, .int .i64 f0, .int .i64 s.size, .int .i64 z]) ?_ rfl ?_
            · simp [results, go_sem, c0, c1, c2, c3, c4]
            · exact ⟨hb, ⟨kind, x0, f0, s.size, z⟩, rfl, rfl, rfl, .inl ⟨rfl, HN2.out⟩, Nat.le_refl _⟩
          · have HN2 : Hid (numE s i = none) := by
              show _ = _
              rw [HN.out, if_pos]
              rw [beq_iff_eq] at h2
              exact ⟨h1, by omega⟩
            clear HN
            go_wp2
            obtain ⟨W, hW, hb, c0, c1, c2, c3, c4⟩ := two_cells w (.cells #[.int .i64 7, .string x0, .int .i64 f0, .int .i64 s.size, .int .i64 z] 71) (.int .i64 7) (.string x0) (.int .i64 f0) (.int .i64 s.size) (.int .i64 z) 71
            rw [hW]
            refine bodyPost_ret (v := .agg #[.int .i64 7, .string x0, .int .i64 f0, .int .i64 s.size, .int .i64 z]) ?_ rfl ?_
            · simp [results, go_sem, c0, c1, c2, c3, c4]
            · exact ⟨hb, ⟨7, x0, f0, s.size, z⟩, rfl, rfl, rfl, .inr ⟨rfl, HN2.out⟩, Nat.le_refl _⟩
        · have hd1 : decide ((s.size : Int) > (i : Int) + 1) = false := decide_eq_false (by omega)
          have HN2 : Hid (numE s i = some (z, s.size)) := by
            show _ = _
            rw [HN.out, if_neg (fun h => h1 h.1)]
          clear HN
          go_wp2
          obtain ⟨W, hW, hb, c0, c1, c2, c3, c4⟩ := two_cells w (.cells #[.int .i64 kind, .string x0, .int .i64 f0, .int .i64 s.size, .int .i64 z] 71) (.int .i64 kind) (.string x0) (.int .i64 f0) (.int .i64 s.size) (.int .i64 z) 71
          rw [hW]
          refine bodyPost_ret (v := .agg #[.int .i64 kind, .string x0, .int .i64 f0, .int .i64 s.size, .int .i64 z]) ?_ rfl ?_
          · simp [results, go_sem, c0, c1, c2, c3, c4]
          · exact ⟨hb, ⟨kind, x0, f0, s.size, z⟩, rfl, rfl, rfl, .inl ⟨rfl, HN2.out⟩, Nat.le_refl _⟩

end Go.Proofs.YthbglakncijahaaGreatDoor

namespace Go.Proofs.YthbglakncijahaaGreatDoor
open Go.RowKit
set_option linter.unusedVariables false
set_option maxRecDepth 100000

def TokAt (w : World) (B : Nat) (t : Tok) : Prop := w.heap[B]? = some (.cells #[.int .i64 t.kind, .string t.text, .int .i64 t.fr, .int .i64 t.fin, .int .i64 t.num] 71 (0, 0))
def zeroT : Tok := ⟨0, ⟨#[]⟩, 0, 0, 0⟩
theorem TokAt.lt {w : World} {B : Nat} {t : Tok} (h : TokAt w B t) : B < w.heap.size := (Array.getElem?_eq_some_iff.1 h).1
theorem TokAt.cells {w : World} {B : Nat} {t : Tok} (h : TokAt w B t) : w.cell? ⟨B, 0, none⟩ = some (.int .i64 t.kind) ∧ w.cell? ⟨B, 1, none⟩ = some (.string t.text) ∧ w.cell? ⟨B, 2, none⟩ = some (.int .i64 t.fr) ∧ w.cell? ⟨B, 3, none⟩ = some (.int .i64 t.fin) ∧ w.cell? ⟨B, 4, none⟩ = some (.int .i64 t.num) :=
  ⟨cellsAtA h 0 _ rfl, cellsAtA h 1 _ rfl, cellsAtA h 2 _ rfl, cellsAtA h 3 _ rfl, cellsAtA h 4 _ rfl⟩
theorem TokAt.fz {w : World} {B : Nat} {t : Tok} (h : TokAt w B t) (j : Nat) : w.frozen? ⟨B, j, none⟩ = false := by unfold TokAt at h; simp [World.frozen?, h]
theorem TokAt.set0 {w : World} {B : Nat} {t : Tok} (h : TokAt w B t) (k : Int) : TokAt (w.setCell ⟨B, 0, none⟩ (.int .i64 k)) B { t with kind := k } := heap_setCell_same w B 0 _ 71 _ h
theorem TokAt.set1 {w : World} {B : Nat} {t : Tok} (h : TokAt w B t) (x : ByteArray) : TokAt (w.setCell ⟨B, 1, none⟩ (.string x)) B { t with text := x } := heap_setCell_same w B 1 _ 71 _ h
theorem TokAt.set2 {w : World} {B : Nat} {t : Tok} (h : TokAt w B t) (k : Nat) : TokAt (w.setCell ⟨B, 2, none⟩ (.int .i64 k)) B { t with fr := k } := heap_setCell_same w B 2 _ 71 _ h
theorem TokAt.set3 {w : World} {B : Nat} {t : Tok} (h : TokAt w B t) (k : Nat) : TokAt (w.setCell ⟨B, 3, none⟩ (.int .i64 k)) B { t with fin := k } := heap_setCell_same w B 3 _ 71 _ h
theorem TokAt.set4 {w : World} {B : Nat} {t : Tok} (h : TokAt w B t) (k : Int) : TokAt (w.setCell ⟨B, 4, none⟩ (.int .i64 k)) B { t with num := k } := heap_setCell_same w B 4 _ 71 _ h
/-- a token is put where one was -/
def putT (w : World) (B : Nat) (t : Tok) : World := ((((w.setCell ⟨B, 0, none⟩ (.int .i64 t.kind)).setCell ⟨B, 1, none⟩ (.string t.text)).setCell ⟨B, 2, none⟩ (.int .i64 t.fr)).setCell ⟨B, 3, none⟩ (.int .i64 t.fin)).setCell ⟨B, 4, none⟩ (.int .i64 t.num)
theorem TokAt.put {w : World} {B : Nat} {t : Tok} (h : TokAt w B t) (u : Tok) : TokAt (putT w B u) B u := ((((h.set0 u.kind).set1 u.text).set2 u.fr).set3 u.fin).set4 u.num
theorem TokAt.other {w : World} {B D : Nat} {t : Tok} (h : TokAt w B t) (hD : B ≠ D) (j : Nat) (v : Value) : TokAt (w.setCell ⟨D, j, none⟩ v) B t := (heap_setCell_other w ⟨D, j, none⟩ B v hD).trans h
theorem TokAt.below {w w' : World} {B K : Nat} {t : Tok} (h : TokAt w B t) (hb : Below K w w') (hB : B < K) : TokAt w' B t := (hb.block B hB).trans h
theorem TokAt.drewN {w : World} {B : Nat} {t : Tok} (h : TokAt w B t) (n : Nat) : TokAt (w.drewN n) B t := h
theorem TokAt.new (w : World) (t : Tok) : TokAt (w.alloc (.cells #[.int .i64 t.kind, .string t.text, .int .i64 t.fr, .int .i64 t.fin, .int .i64 t.num] 71)) w.heap.size t := allocAtA w _
theorem below_putT {B : Nat} {w w' : World} (h : Below B w w') {D : Nat} (hD : B ≤ D) (t : Tok) : Below B w (putT w' D t) :=
  belowSetA (belowSetA (belowSetA (belowSetA (belowSetA h hD _ _) hD _ _) hD _ _) hD _ _) hD _ _

/-- the two blocks of a function that makes a token: what it makes, and what it answers -/
structure TwoT (w0 w : World) (t : Tok) : Prop where
  below : Below w0.heap.size w0 w
  box : TokAt w w0.heap.size t
  res : ∃ u, TokAt w (w0.heap.size + 1) u
theorem TwoT.new (w : World) (t u : Tok) : TwoT w ((w.alloc (.cells #[.int .i64 t.kind, .string t.text, .int .i64 t.fr, .int .i64 t.fin, .int .i64 t.num] 71)).alloc (.cells #[.int .i64 u.kind, .string u.text, .int .i64 u.fr, .int .i64 u.fin, .int .i64 u.num] 71)) t := by
  have hb := alloc_below (w.alloc (.cells #[.int .i64 t.kind, .string t.text, .int .i64 t.fr, .int .i64 t.fin, .int .i64 t.num] 71)) (.cells #[.int .i64 u.kind, .string u.text, .int .i64 u.fr, .int .i64 u.fin, .int .i64 u.num] 71)
  refine ⟨(alloc_below w _).trans (hb.mono (by rw [alloc_size]; omega)), (TokAt.new w t).below hb (by rw [alloc_size]; omega), u, ?_⟩
  have := TokAt.new (w.alloc (.cells #[.int .i64 t.kind, .string t.text, .int .i64 t.fr, .int .i64 t.fin, .int .i64 t.num] 71)) u
  rwa [alloc_size] at this
theorem TwoT.set {w0 w w' : World} {t t' : Tok} (h : TwoT w0 w t) (j : Nat) (v : Value) (he : w.setCell ⟨w0.heap.size, j, none⟩ v = w') (ht : TokAt w' w0.heap.size t') : TwoT w0 w' t' := by
  subst he
  obtain ⟨u, hu⟩ := h.res
  exact ⟨belowSetA h.below (Nat.le_refl _) j v, ht, u, hu.other (by omega) j v⟩
theorem TwoT.drewN {w0 w : World} {t : Tok} (h : TwoT w0 w t) (n : Nat) : TwoT w0 (w.drewN n) t := ⟨below_drewG h.below n, h.box, h.res⟩
/-- answering it -/
theorem TwoT.ret {w0 w : World} {t : Tok} (h : TwoT w0 w t) : ∃ W, putT w (w0.heap.size + 1) t = W ∧ Below w0.heap.size w0 W ∧ TokAt W (w0.heap.size + 1) t := by
  obtain ⟨u, hu⟩ := h.res
  exact ⟨_, rfl, below_putT h.below (by omega) t, hu.put t⟩
end Go.Proofs.YthbglakncijahaaGreatDoor
