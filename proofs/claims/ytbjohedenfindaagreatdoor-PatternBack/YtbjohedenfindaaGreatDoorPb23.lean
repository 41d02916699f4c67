/- Texts of the proof, put together: PUnitB. -/
import Derived.Test.YtbjohedenfindaaGreatDoorPb22
namespace Go.Proofs.YtbjohedenfindaaGreatDoor
open Go.RowKit
set_option linter.unusedVariables false
set_option maxRecDepth 100000

/-- a bracket closed behind what was read -/
def closeS (s : ByteArray) (pr : Option (Re × Nat)) : Option (Re × Nat) :=
  match pr with
  | none => none
  | some (p, j) => if cpAt s j = 41 then some (p, j + 1) else none

set_option maxHeartbeats 2000000 in
theorem unit_par {W0 w : World} (L : LibC W0) {R i o M : Nat} {s : ByteArray} (h : St W0 w R s i o M) (ho : o < 100) (hc : cpAt s i = 40) {u : Nat → Option (Re × Nat)} (hU : UnitC W0 s (o + 1) M R u) (hu : Goes s u) :
    Calls Tryz.prog 136 #[.pointer (some ⟨R, 0, none⟩)] w (Got W0 w R s o M (closeS s (patS s u (i + 1))) (TreeV w.heap.size)) := by
  have HS : Hid (St W0 w R s i o M) := h
  have HN : Hid (NextC w R 40 (szAt s i)) := next_c L h hc
  have hi1 := (cp_eq_size hc (by omega) (by omega)).1
  have hRw := h.at_.lt
  generalize szAt s i = z at *
  have HP : Hid (∀ w, St W0 w R s (i + 1) (o + 1) M → Calls Tryz.prog 42 #[.pointer (some ⟨R, 0, none⟩)] w (Got W0 w R s (o + 1) M (patS s u (i + 1)) (TreeV w.heap.size))) := fun w h => ppattern_any L hU hu h
  generalize patS s u (i + 1) = pr at *
  obtain ⟨res, hres⟩ : ∃ res, closeS s pr = res := ⟨_, rfl⟩
  rw [hres]
  have HRes : Hid (closeS s pr = res) := hres
  clear hres
  clear h hc hU hu
  go_enter Tryz.func136, Tryz.ntmps136
  go_wp2_with fail
  refine Calls.mono HN.out ?_
  rintro e w1 ⟨rfl, hg⟩
  have hS1 := HS.out.kept hg
  go_wp2_with fail
  refine (enter_ok hS1 ho (by omega)).mono ?_
  rintro e w2 ⟨rfl, hg2, hS2⟩
  have hg02 := Lib.grownBy_trans (hg (some R)) hg2
  have HS2 : Hid (St W0 w2 R s (i + 1) (o + 1) M) := hS2
  clear hS1 hS2
  go_wp2_with fail
  refine (HP.out w2 HS2.out).mono ?_
  intro e w3 hG
  obtain ⟨hg3, ⟨hx, f, rfl⟩ | ⟨⟨t, j⟩, v, hx, rfl, hv, hS3⟩⟩ := hG.both
  · exact ⟨rfl, Got.bad (by rw [← HRes.out, hx]; rfl) (Lib.grownBy_trans hg02 hg3) ⟨f, rfl⟩⟩
  · have hv' : Tree (fun b => w2.heap.size ≤ b) w3 v t := hv
    obtain ⟨b, rfl, _⟩ := hv'.ptr
    have hg03 := Lib.grownBy_trans hg02 hg3
    have HX : Hid (pr = some (t, j)) := hx
    have HS3 : Hid (St W0 w3 R s j (o + 1) M) := hS3
    have hT3 : Tree (fun b => w.heap.size ≤ b) w3 (.pointer (some ⟨b, 0, none⟩)) t := hv'.imp fun b _ hb => by have := hg02.size; omega
    have HT3 : Hid (Tree (fun b => w.heap.size ≤ b) w3 (.pointer (some ⟨b, 0, none⟩)) t) := hT3
    clear hx hG hv hS3 hv' hT3
    by_cases h41 : cpAt s j = 41
    · obtain ⟨hj1, hjz⟩ := cp_eq_size h41 (by omega) (by omega)
      have HW := want_yes L HS3.out 41 h41
      rw [hjz] at HW
      have HW2 : Hid (Calls Tryz.prog 43 #[.pointer (some ⟨R, 0, none⟩), .int .i32 41] w3 fun e w' => e = .returned (.tuple #[]) ∧ w3.grownBy w' (some R) ∧ St W0 w' R s (j + 1) (o + 1) M) := HW
      have HR : Hid (res = some (t, j + 1)) := by show _ = _; rw [← HRes.out, HX.out]; simp [closeS, h41]
      clear HW hjz h41
      go_wp2_with fail
      refine HW2.out.mono ?_
      rintro e w4 ⟨rfl, hg4, hS4⟩
      obtain ⟨_, _, c2, _⟩ := hS4.at_.cells
      have f2 := hS4.at_.frozen 2
      have hgz := Lib.grownBy_setB (Lib.grownBy_trans hg03 hg4) 2 (.int .i64 (o : Int))
      have HRz : Hid (RdAt (w4.setCell ⟨R, 2, none⟩ (.int .i64 (o : Int))) R s (j + 1) o M) := hS4.at_.set2 o
      have HTz : Hid (Tree (fun b => w.heap.size ≤ b) (w4.setCell ⟨R, 2, none⟩ (.int .i64 (o : Int))) (.pointer (some ⟨b, 0, none⟩)) t) := (HT3.out.grown hg4 fun b hb e => by cases e; omega).grown (Lib.grownBy_setCell w4 R 2 _) fun b hb e => by cases e; omega
      have e1 : ((o : Int) + 1 - 1) = (o : Int) := by omega
      have e2 : (((o + 1 : Nat) : Int) - 1) = (o : Int) := by omega
      clear hS4
      go_wp2
      go_ret
      exact Got.ok (x := (t, j + 1)) (Val := TreeV w.heap.size) HR.out hgz HTz.out (HS.out.step hgz hj1 HRz.out)
    · have HW2 : Hid (Calls Tryz.prog 43 #[.pointer (some ⟨R, 0, none⟩), .int .i32 41] w3 fun e w' => Thrown e ∧ w3.grownBy w' (some R)) := want_no L HS3.out 41 h41
      have HR : Hid (res = none) := by show _ = _; rw [← HRes.out, HX.out]; simp [closeS, h41]
      clear h41
      go_wp2_with fail
      refine HW2.out.mono ?_
      rintro e w4 ⟨⟨f, rfl⟩, hg4⟩
      exact ⟨rfl, Got.bad HR.out (Lib.grownBy_trans hg03 hg4) ⟨f, rfl⟩⟩

set_option maxHeartbeats 2000000 in
theorem unit_set {W0 w : World} (L : LibC W0) {mk : List Rg → Bool → List Rg} (C : SetC mk) {R i o M : Nat} {s : ByteArray} (h : St W0 w R s i o M) (ho : o < 100) (hsz : s.size ≤ 60000) (hc : cpAt s i = 91) :
    Calls Tryz.prog 136 #[.pointer (some ⟨R, 0, none⟩)] w (Got W0 w R s o M ((brackL s mk (i + 1)).map fun x => (setRe x.1, x.2)) (TreeV w.heap.size)) := by
  have HS : Hid (St W0 w R s i o M) := h
  have HN : Hid (NextC w R 91 (szAt s i)) := next_c L h hc
  have hi1 := (cp_eq_size hc (by omega) (by omega)).1
  have hRw := h.at_.lt
  generalize szAt s i = z at *
  have HP : Hid (∀ w, St W0 w R s (i + 1) (o + 1) M → Calls Tryz.prog 153 #[.pointer (some ⟨R, 0, none⟩)] w (Got W0 w R s (o + 1) M (brackL s mk (i + 1)) (RowV w.heap.size))) := fun w h => items_any L C h hsz
  generalize brackL s mk (i + 1) = pr at *
  clear h hc
  go_enter Tryz.func136, Tryz.ntmps136
  go_wp2_with fail
  refine Calls.mono HN.out ?_
  rintro e w1 ⟨rfl, hg⟩
  have hS1 := HS.out.kept hg
  go_wp2_with fail
  refine (enter_ok hS1 ho (by omega)).mono ?_
  rintro e w2 ⟨rfl, hg2, hS2⟩
  have hg02 := Lib.grownBy_trans (hg (some R)) hg2
  have HS2 : Hid (St W0 w2 R s (i + 1) (o + 1) M) := hS2
  clear hS1 hS2
  go_wp2_with fail
  refine (HP.out w2 HS2.out).mono ?_
  intro e w3 hG
  obtain ⟨hg3, ⟨hx, f, rfl⟩ | ⟨⟨l, j⟩, v, hx, rfl, hv, hS3⟩⟩ := hG.both
  · exact ⟨rfl, Got.bad (by rw [hx]; rfl) (Lib.grownBy_trans hg02 hg3) ⟨f, rfl⟩⟩
  · have hv' : RowR (fun b => w2.heap.size ≤ b) w3 v l := hv
    obtain ⟨_, _, c2, _⟩ := hS3.at_.cells
    have f2 := hS3.at_.frozen 2
    have hg03 := Lib.grownBy_trans hg02 hg3
    have HX : Hid (pr = some (l, j)) := hx
    have HS3 : Hid (St W0 w3 R s j (o + 1) M) := hS3
    have hgz := Lib.grownBy_setB hg03 2 (.int .i64 (o : Int))
    have HRz : Hid (RdAt (w3.setCell ⟨R, 2, none⟩ (.int .i64 (o : Int))) R s j o M) := HS3.out.at_.set2 o
    have hVz : RowR (fun b => w.heap.size ≤ b) (w3.setCell ⟨R, 2, none⟩ (.int .i64 (o : Int))) v l := (hv'.moved (ok' := fun b => w.heap.size ≤ b) (Nat.le_refl _) fun b _ hb => ⟨by have := hg02.size; omega, rfl⟩).grown (Lib.grownBy_setCell w3 R 2 _) fun b hb e => by cases e; omega
    have HVz : Hid (RowR (fun b => w.heap.size ≤ b) (w3.setCell ⟨R, 2, none⟩ (.int .i64 (o : Int))) v l) := hVz
    have e1 : ((o : Int) + 1 - 1) = (o : Int) := by omega
    have e2 : (((o + 1 : Nat) : Int) - 1) = (o : Int) := by omega
    obtain ⟨a, n, c, rfl⟩ : ∃ a n c, v = .slice a n c := by
      rcases hv' with ⟨_, a, c, h⟩ | ⟨b, off, c, h, _⟩
      · exact ⟨_, _, _, h⟩
      · exact ⟨_, _, _, h⟩
    clear hx hG hv hS3 hv' hVz
    go_wp2_with fail
    refine (setOf_any _ l _ hgz.size HVz.out).mono ?_
    rintro e w4 ⟨v4, rfl, hT4, hg4⟩
    obtain ⟨b4, rfl, _⟩ := hT4.ptr
    have HT4 : Hid (Tree (fun b => w.heap.size ≤ b) w4 (.pointer (some ⟨b4, 0, none⟩)) (setRe l)) := hT4
    have hgz4 := Lib.grownBy_trans hgz (hg4 _)
    have HS4 : Hid (St W0 w4 R s j o M) := HS.out.step hgz4 HS3.out.inn (HRz.out.kept (hg4 none))
    clear hT4
    go_wp2
    go_ret
    exact Got.ok (x := (setRe l, j)) (Val := TreeV w.heap.size) (by rw [HX.out]; rfl) hgz4 HT4.out HS4.out

set_option maxHeartbeats 2000000 in
theorem unit_dot {W0 w : World} (L : LibC W0) {mk : List Rg → Bool → List Rg} (C : SetC mk) {R i o M : Nat} {s : ByteArray} (h : St W0 w R s i o M) (hc : cpAt s i = 46) :
    Calls Tryz.prog 136 #[.pointer (some ⟨R, 0, none⟩)] w fun e w' => ∃ v, e = .returned v ∧ Tree (fun b => w.heap.size ≤ b) w' v (setRe (mk [(10, 10)] true)) ∧ w.grownBy w' (some R) ∧ St W0 w' R s (i + 1) o M := by
  have HS : Hid (St W0 w R s i o M) := h
  have HN : Hid (NextC w R 46 (szAt s i)) := next_c L h hc
  have hi1 := (cp_eq_size hc (by omega) (by omega)).1
  have hRw := h.at_.lt
  have htx := h.text
  generalize szAt s i = z at *
  clear h hc
  go_enter Tryz.func136, Tryz.ntmps136
  go_wp2_with fail
  refine Calls.mono HN.out ?_
  rintro e w1 ⟨rfl, hg⟩
  have hS1 := HS.out.kept hg
  obtain ⟨_, c1, _, _⟩ := hS1.at_.cells
  have f1 := hS1.at_.frozen 1
  have hgz := Lib.grownBy_setB (hg (some R)) 1 (.int .i64 ((i : Int) + 1))
  have HRz : Hid (RdAt (w1.setCell ⟨R, 1, none⟩ (.int .i64 ((i : Int) + 1))) R s (i + 1) o M) := by show RdAt _ _ _ _ _ _; simpa using hS1.at_.set1 (i + 1)
  clear hS1
  go_wp2_with fail
  refine (anyBut_any C _).mono ?_
  rintro e w2 ⟨v2, rfl, hO2, hb2⟩
  obtain ⟨a2, c2, rfl⟩ := own_slice hO2
  have hgz2 := Lib.grownBy_trans hgz (grownBy_of_below hb2 (some R))
  have hV2 : RowR (fun b => w.heap.size ≤ b) w2 (.slice a2 (mk [(10, 10)] true).length c2) (mk [(10, 10)] true) := (RowR.of_own hO2).moved (Nat.le_refl _) fun b _ hb => ⟨Nat.le_trans hgz.size hb, rfl⟩
  have HV2 : Hid (RowR (fun b => w.heap.size ≤ b) w2 (.slice a2 (mk [(10, 10)] true).length c2) (mk [(10, 10)] true)) := hV2
  have HR2 : Hid (RdAt w2 R s (i + 1) o M) := HRz.out.kept (grownBy_of_below hb2 none)
  clear hO2 hb2 hV2
  go_wp2_with fail
  refine (setOf_any _ _ _ hgz2.size HV2.out).mono ?_
  rintro e w3 ⟨v3, rfl, hT3, hg3⟩
  obtain ⟨b3, rfl, _⟩ := hT3.ptr
  have hgz3 := Lib.grownBy_trans hgz2 (hg3 _)
  have HT3 : Hid (Tree (fun b => w.heap.size ≤ b) w3 (.pointer (some ⟨b3, 0, none⟩)) (setRe (mk [(10, 10)] true))) := hT3
  have HS3 : Hid (St W0 w3 R s (i + 1) o M) := HS.out.step hgz3 hi1 (HR2.out.kept (hg3 none))
  clear hT3
  go_wp2
  go_ret
  exact ⟨_, rfl, HT3.out, hgz3, HS3.out⟩

set_option maxHeartbeats 2000000 in
theorem unit_point {W0 w : World} (L : LibC W0) {R i o M : Nat} {s : ByteArray} (h : St W0 w R s i o M) (h1 : cpAt s i ≠ 126) (h2 : cpAt s i ≠ 40) (h3 : cpAt s i ≠ 91) (h4 : cpAt s i ≠ 46) :
    Calls Tryz.prog 136 #[.pointer (some ⟨R, 0, none⟩)] w (Got W0 w R s o M ((pointS s outerS i).map fun x => (setRe [(x.1, x.1)], x.2)) (TreeV w.heap.size)) := by
  have HS : Hid (St W0 w R s i o M) := h
  have HN : Hid (NextC w R (cpAt s i) (szAt s i)) := next_c L h rfl
  have HP : Hid (∀ w, St W0 w R s i o M → Calls Tryz.prog 155 #[.pointer (some ⟨R, 0, none⟩), .string outerB] w (Got W0 w R s o M (pointS s outerS i) IntV)) := fun w h => ppoint_any L h outerB outerS (Or.inl ⟨rfl, rfl⟩)
  generalize pointS s outerS i = pr at *
  generalize cpAt s i = x at *
  generalize szAt s i = z at *
  have b1 : (x == 126) = false := by rw [beq_eq_false_iff_ne]; exact h1
  have b2 : (x == 40) = false := by rw [beq_eq_false_iff_ne]; exact h2
  have b3 : (x == 91) = false := by rw [beq_eq_false_iff_ne]; exact h3
  have b4 : (x == 46) = false := by rw [beq_eq_false_iff_ne]; exact h4
  clear h h1 h2 h3 h4
  go_enter Tryz.func136, Tryz.ntmps136
  go_wp2_with fail
  refine Calls.mono HN.out ?_
  rintro e w1 ⟨rfl, hg⟩
  have hS1 := HS.out.kept hg
  go_wp2_with fail
  refine (HP.out w1 hS1).mono ?_
  intro e w2 hG
  obtain ⟨hg2, ⟨hx, f, rfl⟩ | ⟨⟨p, j⟩, v, hx, rfl, hv, hS2⟩⟩ := hG.both
  · exact ⟨rfl, Got.bad (by rw [hx]; rfl) (Lib.grownBy_trans (hg _) hg2) ⟨f, rfl⟩⟩
  · have hv' : v = .int .i64 p := hv
    subst hv'
    have hg02 := Lib.grownBy_trans (hg (some R)) hg2
    have HX : Hid (pr = some (p, j)) := hx
    have HS2 : Hid (St W0 w2 R s j o M) := hS2
    have hR : RowR (fun b => w.heap.size ≤ b) (w2.alloc (.cells #[.int .i64 p, .int .i64 p] 101)) (.slice (some ⟨w2.heap.size, 0, none⟩) 1 1) [(p, p)] := by
      refine Or.inr ⟨w2.heap.size, 0, 1, rfl, by simp, hg02.size, fun j hj => ?_⟩
      have hj0 : j = 0 := by simpa using hj
      subst hj0
      exact ⟨by simp, by simp⟩
    have HR : Hid (RowR (fun b => w.heap.size ≤ b) (w2.alloc (.cells #[.int .i64 p, .int .i64 p] 101)) (.slice (some ⟨w2.heap.size, 0, none⟩) 1 1) [(p, p)]) := hR
    have hga := Lib.grownBy_allocR hg02 (.cells #[.int .i64 p, .int .i64 p] 101)
    clear hx hG hv hS2 hS1 hR
    go_wp2_with fail
    refine (setOf_any _ _ _ hga.size HR.out).mono ?_
    rintro e w3 ⟨v3, rfl, hT3, hg3⟩
    obtain ⟨b3, rfl, _⟩ := hT3.ptr
    have hgz3 := Lib.grownBy_trans hga (hg3 _)
    have HT3 : Hid (Tree (fun b => w.heap.size ≤ b) w3 (.pointer (some ⟨b3, 0, none⟩)) (setRe [(p, p)])) := hT3
    have HS3 : Hid (St W0 w3 R s j o M) := HS.out.step hgz3 HS2.out.inn ((HS2.out.at_.alloc _).kept (hg3 none))
    clear hT3
    go_wp2
    go_ret
    exact Got.ok (x := (setRe [(p, p)], j)) (Val := TreeV w.heap.size) (by rw [HX.out]; rfl) hgz3 HT3.out HS3.out

theorem brack_same (s : ByteArray) (mk : List Rg → Bool → List Rg) (i : Nat) : brackS s mk i = (brackL s mk i).map fun x => (setRe x.1, x.2) := by
  unfold brackS brackL
  split <;> simp [Option.map_map, Function.comp_def]

theorem unit_any {W0 : World} (L : LibC W0) {mk : List Rg → Bool → List Rg} (C : SetC mk) {s : ByteArray} (hsz : s.size ≤ 60000) (M R : Nat) : ∀ n, n ≤ 100 → UnitC W0 s (100 - n) M R (unitS s mk n) := by
  have leaf : ∀ (o : Nat) w i, St W0 w R s i o M → cpAt s i ≠ 126 → cpAt s i ≠ 40 → cpAt s i ≠ 91 → Calls Tryz.prog 136 #[.pointer (some ⟨R, 0, none⟩)] w (Got W0 w R s o M (leafS s mk i) (TreeV w.heap.size)) := by
    intro o w i h h1 h2 h3
    by_cases h4 : cpAt s i = 46
    · have e : leafS s mk i = some (setRe (mk [(10, 10)] true), i + 1) := by unfold leafS; rw [if_pos h4]
      rw [e]
      refine (unit_dot L C h h4).mono ?_
      rintro e w' ⟨v, rfl, hT, hg, hS⟩
      exact Got.ok (Val := TreeV w.heap.size) rfl hg hT hS
    · have e : leafS s mk i = (pointS s outerS i).map fun x => (setRe [(x.1, x.1)], x.2) := by unfold leafS; rw [if_neg h4]
      rw [e]
      exact unit_point L h h1 h2 h3 h4
  intro n
  induction n with
  | zero =>
    intro _ w i h
    have hno : ∀ c, cpAt s i = c → c = 126 ∨ c = 40 ∨ c = 91 → leafS s mk i = none := by
      intro c hc h3
      unfold leafS pointS
      rcases h3 with rfl | rfl | rfl <;> simp [hc, outerS]
    by_cases h1 : cpAt s i = 126
    · have e : unitS s mk 0 i = none := hno 126 h1 (by simp)
      rw [e]
      exact (unit_full L h 126 h1 (by simp)).mono fun e w' ⟨a, b⟩ => ⟨b, a⟩
    · by_cases h2 : cpAt s i = 40
      · have e : unitS s mk 0 i = none := hno 40 h2 (by simp)
        rw [e]
        exact (unit_full L h 40 h2 (by simp)).mono fun e w' ⟨a, b⟩ => ⟨b, a⟩
      · by_cases h3 : cpAt s i = 91
        · have e : unitS s mk 0 i = none := hno 91 h3 (by simp)
          rw [e]
          exact (unit_full L h 91 h3 (by simp)).mono fun e w' ⟨a, b⟩ => ⟨b, a⟩
        · exact leaf _ w i h h1 h2 h3
  | succ n ih =>
    intro hn w i h
    have ho : 100 - (n + 1) + 1 = 100 - n := by omega
    have hU : UnitC W0 s (100 - (n + 1) + 1) M R (unitS s mk n) := by rw [ho]; exact ih (by omega)
    by_cases h1 : cpAt s i = 126
    · have e : unitS s mk (n + 1) i = (unitS s mk n (i + 1)).map fun x => (notRe x.1, x.2) := by rw [unitS, if_pos h1]
      rw [e]
      exact unit_not L h (by omega) h1 hU
    · by_cases h2 : cpAt s i = 40
      · have e : unitS s mk (n + 1) i = closeS s (patS s (unitS s mk n) (i + 1)) := by rw [unitS, if_neg h1, if_pos h2]; rfl
        rw [e]
        exact unit_par L h (by omega) h2 hU (unitS_goes n)
      · by_cases h3 : cpAt s i = 91
        · have e : unitS s mk (n + 1) i = brackS s mk (i + 1) := by rw [unitS, if_neg h1, if_neg h2, if_pos h3]
          rw [e, brack_same]
          exact unit_set L C h (by omega) hsz h3
        · have e : unitS s mk (n + 1) i = leafS s mk i := by rw [unitS, if_neg h1, if_neg h2, if_neg h3]
          rw [e]
          exact leaf _ w i h h1 h2 h3

end Go.Proofs.YtbjohedenfindaaGreatDoor
