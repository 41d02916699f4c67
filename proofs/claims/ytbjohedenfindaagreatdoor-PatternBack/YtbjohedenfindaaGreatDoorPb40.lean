/- Texts of the proof, put together: WSet, WPut. -/
import Derived.Test.YtbjohedenfindaaGreatDoorPb39
import Derived.Test.YtbjohedenfindaaGreatDoorPb09
namespace Go.Proofs.YtbjohedenfindaaGreatDoor
open Go.RowKit
open Go.Maps (Keyed)
set_option linter.unusedVariables false
set_option maxRecDepth 100000

set_option maxHeartbeats 4000000 in
theorem wset_one {w : World} {b M : Nat} (hE : WrEnv w b M) (hb : b < w.heap.size) (v : Value) (c : Int) (h0 : 0 ≤ c) (h1 : c ≤ 1114111) (hv : Rngs w v [(c, c)]) :
    Calls Tryz.prog 57 #[.pointer (some ⟨b, 0, none⟩), v] w fun e w' => e = .returned (.string (bytesB (ptB outerS c.toNat))) ∧ Below w.heap.size w w' := by
  have HP : Hid (∀ w', Below w.heap.size w w' → Calls Tryz.prog 86 #[.pointer (some ⟨b, 0, none⟩), .int .i64 c, .string outerB] w' fun e w'' => e = .returned (.string (bytesB (ptB outerS c.toNat))) ∧ Below w'.heap.size w' w'') := fun w' h => by
    have := wpoint_any (hE.below h hb) (Nat.lt_of_lt_of_le hb h.size) outerB outerS (.inl ⟨rfl, rfl⟩) c.toNat (by omega)
    rwa [Int.toNat_of_nonneg h0] at this
  rcases hv with ⟨hv, _⟩ | ⟨B, off, cp, rfl, hB, hc⟩
  · cases hv
  · have g := hc 0 (by simp)
    simp only [Nat.zero_mul, Nat.add_zero, List.getD_cons_zero] at g
    obtain ⟨g1, g2⟩ := g
    clear hc hE
    simp only [List.length_singleton]
    go_enter Tryz.func57, Tryz.ntmps57
    go_wp2_with fail
    go_quiet (fail)
    go_wp2_with fail
    go_at_call 86
    refine (HP.out _ (below_drewN w nq)).mono ?_
    rintro e w1 ⟨rfl, hb1⟩
    go_wp2
    go_ret
    exact ⟨rfl, (below_drewN w nq).trans hb1⟩

/-- what a set's text is put together from -/
structure SetH (w : World) (b : Nat) (v : Value) (l o : List Rg) : Prop where
  any : ∀ w', Below w.heap.size w w' → Calls Tryz.prog 88 #[] w' fun e w'' => ∃ x, e = .returned x ∧ Calls Tryz.prog 87 #[v, x] w'' (fun e2 w3 => e2 = .returned (.bool (decide (l = [(0, 9), (11, 1114111)]))) ∧ Below w.heap.size w w3)
  its : ∀ w', Below w.heap.size w w' → Calls Tryz.prog 89 #[.pointer (some ⟨b, 0, none⟩), v] w' fun e w'' => e = .returned (.string (bytesB (itemsB l))) ∧ Below w.heap.size w w''
  oth : ∀ w', Below w.heap.size w w' → Calls Tryz.prog 90 #[v] w' fun e w'' => ∃ x, e = .returned x ∧ Calls Tryz.prog 89 #[.pointer (some ⟨b, 0, none⟩), x] w'' (fun e2 w3 => e2 = .returned (.string (bytesB (itemsB o))) ∧ Below w.heap.size w w3)
theorem setH_of {mk : List Rg → Bool → List Rg} (MK : MkOk mk) (A : MkAll mk) {w : World} {b M : Nat} (hE : WrEnv w b M) (hb : b < w.heap.size) (v : Value) (l : List Rg) (hl : l.length ≤ 9000) (hv : Rngs w v l) (hok : ∀ r ∈ l, RngOk r) : SetH w b v l (mk l true) := by
  have C := setc_of MK
  refine ⟨fun w' hw' => ?_, fun w' hw' => ?_, fun w' hw' => ?_⟩
  · refine (anyBut_any C w').mono ?_
    rintro e w'' ⟨x, rfl, hx, hb2⟩
    rw [MK.dot] at hx
    refine ⟨x, rfl, (equal_any ((hv.below hw').below hb2) hx.rngs (by omega) (by simp)).mono ?_⟩
    rintro e w3 ⟨rfl, hb3⟩
    have h2 := hw'.trans (hb2.mono hw'.size)
    exact ⟨rfl, h2.trans (hb3.mono h2.size)⟩
  · refine (witems_any (hE.below hw' hb) (Nat.lt_of_lt_of_le hb hw'.size) v l (by omega) (hv.below hw') hok).mono ?_
    rintro e w'' ⟨rfl, hb2⟩
    exact ⟨rfl, hw'.trans (hb2.mono hw'.size)⟩
  · refine (C.other v l w' (by omega) (hv.below hw')).mono ?_
    rintro e w'' ⟨x, rfl, hx, hb2⟩
    have h2 := hw'.trans (hb2.mono hw'.size)
    have hcan : canonFrom 0 (mk l true) = true := (upto_canon (A l true hok)).1
    refine ⟨x, rfl, (witems_any (hE.below h2 hb) (Nat.lt_of_lt_of_le hb h2.size) x (mk l true) ?_ hx.rngs (canon_ok hcan)).mono ?_⟩
    · have := MK.len l true; omega
    · rintro e w3 ⟨rfl, hb3⟩
      exact ⟨rfl, h2.trans (hb3.mono h2.size)⟩

set_option maxHeartbeats 4000000 in
theorem wset_many {w : World} {b n c : Nat} {a : Option Addr} {l o : List Rg} (hn : n ≤ 9000) (h1 : n ≠ 1) (H : SetH w b (.slice a n c) l o) (hi : (itemsB l).length ≤ 400000) (ho : (itemsB o).length ≤ 400000) :
    Calls Tryz.prog 57 #[.pointer (some ⟨b, 0, none⟩), .slice a n c] w fun e w' => e = .returned (.string (bytesB (if l = [(0, 9), (11, 1114111)] then [46] else if (itemsB o).length + 3 < (itemsB l).length + 2 then 91 :: 94 :: (itemsB o ++ [93]) else 91 :: (itemsB l ++ [93])))) ∧ Below w.heap.size w w' := by
  have HH : Hid (SetH w b (.slice a n c) l o) := H
  clear H
  have hb1 : ((n : Int) == 1) = false := by rw [beq_eq_false_iff_ne]; omega
  have s1 : (bytesB (itemsB l)).size ≤ 400000 := by rw [bytesB_size]; exact hi
  have s2 : (bytesB (itemsB o)).size ≤ 400000 := by rw [bytesB_size]; exact ho
  have HS1 : Hid ((bytesB (itemsB l)).size = (itemsB l).length) := bytesB_size _
  have HS2 : Hid ((bytesB (itemsB o)).size = (itemsB o).length) := bytesB_size _
  generalize hT : bytesB (if l = [(0, 9), (11, 1114111)] then [46] else if (itemsB o).length + 3 < (itemsB l).length + 2 then 91 :: 94 :: (itemsB o ++ [93]) else 91 :: (itemsB l ++ [93])) = T
  have HT : Hid (bytesB (if l = [(0, 9), (11, 1114111)] then [46] else if (itemsB o).length + 3 < (itemsB l).length + 2 then 91 :: 94 :: (itemsB o ++ [93]) else 91 :: (itemsB l ++ [93])) = T) := hT
  clear hT
  go_enter Tryz.func57, Tryz.ntmps57
  go_wp2_with fail
  go_quiet (fail)
  have hq := below_drewN w nq
  generalize w.drewN nq = w0 at *
  go_wp2_with fail
  go_at_call 88
  refine (HH.out.any _ hq).mono ?_
  rintro e w1 ⟨x, rfl, hx⟩
  have HX : Hid (Calls Tryz.prog 87 #[.slice a n c, x] w1 (fun e2 w3 => e2 = .returned (.bool (decide (l = [(0, 9), (11, 1114111)]))) ∧ Below w.heap.size w w3)) := hx
  clear hx hq
  go_wp2_with fail
  go_at_call 87
  refine HX.out.mono ?_
  rintro e w2 ⟨rfl, hb2⟩
  clear HX
  by_cases hd : l = [(0, 9), (11, 1114111)]
  · have hd2 : decide (l = [(0, 9), (11, 1114111)]) = true := by simp [hd]
    rw [hd2]
    go_wp2
    go_ret
    refine ⟨?_, hb2⟩
    rw [← HT.out, if_pos hd]; rfl
  · have hd2 : decide (l = [(0, 9), (11, 1114111)]) = false := by simp [hd]
    rw [hd2]
    clear hd2
    go_wp2_with fail
    go_at_call 89
    refine (HH.out.its _ hb2).mono ?_
    rintro e w3 ⟨rfl, hb3⟩
    clear hb2
    generalize hA : bytesB (itemsB l) = TA at *
    generalize hB : bytesB (itemsB o) = TB at *
    have HAt : Hid (bytesB (91 :: (itemsB l ++ [93])) = ((⟨#[91]⟩ : ByteArray) ++ TA) ++ (⟨#[93]⟩ : ByteArray)) := by show _ = _; rw [← hA, show (⟨#[91]⟩ : ByteArray) = bytesB [91] from rfl, show (⟨#[93]⟩ : ByteArray) = bytesB [93] from rfl, bytesB_append, bytesB_append]; rfl
    have HBt : Hid (bytesB (91 :: 94 :: (itemsB o ++ [93])) = ((⟨#[91, 94]⟩ : ByteArray) ++ TB) ++ (⟨#[93]⟩ : ByteArray)) := by show _ = _; rw [← hB, show (⟨#[91, 94]⟩ : ByteArray) = bytesB [91, 94] from rfl, show (⟨#[93]⟩ : ByteArray) = bytesB [93] from rfl, bytesB_append, bytesB_append]; rfl
    have HO : Hid (∀ w', Below w.heap.size w w' → Calls Tryz.prog 90 #[.slice a n c] w' fun e w'' => ∃ x, e = .returned x ∧ Calls Tryz.prog 89 #[.pointer (some ⟨b, 0, none⟩), x] w'' (fun e2 w3 => e2 = .returned (.string TB) ∧ Below w.heap.size w w3)) := by
      have := HH.out.oth
      rw [hB] at this
      exact this
    have z1 : (((⟨#[91]⟩ : ByteArray) ++ TA) ++ (⟨#[93]⟩ : ByteArray)).size = (itemsB l).length + 2 := by rw [← HS1.out]; simp [ByteArray.size_append]; show 1 + _ + 1 = _; omega
    have z2 : (((⟨#[91, 94]⟩ : ByteArray) ++ TB) ++ (⟨#[93]⟩ : ByteArray)).size = (itemsB o).length + 3 := by rw [← HS2.out]; simp [ByteArray.size_append]; show 2 + _ + 1 = _; omega
    have HZ1 : Hid ((((⟨#[91]⟩ : ByteArray) ++ TA) ++ (⟨#[93]⟩ : ByteArray)).size = (itemsB l).length + 2) := z1
    have HZ2 : Hid ((((⟨#[91, 94]⟩ : ByteArray) ++ TB) ++ (⟨#[93]⟩ : ByteArray)).size = (itemsB o).length + 3) := z2
    clear hA hB z1 z2
    go_wp2_with fail
    go_at_call 90
    refine (HO.out _ hb3).mono ?_
    rintro e w4 ⟨y, rfl, hy⟩
    have HY : Hid (Calls Tryz.prog 89 #[.pointer (some ⟨b, 0, none⟩), y] w4 (fun e2 w3 => e2 = .returned (.string TB) ∧ Below w.heap.size w w3)) := hy
    clear hy hb3 HO
    go_wp2_with fail
    go_at_call 89
    refine HY.out.mono ?_
    rintro e w5 ⟨rfl, hb5⟩
    clear HY
    have k1 := HS1.out
    have k2 := HS2.out
    generalize (itemsB l).length = la at *
    generalize (itemsB o).length = lo at *
    by_cases hlt : lo + 3 < la + 2
    · have hif : Hid ((if l = [(0, 9), (11, 1114111)] then [46] else if lo + 3 < la + 2 then 91 :: 94 :: (itemsB o ++ [93]) else 91 :: (itemsB l ++ [93])) = 91 :: 94 :: (itemsB o ++ [93])) := by show _ = _; rw [if_neg hd, if_pos hlt]
      clear hd
      go_wp2
      go_ret
      refine ⟨?_, hb5⟩
      rw [← HT.out, hif.out, HBt.out]; rfl
    · have hif : Hid ((if l = [(0, 9), (11, 1114111)] then [46] else if lo + 3 < la + 2 then 91 :: 94 :: (itemsB o ++ [93]) else 91 :: (itemsB l ++ [93])) = 91 :: (itemsB l ++ [93])) := by show _ = _; rw [if_neg hd, if_neg hlt]
      clear hd
      go_wp2
      go_ret
      refine ⟨?_, hb5⟩
      rw [← HT.out, hif.out, HAt.out]; rfl

set_option maxHeartbeats 4000000 in
theorem wset_pair {w : World} {b B off c : Nat} {lo hi : Int} {l o : List Rg} (g1 : w.cell? ⟨B, off, none⟩ = some (.int .i64 lo)) (g2 : w.cell? ⟨B, off + 1, none⟩ = some (.int .i64 hi)) (g3 : lo ≠ hi) (H : SetH w b (.slice (some ⟨B, off, none⟩) 1 c) l o) (hil : (itemsB l).length ≤ 400000) (ho : (itemsB o).length ≤ 400000) :
    Calls Tryz.prog 57 #[.pointer (some ⟨b, 0, none⟩), .slice (some ⟨B, off, none⟩) 1 c] w fun e w' => e = .returned (.string (bytesB (if l = [(0, 9), (11, 1114111)] then [46] else if (itemsB o).length + 3 < (itemsB l).length + 2 then 91 :: 94 :: (itemsB o ++ [93]) else 91 :: (itemsB l ++ [93])))) ∧ Below w.heap.size w w' := by
  have HH : Hid (SetH w b (.slice (some ⟨B, off, none⟩) 1 c) l o) := H
  clear H
  have g4 : (lo == hi) = false := by rw [beq_eq_false_iff_ne]; exact g3
  have s1 : (bytesB (itemsB l)).size ≤ 400000 := by rw [bytesB_size]; exact hil
  have s2 : (bytesB (itemsB o)).size ≤ 400000 := by rw [bytesB_size]; exact ho
  have HS1 : Hid ((bytesB (itemsB l)).size = (itemsB l).length) := bytesB_size _
  have HS2 : Hid ((bytesB (itemsB o)).size = (itemsB o).length) := bytesB_size _
  generalize hT : bytesB (if l = [(0, 9), (11, 1114111)] then [46] else if (itemsB o).length + 3 < (itemsB l).length + 2 then 91 :: 94 :: (itemsB o ++ [93]) else 91 :: (itemsB l ++ [93])) = T
  have HT : Hid (bytesB (if l = [(0, 9), (11, 1114111)] then [46] else if (itemsB o).length + 3 < (itemsB l).length + 2 then 91 :: 94 :: (itemsB o ++ [93]) else 91 :: (itemsB l ++ [93])) = T) := hT
  clear hT
  go_enter Tryz.func57, Tryz.ntmps57
  go_wp2_with fail
  go_quiet (fail)
  have hq := below_drewN w nq
  generalize w.drewN nq = w0 at *
  clear g1 g2 g3 g4
  go_wp2_with fail
  go_at_call 88
  refine (HH.out.any _ hq).mono ?_
  rintro e w1 ⟨x, rfl, hx⟩
  have HX : Hid (Calls Tryz.prog 87 #[.slice (some ⟨B, off, none⟩) 1 c, x] w1 (fun e2 w3 => e2 = .returned (.bool (decide (l = [(0, 9), (11, 1114111)]))) ∧ Below w.heap.size w w3)) := hx
  clear hx hq
  go_wp2_with fail
  go_at_call 87
  refine HX.out.mono ?_
  rintro e w2 ⟨rfl, hb2⟩
  clear HX
  by_cases hd : l = [(0, 9), (11, 1114111)]
  · have hd2 : decide (l = [(0, 9), (11, 1114111)]) = true := by simp [hd]
    rw [hd2]
    go_wp2
    go_ret
    refine ⟨?_, hb2⟩
    rw [← HT.out, if_pos hd]; rfl
  · have hd2 : decide (l = [(0, 9), (11, 1114111)]) = false := by simp [hd]
    rw [hd2]
    clear hd2
    go_wp2_with fail
    go_at_call 89
    refine (HH.out.its _ hb2).mono ?_
    rintro e w3 ⟨rfl, hb3⟩
    clear hb2
    generalize hA : bytesB (itemsB l) = TA at *
    generalize hB : bytesB (itemsB o) = TB at *
    have HAt : Hid (bytesB (91 :: (itemsB l ++ [93])) = ((⟨#[91]⟩ : ByteArray) ++ TA) ++ (⟨#[93]⟩ : ByteArray)) := by show _ = _; rw [← hA, show (⟨#[91]⟩ : ByteArray) = bytesB [91] from rfl, show (⟨#[93]⟩ : ByteArray) = bytesB [93] from rfl, bytesB_append, bytesB_append]; rfl
    have HBt : Hid (bytesB (91 :: 94 :: (itemsB o ++ [93])) = ((⟨#[91, 94]⟩ : ByteArray) ++ TB) ++ (⟨#[93]⟩ : ByteArray)) := by show _ = _; rw [← hB, show (⟨#[91, 94]⟩ : ByteArray) = bytesB [91, 94] from rfl, show (⟨#[93]⟩ : ByteArray) = bytesB [93] from rfl, bytesB_append, bytesB_append]; rfl
    have HO : Hid (∀ w', Below w.heap.size w w' → Calls Tryz.prog 90 #[.slice (some ⟨B, off, none⟩) 1 c] w' fun e w'' => ∃ x, e = .returned x ∧ Calls Tryz.prog 89 #[.pointer (some ⟨b, 0, none⟩), x] w'' (fun e2 w3 => e2 = .returned (.string TB) ∧ Below w.heap.size w w3)) := by
      have := HH.out.oth
      rw [hB] at this
      exact this
    have z1 : (((⟨#[91]⟩ : ByteArray) ++ TA) ++ (⟨#[93]⟩ : ByteArray)).size = (itemsB l).length + 2 := by rw [← HS1.out]; simp [ByteArray.size_append]; show 1 + _ + 1 = _; omega
    have z2 : (((⟨#[91, 94]⟩ : ByteArray) ++ TB) ++ (⟨#[93]⟩ : ByteArray)).size = (itemsB o).length + 3 := by rw [← HS2.out]; simp [ByteArray.size_append]; show 2 + _ + 1 = _; omega
    have HZ1 : Hid ((((⟨#[91]⟩ : ByteArray) ++ TA) ++ (⟨#[93]⟩ : ByteArray)).size = (itemsB l).length + 2) := z1
    have HZ2 : Hid ((((⟨#[91, 94]⟩ : ByteArray) ++ TB) ++ (⟨#[93]⟩ : ByteArray)).size = (itemsB o).length + 3) := z2
    clear hA hB z1 z2
    go_wp2_with fail
    go_at_call 90
    refine (HO.out _ hb3).mono ?_
    rintro e w4 ⟨y, rfl, hy⟩
    have HY : Hid (Calls Tryz.prog 89 #[.pointer (some ⟨b, 0, none⟩), y] w4 (fun e2 w3 => e2 = .returned (.string TB) ∧ Below w.heap.size w w3)) := hy
    clear hy hb3 HO
    go_wp2_with fail
    go_at_call 89
    refine HY.out.mono ?_
    rintro e w5 ⟨rfl, hb5⟩
    clear HY
    have k1 := HS1.out
    have k2 := HS2.out
    generalize (itemsB l).length = la at *
    generalize (itemsB o).length = lb at *
    by_cases hlt : lb + 3 < la + 2
    · have hif : Hid ((if l = [(0, 9), (11, 1114111)] then [46] else if lb + 3 < la + 2 then 91 :: 94 :: (itemsB o ++ [93]) else 91 :: (itemsB l ++ [93])) = 91 :: 94 :: (itemsB o ++ [93])) := by show _ = _; rw [if_neg hd, if_pos hlt]
      clear hd
      go_wp2
      go_ret
      refine ⟨?_, hb5⟩
      rw [← HT.out, hif.out, HBt.out]; rfl
    · have hif : Hid ((if l = [(0, 9), (11, 1114111)] then [46] else if lb + 3 < la + 2 then 91 :: 94 :: (itemsB o ++ [93]) else 91 :: (itemsB l ++ [93])) = 91 :: (itemsB l ++ [93])) := by show _ = _; rw [if_neg hd, if_neg hlt]
      clear hd
      go_wp2
      go_ret
      refine ⟨?_, hb5⟩
      rw [← HT.out, hif.out, HAt.out]; rfl

theorem wset_any {mk : List Rg → Bool → List Rg} (MK : MkOk mk) {w : World} {b M : Nat} (hE : WrEnv w b M) (hb : b < w.heap.size) (v : Value) (l : List Rg) (hl : l.length ≤ 9000) (hv : Rngs w v l) (hok : ∀ r ∈ l, RngOk r) :
    Calls Tryz.prog 57 #[.pointer (some ⟨b, 0, none⟩), v] w fun e w' => e = .returned (.string (bytesB (setB mk l))) ∧ Below w.heap.size w w' := by
  have H := setH_of MK (mk_all MK) hE hb v l hl hv hok
  have hil : (itemsB l).length ≤ 400000 := by have := items_few l hok; omega
  have ho : (itemsB (mk l true)).length ≤ 400000 := by
    have h1 := items_few (mk l true) (canon_ok (upto_canon (mk_all MK l true hok)).1)
    have h2 := MK.len l true
    omega
  by_cases h1 : l.length = 1
  · obtain ⟨⟨lo, hi⟩, rfl⟩ := List.length_eq_one_iff.1 h1
    have hr := hok (lo, hi) (by simp)
    obtain ⟨r0, r1, r2⟩ := hr
    simp only at r0 r1 r2
    by_cases he : lo = hi
    · subst he
      have e : setB mk [(lo, lo)] = ptB outerS lo.toNat := by unfold setB; rw [if_pos (by simp)]; rfl
      rw [e]
      exact wset_one hE hb v lo r0 r2 hv
    · have e : setB mk [(lo, hi)] = (if [(lo, hi)] = [(0, 9), (11, 1114111)] then [46] else if (itemsB (mk [(lo, hi)] true)).length + 3 < (itemsB [(lo, hi)]).length + 2 then 91 :: 94 :: (itemsB (mk [(lo, hi)] true) ++ [93]) else 91 :: (itemsB [(lo, hi)] ++ [93])) := by
        unfold setB; rw [if_neg (by simp; exact he)]
      rw [e]
      rcases hv with ⟨hv, _⟩ | ⟨B, off, cp, rfl, hB, hc⟩
      · cases hv
      · have g := hc 0 (by simp)
        simp only [Nat.zero_mul, Nat.add_zero, List.getD_cons_zero] at g
        exact wset_pair g.1 g.2 he H hil ho
  · obtain ⟨a, c, rfl⟩ := rngs_slice hv
    have e : setB mk l = (if l = [(0, 9), (11, 1114111)] then [46] else if (itemsB (mk l true)).length + 3 < (itemsB l).length + 2 then 91 :: 94 :: (itemsB (mk l true) ++ [93]) else 91 :: (itemsB l ++ [93])) := by
      unfold setB; rw [if_neg (fun h => h1 h.1)]
    rw [e]
    exact wset_many hl h1 H hil ho
end Go.Proofs.YtbjohedenfindaaGreatDoor

namespace Go.Proofs.YtbjohedenfindaaGreatDoor
open Go.RowKit
open Go.Maps (Keyed)
set_option linter.unusedVariables false
set_option maxRecDepth 100000

/-- a writer that has written these bytes -/
structure PW (W0 : World) (b M : Nat) (X : List Nat) (w : World) : Prop where
  bld : Bld W0.heap.size b 73 [.map (some M)] (bc X) w
  bel : Below W0.heap.size W0 w
  sgn : SgnMap w M
  ne : M ≠ b
  db : W0.cell? ⟨13, 15, none⟩ = some (.int .u8 4)
  big : 16 ≤ W0.heap.size
theorem PW.below {W0 w w' : World} {b M : Nat} {X : List Nat} (h : PW W0 b M X w) (hb : Below w.heap.size w w') : PW W0 b M X w' :=
  ⟨h.bld.below hb, h.bel.trans (hb.mono h.bel.size), h.sgn.below hb h.sgn.lt, h.ne, h.db, h.big⟩
theorem PW.put {W0 w w' : World} {b M : Nat} {X Y : List Nat} (h : PW W0 b M X w) (hB : BldU W0.heap.size b 73 [.map (some M)] (bc Y) w') (hF : BFr W0.heap.size b w w') : PW W0 b M Y w' := by
  refine ⟨hB.bld, h.bel.trans hF.1, ?_, h.ne, h.db, h.big⟩
  obtain ⟨n, D, hn, ⟨es, clock, h1, h2⟩, hD⟩ := h.sgn
  exact ⟨n, D, hn, ⟨es, clock, hF.2 M _ h1 (fun e => h.ne (Option.some.inj e)) (fun c fz e => by cases e), h2⟩, hD⟩
theorem PW.env {W0 w : World} {b M : Nat} {X : List Nat} (h : PW W0 b M X w) : WrEnv w b M := by
  refine ⟨?_, h.sgn, (h.bel.cell (p := ⟨13, 15, none⟩) (by show 13 < _; have := h.big; omega)).trans h.db, by have := h.big; have := h.bel.size; omega⟩
  obtain ⟨_, _, p, v, hb, _⟩ := h.bld
  rw [Lib.cell_of_heap hb]; simp
theorem PW.cell {W0 w : World} {b M : Nat} {X : List Nat} (h : PW W0 b M X w) {p : Addr} (hp : p.block < W0.heap.size) : w.cell? p = W0.cell? p := h.bel.cell hp
theorem PW.byte {W0 w : World} {b M : Nat} {X : List Nat} (h : PW W0 b M X w) (c : Nat) (hc : c < 256) (hl : X.length ≤ 1000000) :
    Calls Tryz.prog 55 #[.pointer (some ⟨b, 0, none⟩), .int .u8 (c : Int)] w fun e w' => e = .returned .nilIface ∧ PW W0 b M (X ++ [c]) w' := by
  refine (wbyte_any (c : Int) h.bld (by rw [bc_len]; exact hl) h.bel.size).mono ?_
  rintro e w' ⟨rfl, hB, hF⟩
  rw [bc_one c hc, bc_app] at hB
  exact ⟨rfl, h.put hB hF⟩
theorem PW.str {W0 w : World} {b M : Nat} {X : List Nat} (h : PW W0 b M X w) (y : List Nat) (hl : X.length + y.length ≤ 1000000) :
    Calls Tryz.prog 56 #[.pointer (some ⟨b, 0, none⟩), .string (bytesB y)] w fun e w' => (∃ n : Int, e = .returned (.tuple #[.int .i64 n, .nilIface])) ∧ PW W0 b M (X ++ y) w' := by
  refine (wstr_any (bytesB y) h.bld (by rw [bc_len, bytesB_size]; exact hl) h.bel.size).mono ?_
  rintro e w' ⟨he, hB, hF⟩
  rw [bc_str, bc_app] at hB
  exact ⟨he, h.put hB hF⟩
theorem PW.len {W0 w : World} {b M : Nat} {X : List Nat} (h : PW W0 b M X w) :
    Calls Tryz.prog 30 #[.pointer (some ⟨b, 0, none⟩)] w fun e w' => e = .returned (.int .i64 X.length) ∧ w' = w := by
  have := blen_any h.bld
  rwa [bc_len] at this

/-- what is written of a pattern at a place -/
def KidC (W0 : World) (b M : Nat) (u : Value) (pl : Nat) (T : List Nat) : Prop := ∀ X w, PW W0 b M X w → X.length + T.length ≤ 65536 → Calls Tryz.prog 29 #[.pointer (some ⟨b, 0, none⟩), u, .int .i64 (pl : Int)] w fun e w' => e = .returned (.tuple #[]) ∧ PW W0 b M (X ++ T) w'

theorem flat_take {α : Type} (ts : List (List α)) (k : Nat) (h : k < ts.length) : (ts.take (k + 1)).flatten = (ts.take k).flatten ++ ts.getD k [] := by
  have e : ts.getD k [] = ts[k] := by simp [h]
  rw [e, List.take_succ_eq_append_getElem h, List.flatten_append]
  simp
theorem wflat_len {α : Type} (ts : List (List α)) (k : Nat) : (ts.take k).flatten.length ≤ ts.flatten.length := by
  conv => rhs; rw [← List.take_append_drop k ts]
  rw [List.flatten_append, List.length_append]; omega
theorem join_take (c : Nat) : ∀ (ts : List (List Nat)) (k : Nat) (h : k < ts.length), joinB c (ts.take (k + 1)) = (joinB c (ts.take k) ++ (if k = 0 then [] else [c])) ++ ts.getD k []
  | [], k, h => by simp at h
  | x :: t, 0, h => by simp [joinB]
  | x :: t, k + 1, h => by
    simp only [List.length_cons] at h
    have hk : k < t.length := by omega
    rw [List.take_succ_cons, List.take_succ_cons, if_neg (by omega)]
    have e : (x :: t).getD (k + 1) [] = t[k] := by simp [hk]
    rw [e]
    simp only [joinB]
    rw [List.take_succ_eq_append_getElem hk, List.map_append, List.flatten_append]
    simp only [List.map_cons, List.map_nil, List.flatten_cons, List.flatten_nil, List.append_nil, List.append_assoc, List.cons_append, List.nil_append]
theorem wjoin_len (c : Nat) (ts : List (List Nat)) (k : Nat) : (joinB c (ts.take k)).length ≤ (joinB c ts).length := by
  cases ts with
  | nil => simp
  | cons x t =>
    cases k with
    | zero => simp [joinB]
    | succ k =>
      rw [List.take_succ_cons]
      simp only [joinB, List.length_append]
      have := wflat_len (t.map fun y => c :: y) k
      rw [← List.map_take] at this
      omega

set_option maxHeartbeats 2000000 in
theorem place_any (k : Int) (w : World) : Calls Tryz.prog 54 #[.int .i64 k] w fun e w' => e = .returned (.int .i64 (placeK k : Nat)) ∧ w' = w := by
  by_cases h3 : k = 3
  · subst h3
    go_enter Tryz.func54, Tryz.ntmps54
    go_wp2
    go_ret
    exact ⟨rfl, rfl⟩
  · by_cases h4 : k = 4
    · subst h4
      go_enter Tryz.func54, Tryz.ntmps54
      go_wp2
      go_ret
      exact ⟨rfl, rfl⟩
    · by_cases h2 : k = 2
      · subst h2
        go_enter Tryz.func54, Tryz.ntmps54
        go_wp2
        go_ret
        exact ⟨rfl, rfl⟩
      · by_cases h6 : k = 6
        · subst h6
          go_enter Tryz.func54, Tryz.ntmps54
          go_wp2
          go_ret
          exact ⟨rfl, rfl⟩
        · have e : placeK k = 4 := by unfold placeK; rw [if_neg h3, if_neg h4, if_neg h2, if_neg h6]
          rw [e]
          have n3 : (k == 3) = false := by rw [beq_eq_false_iff_ne]; exact h3
          have n4 : (k == 4) = false := by rw [beq_eq_false_iff_ne]; exact h4
          have n2 : (k == 2) = false := by rw [beq_eq_false_iff_ne]; exact h2
          have n6 : (k == 6) = false := by rw [beq_eq_false_iff_ne]; exact h6
          clear h2 h3 h4 h6 e
          go_enter Tryz.func54, Tryz.ntmps54
          go_wp2
          go_ret
          exact ⟨rfl, rfl⟩

set_option maxHeartbeats 2000000 in
theorem wrow_none {W0 w : World} {b M : Nat} {X : List Nat} (h : PW W0 b M X w) (hX : X.length ≤ 65536) (a : Option Addr) (c : Nat) :
    Calls Tryz.prog 58 #[.pointer (some ⟨b, 0, none⟩), .slice a 0 c] w fun e w' => e = .returned (.tuple #[]) ∧ PW W0 b M (X ++ [40, 41]) w' := by
  have HS : Hid (Calls Tryz.prog 56 #[.pointer (some ⟨b, 0, none⟩), .string ⟨#[40, 41]⟩] w fun e w' => (∃ n : Int, e = .returned (.tuple #[.int .i64 n, .nilIface])) ∧ PW W0 b M (X ++ [40, 41]) w') := h.str [40, 41] (by simp; omega)
  have hb := h.bld.lt
  clear h
  go_enter Tryz.func58, Tryz.ntmps58
  go_wp2_with fail
  go_at_call 56
  refine HS.out.mono ?_
  rintro e w1 ⟨⟨n, rfl⟩, hP⟩
  have HP : Hid (PW W0 b M (X ++ [40, 41]) w1) := hP
  clear hP
  go_wp2
  refine wp_loop_rounds 1 ?_
  rw [rounds_succ]
  go_wp2
  go_end0
  exact ⟨rfl, HP.out⟩

set_option maxHeartbeats 2000000 in
theorem wrow_some {W0 w : World} {b M : Nat} {X : List Nat} (h : PW W0 b M X w) (g off c : Nat) (ts : List (List Nat)) (hn : 1 ≤ ts.length) (hn2 : ts.length ≤ 10000000) (hg : g < W0.heap.size) (hk : ∀ j, j < ts.length → ∃ u, W0.cell? ⟨g, off + j, none⟩ = some u ∧ KidC W0 b M u 3 (ts.getD j [])) (hX : X.length + ts.flatten.length ≤ 65536) :
    Calls Tryz.prog 58 #[.pointer (some ⟨b, 0, none⟩), .slice (some ⟨g, off, none⟩) ts.length c] w fun e w' => e = .returned (.tuple #[]) ∧ PW W0 b M (X ++ ts.flatten) w' := by
  have HK : Hid (∀ j, j < ts.length → ∃ u, W0.cell? ⟨g, off + j, none⟩ = some u ∧ KidC W0 b M u 3 (ts.getD j [])) := hk
  have H0 : Hid (PW W0 b M X w) := h
  clear hk h
  have hnz : ((ts.length : Int) == 0) = false := by rw [beq_eq_false_iff_ne]; omega
  go_enter Tryz.func58, Tryz.ntmps58
  go_wp2
  go_loopw [15] (fun kv wr => ∃ (k : Nat), k ≤ ts.length ∧ kv = .int .i64 k ∧ PW W0 b M (X ++ (ts.take k).flatten) wr) (fun kv _ => ts.length - (intOf kv).toNat)
  case atStart => exact ⟨0, Nat.zero_le _, rfl, by simpa using H0.out⟩
  case round =>
    obtain ⟨k, hk, rfl, hP⟩ := hrel
    by_cases hlt : k < ts.length
    · obtain ⟨u, hu, hC⟩ := HK.out k hlt
      have hc := (hP.cell (p := ⟨g, off + k, none⟩) hg).trans hu
      have hl := wflat_len ts (k + 1)
      have e := flat_take ts k hlt
      have hCall := hC _ _ hP (by rw [e, List.length_append] at hl; rw [List.length_append]; omega)
      rw [List.append_assoc, ← e] at hCall
      have HC : Hid (Calls Tryz.prog 29 #[.pointer (some ⟨b, 0, none⟩), u, .int .i64 3] wr fun e w' => e = .returned (.tuple #[]) ∧ PW W0 b M (X ++ (ts.take (k + 1)).flatten) w') := hCall
      clear hC hCall hu hP e
      go_wp2_with fail
      go_at_call 29
      refine HC.out.mono ?_
      rintro e w1 ⟨rfl, hP1⟩
      have HP1 : Hid (PW W0 b M (X ++ (ts.take (k + 1)).flatten) w1) := hP1
      clear hP1
      go_wp2
      go_roundw
      case rel => exact ⟨k + 1, by omega, by go_num, HP1.out⟩
      case measure => simp [intOf]; omega
    · rw [List.take_of_length_le (by omega)] at hP
      have HP : Hid (PW W0 b M (X ++ ts.flatten) wr) := hP
      clear hP
      go_wp2
      go_end0
      exact ⟨rfl, HP.out⟩

set_option maxHeartbeats 2000000 in
theorem wbetween_any {W0 w : World} {b M : Nat} {X : List Nat} (h : PW W0 b M X w) (g off c s pl : Nat) (hs : s < 256) (hpl : pl ≤ 4) (ts : List (List Nat)) (hn2 : ts.length ≤ 10000000) (hg : g < W0.heap.size) (hk : ∀ j, j < ts.length → ∃ u, W0.cell? ⟨g, off + j, none⟩ = some u ∧ KidC W0 b M u pl (ts.getD j [])) (hX : X.length + (joinB s ts).length ≤ 65536) :
    Calls Tryz.prog 59 #[.pointer (some ⟨b, 0, none⟩), .slice (some ⟨g, off, none⟩) ts.length c, .int .u8 (s : Int), .int .i64 (pl : Int)] w fun e w' => e = .returned (.tuple #[]) ∧ PW W0 b M (X ++ joinB s ts) w' := by
  have HK : Hid (∀ j, j < ts.length → ∃ u, W0.cell? ⟨g, off + j, none⟩ = some u ∧ KidC W0 b M u pl (ts.getD j [])) := hk
  have H0 : Hid (PW W0 b M X w) := h
  clear hk h
  go_enter Tryz.func59, Tryz.ntmps59
  go_wp2
  go_loopw [12] (fun kv wr => ∃ (k : Nat), k ≤ ts.length ∧ kv = .int .i64 k ∧ PW W0 b M (X ++ joinB s (ts.take k)) wr) (fun kv _ => ts.length - (intOf kv).toNat)
  case atStart => exact ⟨0, Nat.zero_le _, rfl, by simpa [joinB] using H0.out⟩
  case round =>
    obtain ⟨k, hk, rfl, hP⟩ := hrel
    by_cases hlt : k < ts.length
    · obtain ⟨u, hu, hC⟩ := HK.out k hlt
      have hc := (hP.cell (p := ⟨g, off + k, none⟩) hg).trans hu
      have hl := wjoin_len s ts (k + 1)
      have e := join_take s ts k hlt
      have hl2 := hl
      rw [e, List.length_append, List.length_append] at hl2
      by_cases h0 : k = 0
      · have hCall := hC _ _ hP (by rw [List.length_append]; omega)
        rw [if_pos h0, List.append_nil] at e
        rw [List.append_assoc, ← e] at hCall
        have HC : Hid (Calls Tryz.prog 29 #[.pointer (some ⟨b, 0, none⟩), u, .int .i64 (pl : Int)] wr fun e w' => e = .returned (.tuple #[]) ∧ PW W0 b M (X ++ joinB s (ts.take (k + 1))) w') := hCall
        clear hC hCall hu hP e hl2
        have h00 : k ≤ 0 := by omega
        clear h0
        go_wp2_with fail
        go_at_call 29
        refine HC.out.mono ?_
        rintro e w1 ⟨rfl, hP1⟩
        have HP1 : Hid (PW W0 b M (X ++ joinB s (ts.take (k + 1))) w1) := hP1
        clear hP1
        go_wp2
        go_roundw
        case rel => exact ⟨k + 1, by omega, by go_num, HP1.out⟩
        case measure => simp [intOf]; omega
      · rw [if_neg h0] at e hl2
        simp only [List.length_singleton] at hl2
        have hB := hP.byte s hs (by rw [List.length_append]; omega)
        have HB : Hid (Calls Tryz.prog 55 #[.pointer (some ⟨b, 0, none⟩), .int .u8 (s : Int)] wr fun e w' => e = .returned .nilIface ∧ PW W0 b M ((X ++ joinB s (ts.take k)) ++ [s]) w') := hB
        have HC : Hid (∀ w', PW W0 b M ((X ++ joinB s (ts.take k)) ++ [s]) w' → Calls Tryz.prog 29 #[.pointer (some ⟨b, 0, none⟩), u, .int .i64 (pl : Int)] w' fun e w'' => e = .returned (.tuple #[]) ∧ PW W0 b M (X ++ joinB s (ts.take (k + 1))) w'') := fun w' h => by
          have := hC _ _ h (by rw [List.length_append, List.length_append, List.length_singleton]; omega)
          rw [e]
          simpa only [List.append_assoc] using this
        have hkp : 0 < k := by omega
        clear hC hB hu hP e hl2 h0
        go_wp2_with fail
        go_at_call 55
        refine HB.out.mono ?_
        rintro e w1 ⟨rfl, hP1⟩
        have HP1 : Hid (PW W0 b M ((X ++ joinB s (ts.take k)) ++ [s]) w1) := hP1
        clear hP1 HB hc
        go_wp2_with fail
        go_at_call 29
        refine (HC.out _ HP1.out).mono ?_
        rintro e w2 ⟨rfl, hP2⟩
        have HP2 : Hid (PW W0 b M (X ++ joinB s (ts.take (k + 1))) w2) := hP2
        clear hP2 HP1
        go_wp2
        go_roundw
        case rel => exact ⟨k + 1, by omega, by go_num, HP2.out⟩
        case measure => simp [intOf]; omega
    · rw [List.take_of_length_le (by omega)] at hP
      have HP : Hid (PW W0 b M (X ++ joinB s ts) wr) := hP
      clear hP
      go_wp2
      go_end0
      exact ⟨rfl, HP.out⟩
end Go.Proofs.YtbjohedenfindaaGreatDoor
