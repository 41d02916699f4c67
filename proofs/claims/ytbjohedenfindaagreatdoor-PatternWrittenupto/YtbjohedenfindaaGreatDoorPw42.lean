/- Texts of the proof, put together: WSet. -/
import Derived.Test.YtbjohedenfindaaGreatDoorPw41
namespace Go.Proofs.YtbjohedenfindaaGreatDoor
open Go.RowKit
open Go.Maps (Keyed)
set_option linter.unusedVariables false
set_option maxRecDepth 100000

set_option maxHeartbeats 4000000 in
theorem wset_one {w : World} {b M : Nat} (hE : WrEnv w b M) (hb : b < w.heap.size) (v : Value) (c : Int) (h0 : 0 ≤ c) (h1 : c ≤ 1114111) (hv : Rngs w v [(c, c)]) :
    Calls Tryz.prog 57 #[.pointer (some ⟨b, 0, none⟩), v] w fun e w' => e = .returned (.string (bytesB (ptB outerS c.toNat))) ∧ Below w.heap.size w w' := by
  have HP : Hid (∀ w', Below w.heap.size w w' → Calls Tryz.prog 86 #[.pointer (some ⟨b, 0, none⟩), .int .i64 c, .string outerB] w' fun e w'' => e = .returned (.string (bytesB (ptB outerS c.toNat))) ∧ Below w'.heap.size w' w'') := fun w' h => by
    have := wpoint_any (hE.below h hb) (Nat.lt_of_lt_of_le hb h.size) outerB outerS (.inl ⟨rfl, rfl⟩) c.toNat (by omega)
    rwa [Int.toNat_of_nonneg h0] at this
  rcases hv with ⟨hv, _⟩ | ⟨B, off, cp, rfl, hB, hc⟩
  · cases hv
  · have g := hc 0 (by simp)
    simp only [Nat.zero_mul, Nat.add_zero, List.getD_cons_zero] at g
    obtain ⟨g1, g2⟩ := g
    clear hc hE
    simp only [List.length_singleton]
    go_enter Tryz.func57, Tryz.ntmps57
    go_wp2_with fail
    go_quiet (fail)
    go_wp2_with fail
    go_at_call 86
    refine (HP.out _ (below_drewN w nq)).mono ?_
    rintro e w1 ⟨rfl, hb1⟩
    go_wp2
    go_ret
    exact ⟨rfl, (below_drewN w nq).trans hb1⟩

/-- what a set's text is put together from -/
structure SetH (w : World) (b : Nat) (v : Value) (l o : List Rg) : Prop where
  any : ∀ w', Below w.heap.size w w' → Calls Tryz.prog 88 #[] w' fun e w'' => ∃ x, e = .returned x ∧ Calls Tryz.prog 87 #[v, x] w'' (fun e2 w3 => e2 = .returned (.bool (decide (l = [(0, 9), (11, 1114111)]))) ∧ Below w.heap.size w w3)
  its : ∀ w', Below w.heap.size w w' → Calls Tryz.prog 89 #[.pointer (some ⟨b, 0, none⟩), v] w' fun e w'' => e = .returned (.string (bytesB (itemsB l))) ∧ Below w.heap.size w w''
  oth : ∀ w', Below w.heap.size w w' → Calls Tryz.prog 90 #[v] w' fun e w'' => ∃ x, e = .returned x ∧ Calls Tryz.prog 89 #[.pointer (some ⟨b, 0, none⟩), x] w'' (fun e2 w3 => e2 = .returned (.string (bytesB (itemsB o))) ∧ Below w.heap.size w w3)
theorem setH_of {mk : List Rg → Bool → List Rg} (MK : MkOk mk) (A : MkAll mk) {w : World} {b M : Nat} (hE : WrEnv w b M) (hb : b < w.heap.size) (v : Value) (l : List Rg) (hl : l.length ≤ 9000) (hv : Rngs w v l) (hok : ∀ r ∈ l, RngOk r) : SetH w b v l (mk l true) := by
  have C := setc_of MK
  refine ⟨fun w' hw' => ?_, fun w' hw' => ?_, fun w' hw' => ?_⟩
  · refine (anyBut_any C w').mono ?_
    rintro e w'' ⟨x, rfl, hx, hb2⟩
    rw [MK.dot] at hx
    refine ⟨x, rfl, (equal_any ((hv.below hw').below hb2) hx.rngs (by omega) (by simp)).mono ?_⟩
    rintro e w3 ⟨rfl, hb3⟩
    have h2 := hw'.trans (hb2.mono hw'.size)
    exact ⟨rfl, h2.trans (hb3.mono h2.size)⟩
  · refine (witems_any (hE.below hw' hb) (Nat.lt_of_lt_of_le hb hw'.size) v l (by omega) (hv.below hw') hok).mono ?_
    rintro e w'' ⟨rfl, hb2⟩
    exact ⟨rfl, hw'.trans (hb2.mono hw'.size)⟩
  · refine (C.other v l w' (by omega) (hv.below hw')).mono ?_
    rintro e w'' ⟨x, rfl, hx, hb2⟩
    have h2 := hw'.trans (hb2.mono hw'.size)
    have hcan : canonFrom 0 (mk l true) = true := (upto_canon (A l true hok)).1
    refine ⟨x, rfl, (witems_any (hE.below h2 hb) (Nat.lt_of_lt_of_le hb h2.size) x (mk l true) ?_ hx.rngs (canon_ok hcan)).mono ?_⟩
    · have := MK.len l true; omega
    · rintro e w3 ⟨rfl, hb3⟩
      exact ⟨rfl, h2.trans (hb3.mono h2.size)⟩

set_option maxHeartbeats 4000000 in
theorem wset_many {w : World} {b n c : Nat} {a : Option Addr} {l o : List Rg} (hn : n ≤ 9000) (h1 : n ≠ 1) (H : SetH w b (.slice a n c) l o) (hi : (itemsB l).length ≤ 400000) (ho : (itemsB o).length ≤ 400000) :
    Calls Tryz.prog 57 #[.pointer (some ⟨b, 0, none⟩), .slice a n c] w fun e w' => e = .returned (.string (bytesB (if l = [(0, 9), (11, 1114111)] then [46] else if (itemsB o).length + 3 < (itemsB l).length + 2 then 91 :: 94 :: (itemsB o ++ [93]) else 91 :: (itemsB l ++ [93])))) ∧ Below w.heap.size w w' := by
  have HH : Hid (SetH w b (.slice a n c) l o) := H
  clear H
  have hb1 : ((n : Int) == 1) = false := by rw [beq_eq_false_iff_ne]; omega
  have s1 : (bytesB (itemsB l)).size ≤ 400000 := by rw [bytesB_size]; exact hi
  have s2 : (bytesB (itemsB o)).size ≤ 400000 := by rw [bytesB_size]; exact ho
  have HS1 : Hid ((bytesB (itemsB l)).size = (itemsB l).length) := bytesB_size _
  have HS2 : Hid ((bytesB (itemsB o)).size = (itemsB o).length) := bytesB_size _
  generalize hT : bytesB (if l = [(0, 9), (11, 1114111)] then [46] else if (itemsB o).length + 3 < (itemsB l).length + 2 then 91 :: 94 :: (itemsB o ++ [93]) else 91 :: (itemsB l ++ [93])) = T
  have HT : Hid (bytesB (if l = [(0, 9), (11, 1114111)] then [46] else if (itemsB o).length + 3 < (itemsB l).length + 2 then 91 :: 94 :: (itemsB o ++ [93]) else 91 :: (itemsB l ++ [93])) = T) := hT
  clear hT
  go_enter Tryz.func57, Tryz.ntmps57
  go_wp2_with fail
  go_quiet (fail)
  have hq := below_drewN w nq
  generalize w.drewN nq = w0 at *
  go_wp2_with fail
  go_at_call 88
  refine (HH.out.any _ hq).mono ?_
  rintro e w1 ⟨x, rfl, hx⟩
  have HX : Hid (Calls Tryz.prog 87 #[.slice a n c, x] w1 (fun e2 w3 => e2 = .returned (.bool (decide (l = [(0, 9), (11, 1114111)]))) ∧ Below w.heap.size w w3)) := hx
  clear hx hq
  go_wp2_with fail
  go_at_call 87
  refine HX.out.mono ?_
  rintro e w2 ⟨rfl, hb2⟩
  clear HX
  by_cases hd : l = [(0, 9), (11, 1114111)]
  · have hd2 : decide (l = [(0, 9), (11, 1114111)]) = true := by simp [hd]
    rw [hd2]
    go_wp2
    go_ret
    refine ⟨?_, hb2⟩
    rw [← HT.out, if_pos hd]; rfl
  · have hd2 : decide (l = [(0, 9), (11, 1114111)]) = false := by simp [hd]
    rw [hd2]
    clear hd2
    go_wp2_with fail
    go_at_call 89
    refine (HH.out.its _ hb2).mono ?_
    rintro e w3 ⟨rfl, hb3⟩
    clear hb2
    generalize hA : bytesB (itemsB l) = TA at *
    generalize hB : bytesB (itemsB o) = TB at *
    have HAt : Hid (bytesB (91 :: (itemsB l ++ [93])) = ((⟨#[91]⟩ : ByteArray) ++ TA) ++ (⟨#[93]⟩ : ByteArray)) := by show _ = _; rw [← hA, show (⟨#[91]⟩ : ByteArray) = bytesB [91] from rfl, show (⟨#[93]⟩ : ByteArray) = bytesB [93] from rfl, bytesB_append, bytesB_append]; rfl
    have HBt : Hid (bytesB (91 :: 94 :: (itemsB o ++ [93])) = ((⟨#[91, 94]⟩ : ByteArray) ++ TB) ++ (⟨#[93]⟩ : ByteArray)) := by show _ = _; rw [← hB, show (⟨#[91, 94]⟩ : ByteArray) = bytesB [91, 94] from rfl, show (⟨#[93]⟩ : ByteArray) = bytesB [93] from rfl, bytesB_append, bytesB_append]; rfl
    have HO : Hid (∀ w', Below w.heap.size w w' → Calls Tryz.prog 90 #[.slice a n c] w' fun e w'' => ∃ x, e = .returned x ∧ Calls Tryz.prog 89 #[.pointer (some ⟨b, 0, none⟩), x] w'' (fun e2 w3 => e2 = .returned (.string TB) ∧ Below w.heap.size w w3)) := by
      have := HH.out.oth
      rw [hB] at this
      exact this
    have z1 : (((⟨#[91]⟩ : ByteArray) ++ TA) ++ (⟨#[93]⟩ : ByteArray)).size = (itemsB l).length + 2 := by rw [← HS1.out]; simp [ByteArray.size_append]; show 1 + _ + 1 = _; omega
    have z2 : (((⟨#[91, 94]⟩ : ByteArray) ++ TB) ++ (⟨#[93]⟩ : ByteArray)).size = (itemsB o).length + 3 := by rw [← HS2.out]; simp [ByteArray.size_append]; show 2 + _ + 1 = _; omega
    have HZ1 : Hid ((((⟨#[91]⟩ : ByteArray) ++ TA) ++ (⟨#[93]⟩ : ByteArray)).size = (itemsB l).length + 2) := z1
    have HZ2 : Hid ((((⟨#[91, 94]⟩ : ByteArray) ++ TB) ++ (⟨#[93]⟩ : ByteArray)).size = (itemsB o).length + 3) := z2
    clear hA hB z1 z2
    go_wp2_with fail
    go_at_call 90
    refine (HO.out _ hb3).mono ?_
    rintro e w4 ⟨y, rfl, hy⟩
    have HY : Hid (Calls Tryz.prog 89 #[.pointer (some ⟨b, 0, none⟩), y] w4 (fun e2 w3 => e2 = .returned (.string TB) ∧ Below w.heap.size w w3)) := hy
    clear hy hb3 HO
    go_wp2_with fail
    go_at_call 89
    refine HY.out.mono ?_
    rintro e w5 ⟨rfl, hb5⟩
    clear HY
    have k1 := HS1.out
    have k2 := HS2.out
    generalize (itemsB l).length = la at *
    generalize (itemsB o).length = lo at *
    by_cases hlt : lo + 3 < la + 2
    · have hif : Hid ((if l = [(0, 9), (11, 1114111)] then [46] else if lo + 3 < la + 2 then 91 :: 94 :: (itemsB o ++ [93]) else 91 :: (itemsB l ++ [93])) = 91 :: 94 :: (itemsB o ++ [93])) := by show _ = _; rw [if_neg hd, if_pos hlt]
      clear hd
      go_wp2
      go_ret
      refine ⟨?_, hb5⟩
      rw [← HT.out, hif.out, HBt.out]; rfl
    · have hif : Hid ((if l = [(0, 9), (11, 1114111)] then [46] else if lo + 3 < la + 2 then 91 :: 94 :: (itemsB o ++ [93]) else 91 :: (itemsB l ++ [93])) = 91 :: (itemsB l ++ [93])) := by show _ = _; rw [if_neg hd, if_neg hlt]
      clear hd
      go_wp2
      go_ret
      refine ⟨?_, hb5⟩
      rw [← HT.out, hif.out, HAt.out]; rfl

set_option maxHeartbeats 4000000 in
theorem wset_pair {w : World} {b B off c : Nat} {lo hi : Int} {l o : List Rg} (g1 : w.cell? ⟨B, off, none⟩ = some (.int .i64 lo)) (g2 : w.cell? ⟨B, off + 1, none⟩ = some (.int .i64 hi)) (g3 : lo ≠ hi) (H : SetH w b (.slice (some ⟨B, off, none⟩) 1 c) l o) (hil : (itemsB l).length ≤ 400000) (ho : (itemsB o).length ≤ 400000) :
    Calls Tryz.prog 57 #[.pointer (some ⟨b, 0, none⟩), .slice (some ⟨B, off, none⟩) 1 c] w fun e w' => e = .returned (.string (bytesB (if l = [(0, 9), (11, 1114111)] then [46] else if (itemsB o).length + 3 < (itemsB l).length + 2 then 91 :: 94 :: (itemsB o ++ [93]) else 91 :: (itemsB l ++ [93])))) ∧ Below w.heap.size w w' := by
  have HH : Hid (SetH w b (.slice (some ⟨B, off, none⟩) 1 c) l o) := H
  clear H
  have g4 : (lo == hi) = false := by rw [beq_eq_false_iff_ne]; exact g3
  have s1 : (bytesB (itemsB l)).size ≤ 400000 := by rw [bytesB_size]; exact hil
  have s2 : (bytesB (itemsB o)).size ≤ 400000 := by rw [bytesB_size]; exact ho
  have HS1 : Hid ((bytesB (itemsB l)).size = (itemsB l).length) := bytesB_size _
  have HS2 : Hid ((bytesB (itemsB o)).size = (itemsB o).length) := bytesB_size _
  generalize hT : bytesB (if l = [(0, 9), (11, 1114111)] then [46] else if (itemsB o).length + 3 < (itemsB l).length + 2 then 91 :: 94 :: (itemsB o ++ [93]) else 91 :: (itemsB l ++ [93])) = T
  have HT : Hid (bytesB (if l = [(0, 9), (11, 1114111)] then [46] else if (itemsB o).length + 3 < (itemsB l).length + 2 then 91 :: 94 :: (itemsB o ++ [93]) else 91 :: (itemsB l ++ [93])) = T) := hT
  clear hT
  go_enter Tryz.func57, Tryz.ntmps57
  go_wp2_with fail
  go_quiet (fail)
  have hq := below_drewN w nq
  generalize w.drewN nq = w0 at *
  clear g1 g2 g3 g4
  go_wp2_with fail
  go_at_call 88
  refine (HH.out.any _ hq).mono ?_
  rintro e w1 ⟨x, rfl, hx⟩
  have HX : Hid (Calls Tryz.prog 87 #[.slice (some ⟨B, off, none⟩) 1 c, x] w1 (fun e2 w3 => e2 = .returned (.bool (decide (l = [(0, 9), (11, 1114111)]))) ∧ Below w.heap.size w w3)) := hx
  clear hx hq
  go_wp2_with fail
  go_at_call 87
  refine HX.out.mono ?_
  rintro e w2 ⟨rfl, hb2⟩
  clear HX
  by_cases hd : l = [(0, 9), (11, 1114111)]
  · have hd2 : decide (l = [(0, 9), (11, 1114111)]) = true := by simp [hd]
    rw [hd2]
    go_wp2
    go_ret
    refine ⟨?_, hb2⟩
    rw [← HT.out, if_pos hd]; rfl
  · have hd2 : decide (l = [(0, 9), (11, 1114111)]) = false := by simp [hd]
    rw [hd2]
    clear hd2
    go_wp2_with fail
    go_at_call 89
    refine (HH.out.its _ hb2).mono ?_
    rintro e w3 ⟨rfl, hb3⟩
    clear hb2
    generalize hA : bytesB (itemsB l) = TA at *
    generalize hB : bytesB (itemsB o) = TB at *
    have HAt : Hid (bytesB (91 :: (itemsB l ++ [93])) = ((⟨#[91]⟩ : ByteArray) ++ TA) ++ (⟨#[93]⟩ : ByteArray)) := by show _ = _; rw [← hA, show (⟨#[91]⟩ : ByteArray) = bytesB [91] from rfl, show (⟨#[93]⟩ : ByteArray) = bytesB [93] from rfl, bytesB_append, bytesB_append]; rfl
    have HBt : Hid (bytesB (91 :: 94 :: (itemsB o ++ [93])) = ((⟨#[91, 94]⟩ : ByteArray) ++ TB) ++ (⟨#[93]⟩ : ByteArray)) := by show _ = _; rw [← hB, show (⟨#[91, 94]⟩ : ByteArray) = bytesB [91, 94] from rfl, show (⟨#[93]⟩ : ByteArray) = bytesB [93] from rfl, bytesB_append, bytesB_append]; rfl
    have HO : Hid (∀ w', Below w.heap.size w w' → Calls Tryz.prog 90 #[.slice (some ⟨B, off, none⟩) 1 c] w' fun e w'' => ∃ x, e = .returned x ∧ Calls Tryz.prog 89 #[.pointer (some ⟨b, 0, none⟩), x] w'' (fun e2 w3 => e2 = .returned (.string TB) ∧ Below w.heap.size w w3)) := by
      have := HH.out.oth
      rw [hB] at this
      exact this
    have z1 : (((⟨#[91]⟩ : ByteArray) ++ TA) ++ (⟨#[93]⟩ : ByteArray)).size = (itemsB l).length + 2 := by rw [← HS1.out]; simp [ByteArray.size_append]; show 1 + _ + 1 = _; omega
    have z2 : (((⟨#[91, 94]⟩ : ByteArray) ++ TB) ++ (⟨#[93]⟩ : ByteArray)).size = (itemsB o).length + 3 := by rw [← HS2.out]; simp [ByteArray.size_append]; show 2 + _ + 1 = _; omega
    have HZ1 : Hid ((((⟨#[91]⟩ : ByteArray) ++ TA) ++ (⟨#[93]⟩ : ByteArray)).size = (itemsB l).length + 2) := z1
    have HZ2 : Hid ((((⟨#[91, 94]⟩ : ByteArray) ++ TB) ++ (⟨#[93]⟩ : ByteArray)).size = (itemsB o).length + 3) := z2
    clear hA hB z1 z2
    go_wp2_with fail
    go_at_call 90
    refine (HO.out _ hb3).mono ?_
    rintro e w4 ⟨y, rfl, hy⟩
    have HY : Hid (Calls Tryz.prog 89 #[.pointer (some ⟨b, 0, none⟩), y] w4 (fun e2 w3 => e2 = .returned (.string TB) ∧ Below w.heap.size w w3)) := hy
    clear hy hb3 HO
    go_wp2_with fail
    go_at_call 89
    refine HY.out.mono ?_
    rintro e w5 ⟨rfl, hb5⟩
    clear HY
    have k1 := HS1.out
    have k2 := HS2.out
    generalize (itemsB l).length = la at *
    generalize (itemsB o).length = lb at *
    by_cases hlt : lb + 3 < la + 2
    · have hif : Hid ((if l = [(0, 9), (11, 1114111)] then [46] else if lb + 3 < la + 2 then 91 :: 94 :: (itemsB o ++ [93]) else 91 :: (itemsB l ++ [93])) = 91 :: 94 :: (itemsB o ++ [93])) := by show _ = _; rw [if_neg hd, if_pos hlt]
      clear hd
      go_wp2
      go_ret
      refine ⟨?_, hb5⟩
      rw [← HT.out, hif.out, HBt.out]; rfl
    · have hif : Hid ((if l = [(0, 9), (11, 1114111)] then [46] else if lb + 3 < la + 2 then 91 :: 94 :: (itemsB o ++ [93]) else 91 :: (itemsB l ++ [93])) = 91 :: (itemsB l ++ [93])) := by show _ = _; rw [if_neg hd, if_neg hlt]
      clear hd
      go_wp2
      go_ret
      refine ⟨?_, hb5⟩
      rw [← HT.out, hif.out, HAt.out]; rfl

theorem wset_any {mk : List Rg → Bool → List Rg} (MK : MkOk mk) {w : World} {b M : Nat} (hE : WrEnv w b M) (hb : b < w.heap.size) (v : Value) (l : List Rg) (hl : l.length ≤ 9000) (hv : Rngs w v l) (hok : ∀ r ∈ l, RngOk r) :
    Calls Tryz.prog 57 #[.pointer (some ⟨b, 0, none⟩), v] w fun e w' => e = .returned (.string (bytesB (setB mk l))) ∧ Below w.heap.size w w' := by
  have H := setH_of MK (mk_all MK) hE hb v l hl hv hok
  have hil : (itemsB l).length ≤ 400000 := by have := items_few l hok; omega
  have ho : (itemsB (mk l true)).length ≤ 400000 := by
    have h1 := items_few (mk l true) (canon_ok (upto_canon (mk_all MK l true hok)).1)
    have h2 := MK.len l true
    omega
  by_cases h1 : l.length = 1
  · obtain ⟨⟨lo, hi⟩, rfl⟩ := List.length_eq_one_iff.1 h1
    have hr := hok (lo, hi) (by simp)
    obtain ⟨r0, r1, r2⟩ := hr
    simp only at r0 r1 r2
    by_cases he : lo = hi
    · subst he
      have e : setB mk [(lo, lo)] = ptB outerS lo.toNat := by unfold setB; rw [if_pos (by simp)]; rfl
      rw [e]
      exact wset_one hE hb v lo r0 r2 hv
    · have e : setB mk [(lo, hi)] = (if [(lo, hi)] = [(0, 9), (11, 1114111)] then [46] else if (itemsB (mk [(lo, hi)] true)).length + 3 < (itemsB [(lo, hi)]).length + 2 then 91 :: 94 :: (itemsB (mk [(lo, hi)] true) ++ [93]) else 91 :: (itemsB [(lo, hi)] ++ [93])) := by
        unfold setB; rw [if_neg (by simp; exact he)]
      rw [e]
      rcases hv with ⟨hv, _⟩ | ⟨B, off, cp, rfl, hB, hc⟩
      · cases hv
      · have g := hc 0 (by simp)
        simp only [Nat.zero_mul, Nat.add_zero, List.getD_cons_zero] at g
        exact wset_pair g.1 g.2 he H hil ho
  · obtain ⟨a, c, rfl⟩ := rngs_slice hv
    have e : setB mk l = (if l = [(0, 9), (11, 1114111)] then [46] else if (itemsB (mk l true)).length + 3 < (itemsB l).length + 2 then 91 :: 94 :: (itemsB (mk l true) ++ [93]) else 91 :: (itemsB l ++ [93])) := by
      unfold setB; rw [if_neg (fun h => h1 h.1)]
    rw [e]
    exact wset_many hl h1 H hil ho
end Go.Proofs.YtbjohedenfindaaGreatDoor
