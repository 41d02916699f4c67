/- The program: what the productions of a name say of its length. -/
import Derived.Test.YtbgnhegfabpjnaaGLen
namespace Go.Proofs.Ytbgnhegfabpjnaa
open Go.RowKit
set_option linter.unusedVariables false
set_option maxRecDepth 100000

/-- the best of some productions -/
def bestL (f : Nat → Option Nat) (l : List PdR) : Option Nat := l.foldl (fun acc p => minO acc (capO (rowL f p.right))) none
theorem bestL_snoc (f : Nat → Option Nat) (l : List PdR) (p : PdR) : bestL f (l ++ [p]) = minO (bestL f l) (capO (rowL f p.right)) := by
  simp [bestL, List.foldl_append]
theorem bestL_take (f : Nat → Option Nat) (l : List PdR) (k : Nat) (hk : k < l.length) : bestL f (l.take (k + 1)) = minO (bestL f (l.take k)) (capO (rowL f (l.getD k noPd).right)) := by
  rw [List.take_succ_eq_append_getElem hk, bestL_snoc]
  simp [List.getD, hk]
theorem foldl_min (f : Nat → Option Nat) : ∀ (l : List PdR) (a : Option Nat), leO (l.foldl (fun acc p => minO acc (capO (rowL f p.right))) a) a ∧ (∀ p ∈ l, leO (l.foldl (fun acc p => minO acc (capO (rowL f p.right))) a) (capO (rowL f p.right))) ∧ (l.foldl (fun acc p => minO acc (capO (rowL f p.right))) a = a ∨ ∃ p ∈ l, l.foldl (fun acc p => minO acc (capO (rowL f p.right))) a = capO (rowL f p.right))
  | [], a => ⟨leO.refl _, fun p hp => (by cases hp), .inl rfl⟩
  | q :: l, a => by
    obtain ⟨h1, h2, h3⟩ := foldl_min f l (minO a (capO (rowL f q.right)))
    simp only [List.foldl_cons]
    refine ⟨h1.trans (minO_left _ _), fun p hp => ?_, ?_⟩
    · rcases List.mem_cons.1 hp with rfl | hp
      · exact h1.trans (minO_right _ _)
      · exact h2 p hp
    · rcases h3 with h3 | ⟨p, hp, h3⟩
      · rcases minO_eq a (capO (rowL f q.right)) with e | e
        · exact .inl (h3.trans e)
        · exact .inr ⟨q, by simp, h3.trans e⟩
      · exact .inr ⟨p, by simp [hp], h3⟩
/-- the productions of a name -/
def ownL (ps : List PdR) (n : Nat) : List PdR := ps.filter fun p => decide (p.left = (n : Int))
theorem bestL_says (f : Nat → Option Nat) (ps : List PdR) (hl : ∀ p ∈ ps, 0 ≤ p.left) (n : Nat) : bestL f (ownL ps n) = saysL (prsS ps) f n := by
  obtain ⟨_, h2, h3⟩ := foldl_min f (ownL ps n) none
  refine leO.antisymm ?_ ?_
  · rcases saysL_of (prsS ps) f n with e | ⟨q, hq, hqn, e⟩
    · rw [e]; cases bestL f (ownL ps n) <;> trivial
    · rw [e]
      obtain ⟨p, hp, rfl⟩ := List.mem_map.1 hq
      refine h2 p (List.mem_filter.2 ⟨hp, decide_eq_true ?_⟩)
      have := hl p hp
      have hqn' : p.left.toNat = n := hqn
      omega
  · rcases h3 with h3 | ⟨p, hp, h3⟩
    · show leO _ (bestL f (ownL ps n))
      rw [show bestL f (ownL ps n) = none from h3]
      cases saysL (prsS ps) f n <;> trivial
    · rw [show bestL f (ownL ps n) = capO (rowL f p.right) from h3]
      obtain ⟨hp1, hp2⟩ := List.mem_filter.1 hp
      have hpn : p.left = (n : Int) := of_decide_eq_true hp2
      have := saysL_le (f := f) (List.mem_map.2 ⟨p, hp1, rfl⟩ : prS p ∈ prsS ps)
      have e : (prS p).left = n := by show p.left.toNat = n; omega
      rw [e] at this
      exact this
theorem capO_range (a : Option Nat) : -1 ≤ codeO (capO a) ∧ codeO (capO a) ≤ 1000000 := by
  unfold capO codeO; cases a <;> simp <;> omega
theorem bestL_range (f : Nat → Option Nat) (l : List PdR) : -1 ≤ codeO (bestL f l) ∧ codeO (bestL f l) ≤ 1000000 := by
  rcases (foldl_min f l none).2.2 with h | ⟨p, _, h⟩
  · rw [show bestL f l = none from h]; exact ⟨by show (-1 : Int) ≤ -1; omega, by show (-1 : Int) ≤ 1000000; omega⟩
  · rw [show bestL f l = capO (rowL f p.right) from h]; exact capO_range _
theorem codeO_min (a b : Option Nat) : codeO (minO a b) = if codeO b = -1 then codeO a else if codeO a = -1 then codeO b else if codeO b < codeO a then codeO b else codeO a := by
  cases a with
  | none =>
    cases b with
    | none => rfl
    | some y =>
      show (y : Int) = if (y : Int) = -1 then (-1 : Int) else if (-1 : Int) = -1 then (y : Int) else if (y : Int) < -1 then (y : Int) else -1
      rw [if_neg (by omega), if_pos rfl]
  | some x =>
    cases b with
    | none => show (x : Int) = _; simp [codeO]
    | some y =>
      show ((min x y : Nat) : Int) = if (y : Int) = -1 then (x : Int) else if (x : Int) = -1 then (y : Int) else if (y : Int) < (x : Int) then (y : Int) else (x : Int)
      rw [if_neg (by omega), if_neg (by omega)]
      split <;> omega

/-- the productions of each name in memory, by a variable -/
def OwnM (w : World) (O N : Nat) (own : Nat → List PdR) : Prop :=
  ∃ D, O < w.heap.size ∧ D < w.heap.size ∧ w.cell? ⟨O, 0, none⟩ = some (.slice (some ⟨D, 0, none⟩) N N) ∧ ∀ n, n < N → ∃ v, w.cell? ⟨D, n, none⟩ = some v ∧ PdsM w v (own n)
theorem OwnM.below {w w' : World} {O N : Nat} {own : Nat → List PdR} (h : OwnM w O N own) (hb : Below w.heap.size w w') : OwnM w' O N own := by
  obtain ⟨D, h1, h2, h3, h4⟩ := h
  refine ⟨D, Nat.lt_of_lt_of_le h1 hb.size, Nat.lt_of_lt_of_le h2 hb.size, (hb.cell (p := ⟨O, 0, none⟩) h1).trans h3, fun n hn => ?_⟩
  obtain ⟨v, h5, h6⟩ := h4 n hn
  exact ⟨v, (hb.cell (p := ⟨D, n, none⟩) h2).trans h5, h6.below hb⟩

set_option maxHeartbeats 4000000 in
theorem lengthsC_any (N : Nat) (hN : N ≤ 300) (own : Nat → List PdR) (L : List Int) (v : Value) (n O : Nat) (hn : n < N) (w : World) (hol : (own n).length ≤ 400) (hsy : ∀ p ∈ own n, SymsL N p.right) (hL : LenL N L) (hv : IntsR w v L) (hO : OwnM w O N own) :
    Calls Try.prog 22 #[v, .int .i64 n, .pointer (some ⟨O, 0, none⟩)] w fun e w' => e = .returned (.int .i64 (codeO (bestL (factO L) (own n)))) ∧ Below w.heap.size w w' := by
  obtain ⟨D, hOl, hDl, cO, hown⟩ := hO
  obtain ⟨ov, cD, hov⟩ := hown n hn
  clear hown
  generalize own n = l at *
  obtain ⟨oa, oc, rfl⟩ := hov.slice
  have HOV : Hid (PdsM w (.slice oa l.length oc) l) := hov
  clear hov
  obtain ⟨va, vc, rfl⟩ := hv.slice
  have HV : Hid (IntsR w (.slice va L.length vc) L) := hv
  clear hv
  have HLL : Hid (LenL N L) := hL
  have HSY : Hid (∀ p ∈ l, SymsL N p.right) := hsy
  clear hL hsy
  go_enter Try.func22, Try.ntmps22
  go_wp2
  go_loopw [6, 15] (fun x i wr => ∃ (k : Nat) (z : Int), k ≤ l.length ∧ x = .int .i64 z ∧ i = .int .i64 k ∧ -1 ≤ z ∧ z ≤ 1000000 ∧ Hid (codeO (bestL (factO L) (l.take k)) = z) ∧ Below w.heap.size w wr) (fun _ i _ => l.length - (intOf i).toNat)
  case atStart => exact ⟨0, -1, Nat.zero_le _, rfl, rfl, by omega, by omega, (by show _ = _; rfl), Below.refl _ _⟩
  case round =>
    obtain ⟨k, z, hk, rfl, rfl, hz1, hz2, HZ, hbw⟩ := hrel
    have hsz := hbw.size
    by_cases hlt : k < l.length
    · obtain ⟨b, off, rv, rfl, hb, hpd⟩ := (HOV.out.below hbw).at hlt
      have HT : Hid (codeO (bestL (factO L) (l.take (k + 1))) = codeO (minO (bestL (factO L) (l.take k)) (capO (rowL (factO L) (l.getD k noPd).right)))) := by show _ = _; rw [bestL_take _ _ _ hlt]
      have hSy := HSY.out (l.getD k noPd) (by simp [List.getD, hlt])
      generalize l.getD k noPd = p at *
      obtain ⟨left, right, level⟩ := p
      obtain ⟨c0, c1, c2, hr⟩ := hpd
      simp only at c0 c1 c2 hr HT hSy
      have hA := alloc_below wr (.cells #[.int .i64 left, rv, .int .i64 level] 33)
      have hAs := alloc_size wr (.cells #[.int .i64 left, rv, .int .i64 level] 33)
      have hCa := rowLength_any N hN right L rv (.slice va L.length vc) (wr.alloc (.cells #[.int .i64 left, rv, .int .i64 level] 33)) hSy HLL.out (hr.below hA) ((HV.out.below hbw).below hA)
      obtain ⟨p0, p1, p2⟩ := box3_cells wr (.int .i64 left) rv (.int .i64 level) 33
      obtain ⟨ra, rc, rfl⟩ := hr.slice
      clear hr hSy
      have hbA := hbw.trans (hA.mono hsz)
      have HY := capO_range (rowL (factO L) right)
      have HCM := codeO_min (bestL (factO L) (l.take k)) (capO (rowL (factO L) right))
      rw [HZ.out] at HCM
      rw [HCM] at HT
      clear HCM HZ
      generalize codeO (capO (rowL (factO L) right)) = y at *
      have hlt9 : wr.heap.size < (wr.alloc (.cells #[.int .i64 left, .slice ra right.length rc, .int .i64 level] 33)).heap.size := by rw [hAs]; exact Nat.lt_succ_self _
      have HCa : Hid (Calls Try.prog 23 #[.slice ra right.length rc, .slice va L.length vc] (wr.alloc (.cells #[.int .i64 left, .slice ra right.length rc, .int .i64 level] 33)) fun e w' => e = .returned (.int .i64 y) ∧ w' = (wr.alloc (.cells #[.int .i64 left, .slice ra right.length rc, .int .i64 level] 33))) := hCa
      clear hCa hAs hA
      obtain ⟨hy1, hy2⟩ := HY
      go_wp2_with fail
      refine HCa.out.mono ?_
      rintro e w1 ⟨rfl, rfl⟩
      clear HCa p0 p1 p2
      by_cases g1 : y = -1
      · have HT2 : Hid (codeO (bestL (factO L) (l.take (k + 1))) = z) := by show _ = _; rw [HT.out, if_pos g1]
        subst g1
        clear HT
        go_wp2
        go_roundw
        case rel => exact ⟨k + 1, z, by omega, rfl, by go_num, by omega, by omega, HT2, hbA⟩
        case measure => simp [intOf]; omega
      have e1 : (y != -1) = true := by rw [bne_iff_ne]; exact g1
      by_cases g2 : z = -1
      · have HT2 : Hid (codeO (bestL (factO L) (l.take (k + 1))) = y) := by show _ = _; rw [HT.out, if_neg g1, if_pos g2]
        subst g2
        clear HT g1
        go_wp2
        go_roundw
        case rel => exact ⟨k + 1, y, by omega, rfl, by go_num, by omega, by omega, HT2, hbA⟩
        case measure => simp [intOf]; omega
      have e2 : (z == -1) = false := by rw [beq_eq_false_iff_ne]; exact g2
      by_cases g3 : y < z
      · have HT2 : Hid (codeO (bestL (factO L) (l.take (k + 1))) = y) := by show _ = _; rw [HT.out, if_neg g1, if_neg g2, if_pos g3]
        have e3 : decide (y < z) = true := decide_eq_true g3
        clear HT g1 g2
        go_wp2
        go_roundw
        case rel => exact ⟨k + 1, y, by omega, rfl, by go_num, by omega, by omega, HT2, hbA⟩
        case measure => simp [intOf]; omega
      · have HT2 : Hid (codeO (bestL (factO L) (l.take (k + 1))) = z) := by show _ = _; rw [HT.out, if_neg g1, if_neg g2, if_neg g3]
        have e3 : decide (y < z) = false := decide_eq_false g3
        clear HT g1 g2
        go_wp2
        go_roundw
        case rel => exact ⟨k + 1, z, by omega, rfl, by go_num, by omega, by omega, HT2, hbA⟩
        case measure => simp [intOf]; omega
    · have HE : Hid (codeO (bestL (factO L) l) = z) := by
        have := HZ.out
        rw [List.take_of_length_le (by omega)] at this
        exact this
      go_wp2
      go_ret
      exact ⟨by rw [HE.out]; rfl, hbw⟩

end Go.Proofs.Ytbgnhegfabpjnaa
