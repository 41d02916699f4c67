/- Texts of the proof, put together: GLenC, GWrk. -/
import Derived.Test.YtmkimaceioacgaaDoorGk21
namespace Go.Proofs.YtmkimaceioacgaaDoor
open Go.RowKit
set_option linter.unusedVariables false
set_option maxRecDepth 100000

/-- the best of some productions -/
def bestL (f : Nat → Option Nat) (l : List PdR) : Option Nat := l.foldl (fun acc p => minO acc (capO (rowL f p.right))) none
theorem bestL_snoc (f : Nat → Option Nat) (l : List PdR) (p : PdR) : bestL f (l ++ [p]) = minO (bestL f l) (capO (rowL f p.right)) := by
  simp [bestL, List.foldl_append]
theorem bestL_take (f : Nat → Option Nat) (l : List PdR) (k : Nat) (hk : k < l.length) : bestL f (l.take (k + 1)) = minO (bestL f (l.take k)) (capO (rowL f (l.getD k noPd).right)) := by
  rw [List.take_succ_eq_append_getElem hk, bestL_snoc]
  simp [List.getD, hk]
theorem foldl_min (f : Nat → Option Nat) : ∀ (l : List PdR) (a : Option Nat), leO (l.foldl (fun acc p => minO acc (capO (rowL f p.right))) a) a ∧ (∀ p ∈ l, leO (l.foldl (fun acc p => minO acc (capO (rowL f p.right))) a) (capO (rowL f p.right))) ∧ (l.foldl (fun acc p => minO acc (capO (rowL f p.right))) a = a ∨ ∃ p ∈ l, l.foldl (fun acc p => minO acc (capO (rowL f p.right))) a = capO (rowL f p.right))
  | [], a => ⟨leO.refl _, fun p hp => (by cases hp), .inl rfl⟩
  | q :: l, a => by
    obtain ⟨h1, h2, h3⟩ := foldl_min f l (minO a (capO (rowL f q.right)))
    simp only [List.foldl_cons]
    refine ⟨h1.trans (minO_left _ _), fun p hp => ?_, ?_⟩
    · rcases List.mem_cons.1 hp with rfl | hp
      · exact h1.trans (minO_right _ _)
      · exact h2 p hp
    · rcases h3 with h3 | ⟨p, hp, h3⟩
      · rcases minO_eq a (capO (rowL f q.right)) with e | e
        · exact .inl (h3.trans e)
        · exact .inr ⟨q, by simp, h3.trans e⟩
      · exact .inr ⟨p, by simp [hp], h3⟩
/-- the productions of a name -/
theorem bestL_says (f : Nat → Option Nat) (ps : List PdR) (hl : ∀ p ∈ ps, 0 ≤ p.left) (n : Nat) : bestL f (ownL ps n) = saysL (prsS ps) f n := by
  obtain ⟨_, h2, h3⟩ := foldl_min f (ownL ps n) none
  refine leO.antisymm ?_ ?_
  · rcases saysL_of (prsS ps) f n with e | ⟨q, hq, hqn, e⟩
    · rw [e]; cases bestL f (ownL ps n) <;> trivial
    · rw [e]
      obtain ⟨p, hp, rfl⟩ := List.mem_map.1 hq
      refine h2 p (List.mem_filter.2 ⟨hp, decide_eq_true ?_⟩)
      have := hl p hp
      have hqn' : p.left.toNat = n := hqn
      omega
  · rcases h3 with h3 | ⟨p, hp, h3⟩
    · show leO _ (bestL f (ownL ps n))
      rw [show bestL f (ownL ps n) = none from h3]
      cases saysL (prsS ps) f n <;> trivial
    · rw [show bestL f (ownL ps n) = capO (rowL f p.right) from h3]
      obtain ⟨hp1, hp2⟩ := List.mem_filter.1 hp
      have hpn : p.left = (n : Int) := of_decide_eq_true hp2
      have := saysL_le (f := f) (List.mem_map.2 ⟨p, hp1, rfl⟩ : prS p ∈ prsS ps)
      have e : (prS p).left = n := by show p.left.toNat = n; omega
      rw [e] at this
      exact this
theorem capO_range (a : Option Nat) : -1 ≤ codeO (capO a) ∧ codeO (capO a) ≤ 1000000 := by
  unfold capO codeO; cases a <;> simp <;> omega
theorem bestL_range (f : Nat → Option Nat) (l : List PdR) : -1 ≤ codeO (bestL f l) ∧ codeO (bestL f l) ≤ 1000000 := by
  rcases (foldl_min f l none).2.2 with h | ⟨p, _, h⟩
  · rw [show bestL f l = none from h]; exact ⟨by show (-1 : Int) ≤ -1; omega, by show (-1 : Int) ≤ 1000000; omega⟩
  · rw [show bestL f l = capO (rowL f p.right) from h]; exact capO_range _
theorem codeO_min (a b : Option Nat) : codeO (minO a b) = if codeO b = -1 then codeO a else if codeO a = -1 then codeO b else if codeO b < codeO a then codeO b else codeO a := by
  cases a with
  | none =>
    cases b with
    | none => rfl
    | some y =>
      show (y : Int) = if (y : Int) = -1 then (-1 : Int) else if (-1 : Int) = -1 then (y : Int) else if (y : Int) < -1 then (y : Int) else -1
      rw [if_neg (by omega), if_pos rfl]
  | some x =>
    cases b with
    | none => show (x : Int) = _; simp [codeO]
    | some y =>
      show ((min x y : Nat) : Int) = if (y : Int) = -1 then (x : Int) else if (x : Int) = -1 then (y : Int) else if (y : Int) < (x : Int) then (y : Int) else (x : Int)
      rw [if_neg (by omega), if_neg (by omega)]
      split <;> omega

set_option maxHeartbeats 4000000 in
theorem lengthsC_any (N : Nat) (hN : N ≤ 300) (own : Nat → List PdR) (L : List Int) (v : Value) (n O : Nat) (hn : n < N) (w : World) (hol : (own n).length ≤ 400) (hsy : ∀ p ∈ own n, SymsL N p.right) (hL : LenL N L) (hv : IntsR w v L) (hO : OwnM w O N own) :
    Calls Tryd.prog 37 #[v, .int .i64 n, .pointer (some ⟨O, 0, none⟩)] w fun e w' => e = .returned (.int .i64 (codeO (bestL (factO L) (own n)))) ∧ Below w.heap.size w w' := by
  obtain ⟨D, hOl, hDl, cO, hown⟩ := hO
  obtain ⟨ov, cD, hov⟩ := hown n hn
  clear hown
  generalize own n = l at *
  obtain ⟨oa, oc, rfl⟩ := hov.slice
  have HOV : Hid (PdsM w (.slice oa l.length oc) l) := hov
  clear hov
  obtain ⟨va, vc, rfl⟩ := hv.slice
  have HV : Hid (IntsR w (.slice va L.length vc) L) := hv
  clear hv
  have HLL : Hid (LenL N L) := hL
  have HSY : Hid (∀ p ∈ l, SymsL N p.right) := hsy
  clear hL hsy
  go_enter Tryd.func37, Tryd.ntmps37
  go_wp2
  go_loopw [6, 15] (fun x i wr => ∃ (k : Nat) (z : Int), k ≤ l.length ∧ x = .int .i64 z ∧ i = .int .i64 k ∧ -1 ≤ z ∧ z ≤ 1000000 ∧ Hid (codeO (bestL (factO L) (l.take k)) = z) ∧ Below w.heap.size w wr) (fun _ i _ => l.length - (intOf i).toNat)
  case atStart => exact ⟨0, -1, Nat.zero_le _, rfl, rfl, by omega, by omega, (by show _ = _; rfl), Below.refl _ _⟩
  case round =>
    obtain ⟨k, z, hk, rfl, rfl, hz1, hz2, HZ, hbw⟩ := hrel
    have hsz := hbw.size
    by_cases hlt : k < l.length
    · obtain ⟨b, off, rv, rfl, hb, hpd⟩ := (HOV.out.below hbw).at hlt
      have HT : Hid (codeO (bestL (factO L) (l.take (k + 1))) = codeO (minO (bestL (factO L) (l.take k)) (capO (rowL (factO L) (l.getD k noPd).right)))) := by show _ = _; rw [bestL_take _ _ _ hlt]
      have hSy := HSY.out (l.getD k noPd) (by simp [List.getD, hlt])
      generalize l.getD k noPd = p at *
      obtain ⟨left, right, level⟩ := p
      obtain ⟨c0, c1, c2, hr⟩ := hpd
      simp only at c0 c1 c2 hr HT hSy
      have hA := alloc_below wr (.cells #[.int .i64 left, rv, .int .i64 level] 38)
      have hAs := alloc_size wr (.cells #[.int .i64 left, rv, .int .i64 level] 38)
      have hCa := rowLength_any N hN right L rv (.slice va L.length vc) (wr.alloc (.cells #[.int .i64 left, rv, .int .i64 level] 38)) hSy HLL.out (hr.below hA) ((HV.out.below hbw).below hA)
      obtain ⟨p0, p1, p2⟩ := box3_cells wr (.int .i64 left) rv (.int .i64 level) 38
      obtain ⟨ra, rc, rfl⟩ := hr.slice
      clear hr hSy
      have hbA := hbw.trans (hA.mono hsz)
      have HY := capO_range (rowL (factO L) right)
      have HCM := codeO_min (bestL (factO L) (l.take k)) (capO (rowL (factO L) right))
      rw [HZ.out] at HCM
      rw [HCM] at HT
      clear HCM HZ
      generalize codeO (capO (rowL (factO L) right)) = y at *
      have hlt9 : wr.heap.size < (wr.alloc (.cells #[.int .i64 left, .slice ra right.length rc, .int .i64 level] 38)).heap.size := by rw [hAs]; exact Nat.lt_succ_self _
      have HCa : Hid (Calls Tryd.prog 38 #[.slice ra right.length rc, .slice va L.length vc] (wr.alloc (.cells #[.int .i64 left, .slice ra right.length rc, .int .i64 level] 38)) fun e w' => e = .returned (.int .i64 y) ∧ w' = (wr.alloc (.cells #[.int .i64 left, .slice ra right.length rc, .int .i64 level] 38))) := hCa
      clear hCa hAs hA
      obtain ⟨hy1, hy2⟩ := HY
      go_wp2_with fail
      refine HCa.out.mono ?_
      rintro e w1 ⟨rfl, rfl⟩
      clear HCa p0 p1 p2
      by_cases g1 : y = -1
      · have HT2 : Hid (codeO (bestL (factO L) (l.take (k + 1))) = z) := by show _ = _; rw [HT.out, if_pos g1]
        subst g1
        clear HT
        go_wp2
        go_roundw
        case rel => exact ⟨k + 1, z, by omega, rfl, by go_num, by omega, by omega, HT2, hbA⟩
        case measure => simp [intOf]; omega
      have e1 : (y != -1) = true := by rw [bne_iff_ne]; exact g1
      by_cases g2 : z = -1
      · have HT2 : Hid (codeO (bestL (factO L) (l.take (k + 1))) = y) := by show _ = _; rw [HT.out, if_neg g1, if_pos g2]
        subst g2
        clear HT g1
        go_wp2
        go_roundw
        case rel => exact ⟨k + 1, y, by omega, rfl, by go_num, by omega, by omega, HT2, hbA⟩
        case measure => simp [intOf]; omega
      have e2 : (z == -1) = false := by rw [beq_eq_false_iff_ne]; exact g2
      by_cases g3 : y < z
      · have HT2 : Hid (codeO (bestL (factO L) (l.take (k + 1))) = y) := by show _ = _; rw [HT.out, if_neg g1, if_neg g2, if_pos g3]
        have e3 : decide (y < z) = true := decide_eq_true g3
        clear HT g1 g2
        go_wp2
        go_roundw
        case rel => exact ⟨k + 1, y, by omega, rfl, by go_num, by omega, by omega, HT2, hbA⟩
        case measure => simp [intOf]; omega
      · have HT2 : Hid (codeO (bestL (factO L) (l.take (k + 1))) = z) := by show _ = _; rw [HT.out, if_neg g1, if_neg g2, if_neg g3]
        have e3 : decide (y < z) = false := decide_eq_false g3
        clear HT g1 g2
        go_wp2
        go_roundw
        case rel => exact ⟨k + 1, z, by omega, rfl, by go_num, by omega, by omega, HT2, hbA⟩
        case measure => simp [intOf]; omega
    · have HE : Hid (codeO (bestL (factO L) l) = z) := by
        have := HZ.out
        rw [List.take_of_length_le (by omega)] at this
        exact this
      go_wp2
      go_ret
      exact ⟨by rw [HE.out]; rfl, hbw⟩

end Go.Proofs.YtmkimaceioacgaaDoor

namespace Go.Proofs.YtmkimaceioacgaaDoor
set_option linter.unusedVariables false

theorem rowL_same {f g : Nat → Option Nat} : ∀ (r : List Int), (∀ s ∈ r, s < 0 → f (-1 - s).toNat = g (-1 - s).toNat) → rowL f r = rowL g r
  | [], _ => rfl
  | s :: r, h => by
    have ih := rowL_same r fun x hx => h x (by simp [hx])
    have e : (if s < 0 then f (-1 - s).toNat else some 1) = (if s < 0 then g (-1 - s).toNat else some 1) := by
      by_cases hs : s < 0
      · rw [if_pos hs, if_pos hs]; exact h s (by simp) hs
      · rw [if_neg hs, if_neg hs]
    unfold rowL
    rw [ih, e]
theorem saysL_same {f g : Nat → Option Nat} {n : Nat} : ∀ (ps : List PrS), (∀ p ∈ ps, p.left = n → ∀ s ∈ p.right, s < 0 → f (-1 - s).toNat = g (-1 - s).toNat) → saysL ps f n = saysL ps g n
  | [], _ => rfl
  | q :: ps, h => by
    have ih := saysL_same ps fun p hp => h p (by simp [hp])
    show (if q.left = n then minO (capO (rowL f q.right)) (saysL ps f n) else saysL ps f n) = (if q.left = n then minO (capO (rowL g q.right)) (saysL ps g n) else saysL ps g n)
    by_cases e : q.left = n
    · rw [if_pos e, if_pos e, ih, rowL_same q.right (h q (by simp) e)]
    · rw [if_neg e, if_neg e, ih]
/-- a name stands in a production of another -/
def Dep (ps : List PrS) (m n : Nat) : Prop := ∃ p ∈ ps, p.left = m ∧ ∃ s ∈ p.right, s < 0 ∧ (-1 - s).toNat = n
/-- what holds while names wait -/
structure WkI (ps : List PrS) (N : Nat) (L : List Int) (opn : Nat → Prop) : Prop where
  lens : LenL N L
  sound : SoundL ps (factO L)
  mono : ∀ n, n < N → leO (saysL ps (factO L) n) (factO L n)
  closed : ∀ n, n < N → ¬ opn n → factO L n = saysL ps (factO L) n
theorem WkI.weaken {ps : List PrS} {N : Nat} {L : List Int} {o o' : Nat → Prop} (h : WkI ps N L o) (hw : ∀ n, n < N → o n → o' n) : WkI ps N L o' :=
  ⟨h.lens, h.sound, h.mono, fun n hn ho => h.closed n hn fun h' => ho (hw n hn h')⟩
theorem WkI.start (ps : List PrS) (N : Nat) (L : List Int) (hl : L.length = N) (h : ∀ j, j < N → L.getD j 0 = -1) (o : Nat → Prop) (ho : ∀ n, n < N → o n) : WkI ps N L o := by
  have hs := ShI.start ps N L hl h
  have h' : ∀ n, L.getD n (-1) = -1 := fun n => by
    by_cases hn : n < L.length
    · have := h n (by omega)
      simp [List.getD, hn] at this ⊢; exact this
    · simp [List.getD, List.getElem?_eq_none (Nat.le_of_not_lt hn)]
  have hf : ∀ n, factO L n = none := fun n => by unfold factO; rw [h']; rfl
  exact ⟨⟨hl, hs.lo, hs.hi⟩, hs.sound, fun n _ => by rw [hf]; cases saysL ps (factO L) n <;> trivial, fun n hn hno => absurd (ho n hn) hno⟩
/-- a name that says nothing new -/
theorem WkI.same {ps : List PrS} {N : Nat} {L : List Int} {o o' : Nat → Prop} (h : WkI ps N L o) {n : Nat} (he : factO L n = saysL ps (factO L) n) (hw : ∀ m, m < N → o m → m ≠ n → o' m) : WkI ps N L o' :=
  ⟨h.lens, h.sound, h.mono, fun m hm ho => by
    by_cases e : m = n
    · rw [e]; exact he
    · exact h.closed m hm fun h' => ho (hw m hm h' e)⟩
theorem says_range (ps : List PrS) (f : Nat → Option Nat) (n : Nat) : -1 ≤ codeO (saysL ps f n) ∧ codeO (saysL ps f n) ≤ 1000000 := by
  rcases saysL_of ps f n with e | ⟨p, _, _, e⟩
  · rw [e]; exact ⟨by show (-1 : Int) ≤ -1; omega, by show (-1 : Int) ≤ 1000000; omega⟩
  · rw [e]; exact capO_range _
theorem factO_set {N : Nat} {L : List Int} (hl : L.length = N) {n : Nat} (hn : n < N) (a : Option Nat) (m : Nat) : factO (L.set n (codeO a)) m = if m = n then a else factO L m := by
  unfold factO
  by_cases e : m = n
  · rw [if_pos e, e]
    have : (L.set n (codeO a)).getD n (-1) = codeO a := by simp [List.getD, hl, hn]
    rw [this, codeO_opt]
  · rw [if_neg e]
    have : (L.set n (codeO a)).getD m (-1) = L.getD m (-1) := by
      simp only [List.getD]
      rw [List.getElem?_set_ne (Ne.symm e)]
    rw [this]
theorem sound_says {ps : List PrS} {f : Nat → Option Nat} (hs : SoundL ps f) (n : Nat) : ∃ h, leO (bestH ps h n) (saysL ps f n) := by
  rcases saysL_of ps f n with e | ⟨p, hp, rfl, e⟩
  · exact ⟨0, by rw [e]; cases bestH ps 0 n <;> trivial⟩
  · rw [e]; exact hs.step hp
/-- a name that says something new -/
theorem WkI.set {ps : List PrS} {N : Nat} {L : List Int} {o o' : Nat → Prop} (h : WkI ps N L o) {n : Nat} (hn : n < N) (hw : ∀ m, m < N → o m → m ≠ n → o' m) (hd : ∀ m, m < N → Dep ps m n → o' m) : WkI ps N (L.set n (codeO (saysL ps (factO L) n))) o' := by
  have hf := factO_set h.lens.len hn (saysL ps (factO L) n)
  have hle : ∀ m, leO (factO (L.set n (codeO (saysL ps (factO L) n))) m) (factO L m) := fun m => by
    rw [hf]
    split
    · rename_i e; rw [e]; exact h.mono n hn
    · exact leO.refl _
  have hg : ∀ m, (L.set n (codeO (saysL ps (factO L) n))).getD m (-1) = if m = n then codeO (saysL ps (factO L) n) else L.getD m (-1) := fun m => by
    by_cases e : m = n
    · rw [if_pos e, e]; simp [List.getD, h.lens.len, hn]
    · rw [if_neg e]
      simp only [List.getD]
      rw [List.getElem?_set_ne (Ne.symm e)]
  have hr := says_range ps (factO L) n
  refine ⟨⟨by rw [List.length_set]; exact h.lens.len, fun m => ?_, fun m => ?_⟩, fun m => ?_, fun m hm => ?_, fun m hm ho => ?_⟩
  · rw [hg]; split
    · exact hr.1
    · exact h.lens.lo m
  · rw [hg]; split
    · exact hr.2
    · exact h.lens.hi m
  · rw [hf]; split
    · rename_i e; rw [e]; exact sound_says h.sound n
    · exact h.sound m
  · have h1 := saysL_mono (ps := ps) hle m
    rw [hf]; split
    · rename_i e; rw [e] at h1 ⊢; exact h1
    · exact h1.trans (h.mono m hm)
  · have hsame : saysL ps (factO (L.set n (codeO (saysL ps (factO L) n)))) m = saysL ps (factO L) m := by
      apply saysL_same
      intro p hp hpl s hs hs0
      rw [hf]
      rw [if_neg]
      intro e
      exact ho (hd m hm ⟨p, hp, hpl, s, hs, hs0, e⟩)
    rw [hsame, hf]
    split
    · rename_i e; rw [e]
    · rename_i e
      exact h.closed m hm fun h' => ho (hw m hm h' e)
/-- where nothing waits any more -/
theorem WkI.final {ps : List PrS} {N : Nat} {L : List Int} (h : WkI ps N L fun _ => False) (hN : ∀ p ∈ ps, p.left < N) (n : Nat) : factO L n = bestH ps N n := by
  refine facts_unique (ps := ps) (fun p hp => ?_) h.sound (fun p hp => ?_) (fun m => ⟨N, leO.refl _⟩) n
  · rw [h.closed p.left (hN p hp) (fun h' => h')]
    exact saysL_le hp
  · have e : bestH ps N p.left = saysL ps (bestH ps N) p.left := ((fin_all ps N hN p.left) (N + 1) (by omega)).symm
    rw [e]
    exact saysL_le hp
/-- how much may still be found -/
def rkZ (z : Int) : Nat := if z < 0 then 1000001 else z.toNat
def rkL (L : List Int) : Nat := (L.map rkZ).sum
theorem rkL_set : ∀ (L : List Int) (n : Nat) (z : Int), n < L.length → rkZ z < rkZ (L.getD n (-1)) → rkL (L.set n z) < rkL L
  | [], n, z, hn, _ => by simp at hn
  | x :: L, 0, z, _, h => by
    have : rkZ z < rkZ x := by simpa using h
    show rkZ z + rkL L < rkZ x + rkL L
    omega
  | x :: L, n + 1, z, hn, h => by
    have := rkL_set L n z (by simpa using hn) (by simpa using h)
    show rkZ x + rkL (L.set n z) < rkZ x + rkL L
    omega
theorem rk_less {L : List Int} {n : Nat} {a : Option Nat} (hlo : -1 ≤ L.getD n (-1)) (hhi : L.getD n (-1) ≤ 1000000) (ha : codeO a ≤ 1000000) (h : leO a (factO L n)) (hne : codeO a ≠ L.getD n (-1)) : rkZ (codeO a) < rkZ (L.getD n (-1)) := by
  unfold factO optI at h
  unfold rkZ
  generalize L.getD n (-1) = z at *
  cases a with
  | none =>
    by_cases hz : z < 0
    · exact absurd (show (-1 : Int) = z by omega) hne
    · rw [if_neg hz] at h; exact h.elim
  | some x =>
    have h0 : ¬ (codeO (some x) < 0) := by show ¬ ((x : Int) < 0); omega
    rw [if_neg h0]
    by_cases hz : z < 0
    · rw [if_pos hz]
      have : (codeO (some x)).toNat = x := by show ((x : Int)).toNat = x; simp
      have h2 : (x : Int) ≤ 1000000 := ha
      omega
    · rw [if_neg hz] at h ⊢
      have h2 : x ≤ z.toNat := h
      have h3 : (x : Int) ≠ z := hne
      show ((x : Int)).toNat < z.toNat
      omega

end Go.Proofs.YtmkimaceioacgaaDoor
