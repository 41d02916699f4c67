/- Texts of the proof, put together: GCnQ, GOkT, GPur. -/
import Derived.Test.YtmkimaceioacgaaDoorGk02
import Derived.Test.YtmkimaceioacgaaDoorProg
namespace Go.Proofs.YtmkimaceioacgaaDoor
open Go.RowKit
set_option linter.unusedVariables false
set_option maxRecDepth 100000

/-- a function value that tells of a production -/
def TellsQ (w : World) (F : Nat) (c1 c2 : Value) (f : PdR → Bool) (l : List PdR) : Prop :=
  ∀ (w' : World) (p : PdR) (rv : Value), p ∈ l → Below w.heap.size w w' → IntsR w' rv p.right → Calls Tryd.prog F #[pdv p rv, c1, c2] w' fun e w'' => e = .returned (.bool (f p)) ∧ Below w'.heap.size w' w''

set_option maxHeartbeats 2000000 in
theorem indexQ_any (F : Nat) (hen : ∀ args w, (callFunc F args).run Tryd.prog w = .ok (.enter F args) w) (c1 c2 v : Value) (f : PdR → Bool) (l : List PdR) (w : World) (hl : l.length ≤ 1000) (hv : PdsM w v l) (hf : TellsQ w F c1 c2 f l) :
    Calls Tryd.prog 51 #[v, .func (.func F) #[] #[c1, c2]] w fun e w' => ∃ z, e = .returned (.int .i64 z) ∧ decide (z ≥ 0) = l.any f ∧ Below w.heap.size w w' := by
  obtain ⟨a, c, rfl⟩ := hv.slice
  have HV : Hid (PdsM w (.slice a l.length c) l) := hv
  have HF : Hid (TellsQ w F c1 c2 f l) := hf
  clear hv hf
  go_enter Tryd.func51, Tryd.ntmps51
  go_wp2
  go_loopw [8] (fun i wr => ∃ k : Nat, k ≤ l.length ∧ i = .int .i64 k ∧ Hid (l.any f = (l.drop k).any f) ∧ Below w.heap.size w wr) (fun i _ => l.length - (intOf i).toNat)
  case atStart => exact ⟨0, Nat.zero_le _, rfl, (by show _ = _; rw [List.drop_zero]), Below.refl _ _⟩
  case round =>
    obtain ⟨k, hk, rfl, HM, hbw⟩ := hrel
    by_cases hlt : k < l.length
    · obtain ⟨b, off, rv, rfl, hb, hpd⟩ := (HV.out.below hbw).at hlt
      have HA : Hid ((l.drop k).any f = (f (l.getD k noPd) || (l.drop (k + 1)).any f)) := by
        show _ = _
        rw [List.drop_eq_getElem_cons hlt, List.any_cons]
        simp [List.getD, hlt]
      have hC := HF.out wr (l.getD k noPd) rv (by simp [List.getD, hlt]) hbw hpd.right
      generalize l.getD k noPd = p at *
      obtain ⟨d0, d1, d2, hr⟩ := hpd
      obtain ⟨ra, rc, rfl⟩ := hr.slice
      clear hr
      unfold pdv at hC
      have HC : Hid (Calls Tryd.prog F #[.agg #[.int .i64 p.left, .slice ra p.right.length rc, .int .i64 p.level], c1, c2] wr fun e w'' => e = .returned (.bool (f p)) ∧ Below wr.heap.size wr w'') := hC
      clear hC
      go_wp2_with fail
      refine HC.out.mono ?_
      rintro e w2 ⟨rfl, hb2⟩
      have hbw2 := hbw.trans (hb2.mono hbw.size)
      clear HC hb2
      by_cases hfx : f p = true
      · rw [hfx]
        have HZ : Hid (decide ((k : Int) ≥ 0) = l.any f) := by show _ = _; rw [HM.out, HA.out, hfx]; simp
        go_wp2
        go_ret
        exact ⟨_, rfl, HZ.out, hbw2⟩
      · have hfx2 : f p = false := by simpa using hfx
        rw [hfx2]
        have HZ : Hid (l.any f = (l.drop (k + 1)).any f) := by show _ = _; rw [HM.out, HA.out, hfx2, Bool.false_or]
        clear hfx
        go_wp2
        go_roundw
        case rel => exact ⟨k + 1, by omega, by go_num, HZ, hbw2⟩
        case measure => simp [intOf]; omega
    · have HZ : Hid (decide ((-1 : Int) ≥ 0) = l.any f) := by
        show _ = _; rw [HM.out, List.drop_eq_nil_of_le (by omega)]; rfl
      go_wp2
      go_ret
      exact ⟨_, rfl, HZ.out, hbw⟩

set_option maxHeartbeats 2000000 in
theorem containsQ_any (F : Nat) (hen : ∀ args w, (callFunc F args).run Tryd.prog w = .ok (.enter F args) w) (c1 c2 v : Value) (f : PdR → Bool) (l : List PdR) (w : World) (hl : l.length ≤ 1000) (hv : PdsM w v l) (hf : TellsQ w F c1 c2 f l) :
    Calls Tryd.prog 27 #[v, .func (.func F) #[] #[c1, c2]] w fun e w' => e = .returned (.bool (l.any f)) ∧ Below w.heap.size w w' := by
  have hC := indexQ_any F hen c1 c2 v f l w hl hv hf
  obtain ⟨a, c, rfl⟩ := hv.slice
  clear hv hf
  go_enter Tryd.func27, Tryd.ntmps27
  go_wp2_with fail
  refine hC.mono ?_
  rintro e w2 ⟨z, rfl, hz, hb2⟩
  have HZ : Hid (decide (z ≥ 0) = l.any f) := hz
  clear hz
  go_wp2
  go_ret
  exact ⟨by rw [← HZ.out]; rfl, hb2⟩

end Go.Proofs.YtmkimaceioacgaaDoor

namespace Go.Proofs.YtmkimaceioacgaaDoor
open Go.RowKit
set_option linter.unusedVariables false
set_option maxRecDepth 100000

def symsB (g : Gm) : Bool := decide (0 ≤ g.terms ∧ g.terms ≤ 300 ∧ 1 ≤ g.names ∧ g.names ≤ 300 ∧ 0 ≤ g.start ∧ g.start < g.names)

set_option maxHeartbeats 2000000 in
theorem symbolsHold_any (g : Gm) (pv lv sv : Value) (w : World) :
    Calls Tryd.prog 13 #[gv g pv lv sv] w fun e w' => e = .returned (.bool (symsB g)) ∧ Below w.heap.size w w' := by
  have hB0 := boxG_below w g pv lv sv
  have hB2 := boxG_box w g pv lv sv
  have HN : Hid (∀ w', Calls Tryd.prog 23 #[gv g pv lv sv, .int .i64 g.start] w' fun e w'' => e = .returned (.bool (decide (0 ≤ g.start) && decide (g.start < g.names))) ∧ Below w'.heap.size w' w'') := fun w' => isName_any g pv lv sv _ w'
  generalize hR : symsB g = R at *
  have HR : Hid (symsB g = R) := hR
  clear hR
  unfold symsB at HR
  obtain ⟨q0, q1, q2, q3, q4, q5, q6⟩ := hB2
  obtain ⟨t, nm, s, ps, ls, ss⟩ := g
  unfold boxG at *
  unfold gv gvs at *
  simp only at *
  by_cases h1 : t ≥ 0
  case neg =>
    have d1 : decide (t ≥ 0) = false := decide_eq_false h1
    have HZ : Hid (R = false) := by show _ = _; rw [← HR.out]; exact decide_eq_false (by omega)
    clear HR h1
    go_enter Tryd.func13, Tryd.ntmps13
    go_wp2
    go_ret
    exact ⟨by rw [HZ.out]; rfl, hB0⟩
  have d1 : decide (t ≥ 0) = true := decide_eq_true h1
  by_cases h2 : t ≤ 300
  case neg =>
    have d2 : decide (t ≤ 300) = false := decide_eq_false h2
    have HZ : Hid (R = false) := by show _ = _; rw [← HR.out]; exact decide_eq_false (by omega)
    clear HR h1 h2
    go_enter Tryd.func13, Tryd.ntmps13
    go_wp2
    go_ret
    exact ⟨by rw [HZ.out]; rfl, hB0⟩
  have d2 : decide (t ≤ 300) = true := decide_eq_true h2
  by_cases h3 : nm ≥ 1
  case neg =>
    have d3 : decide (nm ≥ 1) = false := decide_eq_false h3
    have HZ : Hid (R = false) := by show _ = _; rw [← HR.out]; exact decide_eq_false (by omega)
    clear HR h1 h2 h3
    go_enter Tryd.func13, Tryd.ntmps13
    go_wp2
    go_ret
    exact ⟨by rw [HZ.out]; rfl, hB0⟩
  have d3 : decide (nm ≥ 1) = true := decide_eq_true h3
  by_cases h4 : nm ≤ 300
  case neg =>
    have d4 : decide (nm ≤ 300) = false := decide_eq_false h4
    have HZ : Hid (R = false) := by show _ = _; rw [← HR.out]; exact decide_eq_false (by omega)
    clear HR h1 h2 h3 h4
    go_enter Tryd.func13, Tryd.ntmps13
    go_wp2
    go_ret
    exact ⟨by rw [HZ.out]; rfl, hB0⟩
  have d4 : decide (nm ≤ 300) = true := decide_eq_true h4
  have HZ : Hid (R = (decide (0 ≤ s) && decide (s < nm))) := by
    show _ = _
    rw [← HR.out, Bool.eq_iff_iff]
    simp
    omega
  generalize (decide (0 ≤ s) && decide (s < nm)) = bb at *
  clear HR h1 h2 h3 h4
  go_enter Tryd.func13, Tryd.ntmps13
  go_wp2_with fail
  refine (HN.out _).mono ?_
  rintro e w1 ⟨rfl, hb⟩
  have hb2 := hB0.trans (hb.mono hB0.size)
  clear hb
  go_wp2
  go_ret
  exact ⟨by rw [HZ.out]; rfl, hb2⟩

def levsB (g : Gm) : Bool := decide (g.sides.length ≤ 50 ∧ (g.levels.length = 0 ∨ (g.levels.length : Int) = g.terms)) && (g.sides.all sideB && g.levels.all (lvlB g.sides.length))
def prdsB (g : Gm) : Bool := decide (g.prods.length ≤ 400) && g.prods.all (pdB g.terms g.names g.sides.length)
theorem gOkB_eq (g : Gm) : gOkB g = (symsB g && (levsB g && prdsB g)) := by
  unfold gOkB symsB levsB prdsB
  rw [Bool.eq_iff_iff]
  simp only [Bool.and_eq_true, decide_eq_true_eq]
  unfold HeadG
  constructor
  · rintro ⟨⟨a, b, c, d, e, f, g, h, i⟩, j, k, l⟩
    exact ⟨⟨a, b, c, d, e, f⟩, ⟨⟨h, i⟩, j, k⟩, g, l⟩
  · rintro ⟨⟨a, b, c, d, e, f⟩, ⟨⟨h, i⟩, j, k⟩, g, l⟩
    exact ⟨⟨a, b, c, d, e, f, g, h, i⟩, j, k, l⟩

set_option maxHeartbeats 2000000 in
theorem pok_any (g : Gm) (pv lv sv : Value) (w : World) (h : GrM w g pv lv sv) (hwf : WfG g) :
    Calls Tryd.prog 6 #[gv g pv lv sv] w fun e w' => e = .returned (.bool (gOkB g)) ∧ Below w.heap.size w w' := by
  have hB0 := boxG_below w g pv lv sv
  have hB2 := boxG_box w g pv lv sv
  have H1 : Hid (∀ w', Calls Tryd.prog 13 #[gv g pv lv sv] w' fun e w'' => e = .returned (.bool (symsB g)) ∧ Below w'.heap.size w' w'') := fun w' => symbolsHold_any g pv lv sv w'
  have H2 : Hid (∀ w', symsB g = true → Below w.heap.size w w' → Calls Tryd.prog 14 #[gv g pv lv sv] w' fun e w'' => e = .returned (.bool (levsB g)) ∧ Below w'.heap.size w' w'') := fun w' hs hb => levelsHold_any g pv lv sv w' (h.below hb) (by unfold symsB at hs; simp at hs; omega)
  have H3 : Hid (∀ w', symsB g = true → Below w.heap.size w w' → Calls Tryd.prog 15 #[gv g pv lv sv] w' fun e w'' => e = .returned (.bool (prdsB g)) ∧ Below w'.heap.size w' w'') := fun w' hs hb => prodsHold_any g pv lv sv w' (h.below hb) hwf (by unfold symsB at hs; simp at hs; omega) (by unfold symsB at hs; simp at hs; omega)
  rw [gOkB_eq]
  have HBX : Hid (BoxG (boxG w g pv lv sv) w.heap.size g pv lv sv) := hB2
  clear h hwf hB2
  generalize symsB g = b1 at *
  generalize levsB g = b2 at *
  generalize prdsB g = b3 at *
  unfold boxG at *
  unfold gv gvs at *
  obtain ⟨q0, q1, q2, q3, q4, q5, q6⟩ := HBX.out
  obtain ⟨t, nm, s, ps, ls, ss⟩ := g
  simp only at *
  go_enter Tryd.func6, Tryd.ntmps6
  go_wp2_with fail
  refine (H1.out _).mono ?_
  rintro e w1 ⟨rfl, hb1⟩
  have hW1 := hB0.trans (hb1.mono hB0.size)
  have HB1 : Hid (BoxG w1 w.heap.size ⟨t, nm, s, ps, ls, ss⟩ pv lv sv) := HBX.out.below HBX.out.lt hb1
  clear q0 q1 q2 q3 q4 q5 q6 hb1
  obtain ⟨q0, q1, q2, q3, q4, q5, q6⟩ := HB1.out
  simp only at q0 q1 q2 q3 q4 q5 q6
  cases b1 with
  | false =>
    go_wp2
    go_ret
    exact ⟨rfl, hW1⟩
  | true =>
    go_wp2_with fail
    refine (H2.out _ trivial hW1).mono ?_
    rintro e w2 ⟨rfl, hb2⟩
    have hW2 := hW1.trans (hb2.mono hW1.size)
    have HB2 : Hid (BoxG w2 w.heap.size ⟨t, nm, s, ps, ls, ss⟩ pv lv sv) := HB1.out.below HB1.out.lt hb2
    clear q0 q1 q2 q3 q4 q5 q6 hb2
    obtain ⟨q0, q1, q2, q3, q4, q5, q6⟩ := HB2.out
    simp only at q0 q1 q2 q3 q4 q5 q6
    cases b2 with
    | false =>
      go_wp2
      go_ret
      exact ⟨rfl, hW2⟩
    | true =>
      go_wp2_with fail
      refine (H3.out _ trivial hW2).mono ?_
      rintro e w3 ⟨rfl, hb3⟩
      have hW3 := hW2.trans (hb3.mono hW2.size)
      go_wp2
      go_ret
      exact ⟨rfl, hW3⟩

/-- symbols of a grammar of so many names -/
def SymsL (N : Nat) (r : List Int) : Prop := r.length ≤ 20 ∧ ∀ j, j < r.length → -(N : Int) ≤ r.getD j 0 ∧ I64 (r.getD j 0)
end Go.Proofs.YtmkimaceioacgaaDoor

namespace Go.Proofs.YtmkimaceioacgaaDoor
set_option linter.unusedVariables false

/-- a production: its name, and its symbols (a name n is -1 - n) -/
structure PrS where
  left : Nat
  right : List Int
/-- how good: none is worst -/
def leO : Option Nat → Option Nat → Prop
  | _, none => True
  | some x, some y => x ≤ y
  | none, some _ => False
theorem leO.refl (a : Option Nat) : leO a a := by cases a <;> simp [leO]
theorem leO.trans {a b c : Option Nat} (h : leO a b) (h' : leO b c) : leO a c := by
  cases a <;> cases b <;> cases c <;> simp [leO] at * <;> omega
theorem leO.antisymm {a b : Option Nat} (h : leO a b) (h' : leO b a) : a = b := by
  cases a <;> cases b <;> simp [leO] at * <;> omega
theorem leO.total (a b : Option Nat) : leO a b ∨ leO b a := by
  cases a <;> cases b <;> simp [leO] <;> omega
/-- the lengths of a row's symbols, added up -/
def rowL (f : Nat → Option Nat) : List Int → Option Nat
  | [] => some 0
  | s :: r =>
    match (if s < 0 then f (-1 - s).toNat else some 1), rowL f r with
    | some a, some b => some (a + b)
    | _, _ => none
def capO (a : Option Nat) : Option Nat := a.map (min · 1000000)
theorem rowL_mono {f g : Nat → Option Nat} (h : ∀ n, leO (f n) (g n)) : ∀ r, leO (rowL f r) (rowL g r)
  | [] => leO.refl _
  | s :: r => by
    have ih := rowL_mono h r
    unfold rowL
    have h1 : leO (if s < 0 then f (-1 - s).toNat else some 1) (if s < 0 then g (-1 - s).toNat else some 1) := by
      split
      · exact h _
      · exact leO.refl _
    generalize (if s < 0 then f (-1 - s).toNat else some 1) = a at *
    generalize (if s < 0 then g (-1 - s).toNat else some 1) = b at *
    generalize rowL f r = c at *
    generalize rowL g r = d at *
    cases a <;> cases b <;> cases c <;> cases d <;> simp [leO] at * <;> omega
theorem capO_mono {a b : Option Nat} (h : leO a b) : leO (capO a) (capO b) := by
  cases a <;> cases b <;> simp [leO, capO] at * <;> omega
/-- the better of two -/
def minO (a b : Option Nat) : Option Nat :=
  match a, b with
  | none, b => b
  | a, none => a
  | some x, some y => some (min x y)
theorem minO_left (a b : Option Nat) : leO (minO a b) a := by cases a <;> cases b <;> simp [leO, minO] <;> omega
theorem minO_right (a b : Option Nat) : leO (minO a b) b := by cases a <;> cases b <;> simp [leO, minO] <;> omega
theorem minO_eq (a b : Option Nat) : minO a b = a ∨ minO a b = b := by
  cases a <;> cases b <;> simp [minO] <;> omega
/-- the best that the productions of a name give -/
def saysL (ps : List PrS) (f : Nat → Option Nat) (n : Nat) : Option Nat :=
  ps.foldr (fun p acc => if p.left = n then minO (capO (rowL f p.right)) acc else acc) none
theorem saysL_le {ps : List PrS} {f : Nat → Option Nat} {p : PrS} (hp : p ∈ ps) : leO (saysL ps f p.left) (capO (rowL f p.right)) := by
  induction ps with
  | nil => cases hp
  | cons q ps ih =>
    show leO (if q.left = p.left then minO (capO (rowL f q.right)) (saysL ps f p.left) else saysL ps f p.left) _
    rcases List.mem_cons.1 hp with rfl | hp
    · rw [if_pos rfl]; exact minO_left _ _
    · split
      · exact (minO_right _ _).trans (ih hp)
      · exact ih hp
theorem saysL_of (ps : List PrS) (f : Nat → Option Nat) (n : Nat) : saysL ps f n = none ∨ ∃ p ∈ ps, p.left = n ∧ saysL ps f n = capO (rowL f p.right) := by
  induction ps with
  | nil => exact .inl rfl
  | cons q ps ih =>
    have e : saysL (q :: ps) f n = if q.left = n then minO (capO (rowL f q.right)) (saysL ps f n) else saysL ps f n := rfl
    have hcase : saysL (q :: ps) f n = saysL ps f n ∨ (q.left = n ∧ saysL (q :: ps) f n = capO (rowL f q.right)) := by
      rw [e]
      split
      · rcases minO_eq (capO (rowL f q.right)) (saysL ps f n) with h | h
        · exact .inr ⟨by assumption, h⟩
        · exact .inl h
      · exact .inl rfl
    rcases hcase with h | ⟨h1, h2⟩
    · rcases ih with ih | ⟨p, hp, hl, he⟩
      · exact .inl (h.trans ih)
      · exact .inr ⟨p, by simp [hp], hl, h.trans he⟩
    · exact .inr ⟨q, by simp, h1, h2⟩
theorem saysL_mono {ps : List PrS} {f g : Nat → Option Nat} (h : ∀ n, leO (f n) (g n)) (n : Nat) : leO (saysL ps f n) (saysL ps g n) := by
  rcases saysL_of ps g n with e | ⟨p, hp, rfl, e⟩
  · rw [e]; cases saysL ps f n <;> simp [leO]
  · rw [e]
    exact (saysL_le hp).trans (capO_mono (rowL_mono h _))
/-- .. by trees of so great a height -/
def bestH (ps : List PrS) : Nat → Nat → Option Nat
  | 0, _ => none
  | h + 1, n => saysL ps (bestH ps h) n
theorem bestH_down (ps : List PrS) : ∀ (h n : Nat), leO (bestH ps (h + 1) n) (bestH ps h n)
  | 0, n => by simp only [bestH]; cases saysL ps (bestH ps 0) n <;> simp [leO]
  | h + 1, n => saysL_mono (fun m => bestH_down ps h m) n
theorem bestH_le (ps : List PrS) {h k : Nat} (hk : h ≤ k) (n : Nat) : leO (bestH ps k n) (bestH ps h n) := by
  induction k with
  | zero => obtain rfl : h = 0 := by omega
            exact leO.refl _
  | succ k ih =>
    by_cases e : h = k + 1
    · subst e; exact leO.refl _
    · exact (bestH_down ps k n).trans (ih (by omega))
/-- facts that follow from trees -/
def SoundL (ps : List PrS) (f : Nat → Option Nat) : Prop := ∀ n, ∃ h, leO (bestH ps h n) (f n)
/-- facts from which nothing better follows -/
def ClosedL (ps : List PrS) (f : Nat → Option Nat) : Prop := ∀ p ∈ ps, leO (f p.left) (capO (rowL f p.right))
theorem ClosedL.le {ps : List PrS} {f : Nat → Option Nat} (hc : ClosedL ps f) : ∀ h n, leO (f n) (bestH ps h n)
  | 0, n => by simp only [bestH]; cases f n <;> simp [leO]
  | h + 1, n => by
    have ih := hc.le h
    show leO (f n) (saysL ps (bestH ps h) n)
    rcases saysL_of ps (bestH ps h) n with e | ⟨p, hp, rfl, e⟩
    · rw [e]; cases f n <;> simp [leO]
    · rw [e]
      exact (hc p hp).trans (capO_mono (rowL_mono ih _))
/-- there is one such list of facts alone -/
theorem facts_unique {ps : List PrS} {f g : Nat → Option Nat} (cf : ClosedL ps f) (sf : SoundL ps f) (cg : ClosedL ps g) (sg : SoundL ps g) : ∀ n, f n = g n := fun n => by
  obtain ⟨h1, e1⟩ := sf n
  obtain ⟨h2, e2⟩ := sg n
  exact leO.antisymm ((cf.le h2 n).trans e2) ((cg.le h1 n).trans e1)
/-- one fact more, out of sound ones -/
theorem SoundL.step {ps : List PrS} {f : Nat → Option Nat} (hs : SoundL ps f) {p : PrS} (hp : p ∈ ps) : ∃ h, leO (bestH ps h p.left) (capO (rowL f p.right)) := by
  have hrow : ∀ r : List Int, ∃ h, leO (rowL (bestH ps h) r) (rowL f r) := by
    intro r
    induction r with
    | nil => exact ⟨0, leO.refl _⟩
    | cons s r ih =>
      obtain ⟨h1, e1⟩ := ih
      obtain ⟨h2, e2⟩ := hs (-1 - s).toNat
      refine ⟨max h1 h2, ?_⟩
      have a1 : leO (rowL (bestH ps (max h1 h2)) r) (rowL f r) := (rowL_mono (fun n => bestH_le ps (Nat.le_max_left h1 h2) n) r).trans e1
      have a2 : leO (if s < 0 then bestH ps (max h1 h2) (-1 - s).toNat else some 1) (if s < 0 then f (-1 - s).toNat else some 1) := by
        split
        · exact (bestH_le ps (Nat.le_max_right h1 h2) _).trans e2
        · exact leO.refl _
      unfold rowL
      generalize (if s < 0 then bestH ps (max h1 h2) (-1 - s).toNat else some 1) = a at *
      generalize (if s < 0 then f (-1 - s).toNat else some 1) = b at *
      generalize rowL (bestH ps (max h1 h2)) r = c at *
      generalize rowL f r = d at *
      cases a <;> cases b <;> cases c <;> cases d <;> simp [leO] at * <;> omega
  obtain ⟨h, e⟩ := hrow p.right
  exact ⟨h + 1, (saysL_le hp).trans (capO_mono e)⟩

end Go.Proofs.YtmkimaceioacgaaDoor
