/- Texts of the proof, put together: GChF, GSml, GEar, GShR, GLen. -/
import Derived.Test.YtmkimaceioacgaaDoorGk19
import Derived.Test.YtmkimaceioacgaaDoorGk20
import Derived.Test.YtmkimaceioacgaaDoorGk01
import Derived.Test.YtmkimaceioacgaaDoorGk04
import Derived.Test.YtmkimaceioacgaaDoorGk05
import Derived.Test.YtmkimaceioacgaaDoorGk03
namespace Go.Proofs.YtmkimaceioacgaaDoor
set_option linter.unusedVariables false

/-- each symbol of a row that has a sentence has one -/
theorem cat_all {f : Nat → Option (List Int)} : ∀ (r : List Int) (l : List Int), catS f r = some l → ∀ s ∈ r, s < 0 → ∃ x, f (-1 - s).toNat = some x
  | [], _, _, s, hs, _ => by simp at hs
  | y :: r, l, h, s, hs, h0 => by
    rw [catS] at h
    cases h1 : (if y < 0 then f (-1 - y).toNat else some [y]) with
    | none => rw [h1] at h; cases h2 : catS f r <;> rw [h2] at h <;> simp [catO] at h
    | some x =>
      cases h2 : catS f r with
      | none => rw [h1, h2] at h; simp [catO] at h
      | some z =>
        rcases List.mem_cons.1 hs with rfl | hs
        · rw [if_pos h0] at h1; exact ⟨x, h1⟩
        · exact cat_all r z h2 s hs h0
/-- where the first terminal of a row's sentence comes from -/
theorem cat_first {f : Nat → Option (List Int)} (t : Int) : ∀ (r : List Int) (l : List Int), catS f r = some (t :: l) → ∃ k, k < r.length ∧ (∀ j, j < k → r.getD j 0 < 0 ∧ f (-1 - r.getD j 0).toNat = some []) ∧ ((0 ≤ r.getD k 0 ∧ r.getD k 0 = t) ∨ (r.getD k 0 < 0 ∧ ∃ l', f (-1 - r.getD k 0).toNat = some (t :: l')))
  | [], l, h => by simp [catS] at h
  | y :: r, l, h => by
    rw [catS] at h
    cases h1 : (if y < 0 then f (-1 - y).toNat else some [y]) with
    | none => rw [h1] at h; cases h2 : catS f r <;> rw [h2] at h <;> simp [catO] at h
    | some x =>
      cases h2 : catS f r with
      | none => rw [h1, h2] at h; simp [catO] at h
      | some z =>
        rw [h1, h2] at h
        have hxz : x ++ z = t :: l := by simpa [catO] using h
        by_cases e : y < 0
        · rw [if_pos e] at h1
          cases x with
          | nil =>
            have hz : z = t :: l := by simpa using hxz
            subst hz
            obtain ⟨k, g1, g2, g3⟩ := cat_first t r l h2
            refine ⟨k + 1, by simpa using g1, fun j hj => ?_, by simpa using g3⟩
            cases j with
            | zero => exact ⟨by simpa using e, by simpa using h1⟩
            | succ j => simpa using g2 j (by omega)
          | cons a x =>
            have ha : a = t := by simpa using (List.cons.inj hxz).1
            subst ha
            exact ⟨0, by simp, fun j hj => by omega, .inr ⟨by simpa using e, x, by simpa using h1⟩⟩
        · rw [if_neg e] at h1
          have hx : x = [y] := by simpa using h1.symm
          subst hx
          have ha : y = t := by simpa using (List.cons.inj hxz).1
          exact ⟨0, by simp, fun j hj => by omega, .inl ⟨by simp; omega, by simpa using ha⟩⟩
theorem best_prod {ps : List PdR} {h n : Nat} {l : List Int} (hb : bestS (prsS ps) (h + 1) n = some l) : ∃ p ∈ ps, p.left.toNat = n ∧ catS (bestS (prsS ps) h) p.right = some l := by
  have hb' : saysS (prsS ps) (bestS (prsS ps) h) n = some l := hb
  rcases saysS_of (prsS ps) (bestS (prsS ps) h) n with e | ⟨p, hp, hl, e⟩
  · rw [e] at hb'; cases hb'
  · rw [e] at hb'
    obtain ⟨q, hq, rfl⟩ := prsS_mem.1 hp
    exact ⟨q, hq, hl, told_some hb'⟩
theorem best_tree {ps : List PdR} : ∀ (h n : Nat) (l : List Int), bestS (prsS ps) h n = some l → hgtB true (prsS ps) h n = true
  | 0, n, l, hb => by simp [bestS] at hb
  | h + 1, n, l, hb => by
    obtain ⟨p, hp, hl, hc⟩ := best_prod hb
    refine (saysB_iff _ _ _ _).2 ⟨prS p, prsS_mem.2 ⟨p, hp, rfl⟩, hl, ?_⟩
    show hasB true (hgtB true (prsS ps) h) p.right = true
    unfold hasB
    rw [List.all_eq_true]
    intro s hs
    by_cases h0 : s < 0
    · rw [if_pos h0]
      obtain ⟨x, hx⟩ := cat_all _ _ hc s hs h0
      exact best_tree h _ x hx
    · rw [if_neg h0]
theorem cat_nil {f : Nat → Option (List Int)} : ∀ (r : List Int), catS f r = some [] → ∀ s ∈ r, s < 0 ∧ f (-1 - s).toNat = some []
  | [], _, s, hs => by simp at hs
  | y :: r, h, s, hs => by
    rw [catS] at h
    cases h1 : (if y < 0 then f (-1 - y).toNat else some [y]) with
    | none => rw [h1] at h; cases h2 : catS f r <;> rw [h2] at h <;> simp [catO] at h
    | some x =>
      cases h2 : catS f r with
      | none => rw [h1, h2] at h; simp [catO] at h
      | some z =>
        rw [h1, h2] at h
        have hxz : x = [] ∧ z = [] := by simpa [catO] using h
        obtain ⟨rfl, rfl⟩ := hxz
        rcases List.mem_cons.1 hs with rfl | hs
        · by_cases e : s < 0
          · rw [if_pos e] at h1; exact ⟨e, h1⟩
          · rw [if_neg e] at h1; simp at h1
        · exact cat_nil r h2 s hs
theorem best_empty {ps : List PdR} : ∀ (h n : Nat), bestS (prsS ps) h n = some [] → hgtB false (prsS ps) h n = true
  | 0, n, hb => by simp [bestS] at hb
  | h + 1, n, hb => by
    obtain ⟨p, hp, hl, hc⟩ := best_prod hb
    refine (saysB_iff _ _ _ _).2 ⟨prS p, prsS_mem.2 ⟨p, hp, rfl⟩, hl, ?_⟩
    show hasB false (hgtB false (prsS ps) h) p.right = true
    unfold hasB
    rw [List.all_eq_true]
    intro s hs
    obtain ⟨h0, hx⟩ := cat_nil _ hc s hs
    rw [if_pos h0]
    exact best_empty h _ hx
theorem best_first {N : Nat} {ps : List PdR} (hG : GOkM N ps) : ∀ (h n t : Nat) (l : List Int), bestS (prsS ps) h n = some ((t : Int) :: l) → ∃ u, toP (fsR N ps) (fsB N ps) u n t
  | 0, n, t, l, hb => by simp [bestS] at hb
  | h + 1, n, t, l, hb => by
    obtain ⟨p, hp, hl, hc⟩ := best_prod hb
    obtain ⟨q, hq, hqe⟩ := List.mem_iff_getElem.1 hp
    have hg : ps.getD q noPd = p := by simp [List.getD, hq, hqe]
    have hp0 := (hG.mem hp).1.1
    have hle : (ps.getD q noPd).left = (n : Int) := by rw [hg]; omega
    have hkp : keepP N ps (ps.getD q noPd) = true := by
      rw [hg]
      show hasB true (hgtB true (prsS ps) N) p.right = true
      unfold hasB
      rw [List.all_eq_true]
      intro s hs
      by_cases h0 : s < 0
      · rw [if_pos h0]
        obtain ⟨x, hx⟩ := cat_all _ _ hc s hs h0
        exact hgt_N hG true h _ (best_tree h _ x hx)
      · rw [if_neg h0]
    obtain ⟨k, hk, hj, hc2⟩ := cat_first (t : Int) _ _ hc
    have hat : AtP (hgtB false (prsS ps) N) p.right k := by
      refine ⟨hk, ?_⟩
      unfold hasB
      rw [List.all_eq_true]
      intro s hs
      obtain ⟨j, hjl, rfl⟩ := List.mem_iff_getElem.1 hs
      have hjk : j < k := by rw [List.length_take] at hjl; omega
      obtain ⟨g1, g2⟩ := hj j hjk
      have e : (p.right.take k)[j] = p.right.getD j 0 := by
        rw [List.getElem_take]
        simp [List.getD, show j < p.right.length by omega]
      rw [e, if_pos g1]
      exact hgt_N hG false h _ (best_empty h _ g2)
    rcases hc2 with ⟨_, g2⟩ | ⟨g1, l', g2⟩
    · exact ⟨1, .inl ⟨q, hq, hkp, hle, k, by rw [hg]; exact hat, by rw [hg]; exact g2⟩⟩
    · obtain ⟨u, hu⟩ := best_first hG h _ t l' g2
      exact ⟨u + 1, .inr ⟨_, ⟨q, hq, hkp, hle, k, by rw [hg]; exact hat, by rw [hg]; omega⟩, hu⟩⟩

end Go.Proofs.YtmkimaceioacgaaDoor

namespace Go.Proofs.YtmkimaceioacgaaDoor
open Go.RowKit
set_option linter.unusedVariables false
set_option maxRecDepth 100000

def smallG (g : Gm) : Bool := (decide (g.terms ≤ 8) && decide (g.names ≤ 8) && decide (g.prods.length ≤ 14) && decide (g.levels.length ≤ 8) && decide (g.sides.length ≤ 8)) && g.prods.all fun p => decide (p.right.length ≤ 5)

set_option maxHeartbeats 2000000 in
theorem small_any (g : Gm) (pv lv sv : Value) (w : World) (h : GrM w g pv lv sv) :
    Calls Tryd.prog 5 #[gv g pv lv sv] w fun e w' => e = .returned (.bool (smallG g)) ∧ Below w.heap.size w w' := by
  have hB0 := boxG_below w g pv lv sv
  have hB1 := boxG_size w g pv lv sv
  have hB2 := boxG_box w g pv lv sv
  obtain ⟨hp, hl, hs⟩ := h
  obtain ⟨pa, pc, rfl⟩ := hp.slice
  obtain ⟨la, lc, rfl⟩ := hl.slice
  obtain ⟨sa, sc, rfl⟩ := hs.slice
  clear hl hs
  have HP : Hid (PdsM w (.slice pa g.prods.length pc) g.prods) := hp
  clear hp
  obtain ⟨t, n, s, ps, ls, ss⟩ := g
  unfold boxG gvs at hB0 hB1 hB2
  simp only at *
  have HR : Hid (smallG ⟨t, n, s, ps, ls, ss⟩ = ((decide (t ≤ 8) && decide (n ≤ 8) && decide (ps.length ≤ 14) && decide (ls.length ≤ 8) && decide (ss.length ≤ 8)) && ps.all fun p => decide (p.right.length ≤ 5))) := rfl
  generalize smallG ⟨t, n, s, ps, ls, ss⟩ = R at *
  unfold gv gvs
  simp only
  by_cases h1 : t > 8
  · have HS : Hid (R = false) := by show _ = _; rw [HR.out, decide_eq_false (p := t ≤ 8) (by omega)]; simp
    go_enter Tryd.func5, Tryd.ntmps5
    go_wp2
    go_ret
    exact ⟨by rw [HS.out]; rfl, hB0⟩
  have d1 : decide (t > 8) = false := decide_eq_false (by omega)
  by_cases h2 : n > 8
  · have HS : Hid (R = false) := by show _ = _; rw [HR.out, decide_eq_false (p := n ≤ 8) (by omega)]; simp
    go_enter Tryd.func5, Tryd.ntmps5
    go_wp2
    go_ret
    exact ⟨by rw [HS.out]; rfl, hB0⟩
  have d2 : decide (n > 8) = false := decide_eq_false (by omega)
  by_cases h3 : (ps.length : Int) > 14
  · have HS : Hid (R = false) := by show _ = _; rw [HR.out, decide_eq_false (p := ps.length ≤ 14) (by omega)]; simp
    go_enter Tryd.func5, Tryd.ntmps5
    go_wp2
    go_ret
    exact ⟨by rw [HS.out]; rfl, hB0⟩
  have d3 : decide ((ps.length : Int) > 14) = false := decide_eq_false (by omega)
  by_cases h4 : (ls.length : Int) > 8
  · have HS : Hid (R = false) := by show _ = _; rw [HR.out, decide_eq_false (p := ls.length ≤ 8) (by omega)]; simp
    go_enter Tryd.func5, Tryd.ntmps5
    go_wp2
    go_ret
    exact ⟨by rw [HS.out]; rfl, hB0⟩
  have d4 : decide ((ls.length : Int) > 8) = false := decide_eq_false (by omega)
  by_cases h5 : (ss.length : Int) > 8
  · have HS : Hid (R = false) := by show _ = _; rw [HR.out, decide_eq_false (p := ss.length ≤ 8) (by omega)]; simp
    go_enter Tryd.func5, Tryd.ntmps5
    go_wp2
    go_ret
    exact ⟨by rw [HS.out]; rfl, hB0⟩
  have d5 : decide ((ss.length : Int) > 8) = false := decide_eq_false (by omega)
  go_enter Tryd.func5, Tryd.ntmps5
  go_wp2
  generalize hw0 : w.alloc (.cells #[.int .i64 t, .int .i64 n, .int .i64 s, .slice pa ps.length pc, .slice la ls.length lc, .slice sa ss.length sc] 25) = w0 at *
  have HW0 : Hid (w.alloc (.cells #[.int .i64 t, .int .i64 n, .int .i64 s, .slice pa ps.length pc, .slice la ls.length lc, .slice sa ss.length sc] 25) = w0) := hw0
  clear hw0
  have HBX : Hid (BoxG w0 w.heap.size ⟨t, n, s, ps, ls, ss⟩ (.slice pa ps.length pc) (.slice la ls.length lc) (.slice sa ss.length sc)) := hB2
  clear hB2
  have HE : Hid ((decide (t ≤ 8) && decide (n ≤ 8) && decide (ps.length ≤ 14) && decide (ls.length ≤ 8) && decide (ss.length ≤ 8)) = true) := by
    show _ = _; simp; omega
  clear h1 h2 h4 h5 d1 d2 d3 d4 d5
  go_loopw [3] (fun i wr => ∃ k : Nat, k ≤ ps.length ∧ i = .int .i64 k ∧ Hid (ps.all (fun p => decide (p.right.length ≤ 5)) = (ps.drop k).all (fun p => decide (p.right.length ≤ 5))) ∧ Below (w.heap.size + 1) w0 wr) (fun i _ => ps.length - (intOf i).toNat)
  case atStart => exact ⟨0, Nat.zero_le _, rfl, (by show _ = _; rw [List.drop_zero]), Below.refl _ _⟩
  case round =>
    obtain ⟨k, hk, rfl, HM, hbw⟩ := hrel
    have hbx := hB0.trans (hbw.mono (Nat.le_succ _))
    obtain ⟨q0, q1, q2, q3, q4, q5, q6⟩ := HBX.out.below (Nat.lt_succ_self _) hbw
    simp only at *
    by_cases hlt : k < ps.length
    · obtain ⟨b, off, rv, rfl, hb, hpd⟩ := (HP.out.below hbx).at hlt
      have HA : Hid _ := all_dropG ps noPd (fun p => decide (p.right.length ≤ 5)) k hlt
      generalize ps.getD k noPd = p at *
      obtain ⟨c0, c1, c2, hr⟩ := hpd
      obtain ⟨ra, rc, rfl⟩ := hr.slice
      clear hr
      by_cases g1 : (p.right.length : Int) > 5
      · have HS : Hid (ps.all (fun p => decide (p.right.length ≤ 5)) = false) := by
          show _ = _; rw [HM.out, HA.out]; simp; omega
        go_wp2
        go_ret
        exact ⟨by rw [HR.out, HS.out, Bool.and_false]; rfl, hbx⟩
      · have HS : Hid (ps.all (fun p => decide (p.right.length ≤ 5)) = (ps.drop (k + 1)).all (fun p => decide (p.right.length ≤ 5))) := by
          show _ = _; rw [HM.out, HA.out, decide_eq_true (by omega), Bool.true_and]
        go_wp2
        go_roundw
        case rel => exact ⟨k + 1, by omega, by go_num, HS, hbw⟩
        case measure => simp [intOf]; omega
    · have HS : Hid (ps.all (fun p => decide (p.right.length ≤ 5)) = true) := by
        show _ = _; rw [HM.out, List.drop_eq_nil_of_le (by omega)]; rfl
      go_wp2
      go_ret
      exact ⟨by rw [HR.out, HS.out, HE.out]; rfl, hbx⟩

end Go.Proofs.YtmkimaceioacgaaDoor

namespace Go.Proofs.YtmkimaceioacgaaDoor
open Go.RowKit
set_option linter.unusedVariables false
set_option maxRecDepth 100000

def lexLt : List Int → List Int → Bool
  | x :: a, y :: b => if x = y then lexLt a b else decide (x < y)
  | _, _ => false
def earB (a b : List Int) : Bool := if a.length = b.length then lexLt a b else decide (a.length < b.length)
theorem lexLt_iff : ∀ (a b : List Int), a.length = b.length → (lexLt a b = true ↔ lexLe a b ∧ a ≠ b)
  | [], [], _ => by simp [lexLt]
  | [], _ :: _, h => by simp at h
  | _ :: _, [], h => by simp at h
  | x :: a, y :: b, h => by
    have ih := lexLt_iff a b (by simpa using h)
    unfold lexLt
    by_cases e : x = y
    · subst e
      rw [if_pos rfl, ih]
      constructor
      · rintro ⟨h1, h2⟩; exact ⟨.inr ⟨rfl, h1⟩, fun e => h2 (by injection e)⟩
      · rintro ⟨h1 | ⟨_, h1⟩, h2⟩
        · omega
        · exact ⟨h1, fun e => h2 (by rw [e])⟩
    · rw [if_neg e, decide_eq_true_iff]
      constructor
      · intro h1; exact ⟨.inl h1, fun e' => e (by injection e')⟩
      · rintro ⟨h1 | ⟨h1, _⟩, _⟩
        · exact h1
        · exact absurd h1 e
theorem earB_iff (a b : List Int) : earB a b = true ↔ slx a b ∧ a ≠ b := by
  unfold earB
  by_cases e : a.length = b.length
  · rw [if_pos e, lexLt_iff a b e]
    constructor
    · rintro ⟨h1, h2⟩; exact ⟨.inr ⟨e, h1⟩, h2⟩
    · rintro ⟨h1 | ⟨_, h1⟩, h2⟩
      · omega
      · exact ⟨h1, h2⟩
  · rw [if_neg e, decide_eq_true_iff]
    constructor
    · intro h; exact ⟨.inl h, fun e' => e (by rw [e'])⟩
    · rintro ⟨h1 | ⟨h1, _⟩, _⟩
      · exact h1
      · exact absurd h1 e

end Go.Proofs.YtmkimaceioacgaaDoor

namespace Go.Proofs.YtmkimaceioacgaaDoor
open Go.RowKit
set_option linter.unusedVariables false
set_option maxRecDepth 100000

theorem getD_eq {L : List Int} {j : Nat} (h : j < L.length) (a b : Int) : L.getD j a = L.getD j b := by simp [List.getD, h]

theorem codeO_optI {z : Int} (h : -1 ≤ z) : codeO (optI z) = z := by
  unfold optI
  split
  · show (-1 : Int) = z; omega
  · show ((z.toNat : Nat) : Int) = z; omega
theorem leO_code (a b : Option Nat) (h : codeO b < 0 ∨ (0 ≤ codeO a ∧ codeO a ≤ codeO b)) : leO a b := by
  cases a with
  | none =>
    cases b with
    | none => trivial
    | some y => simp only [codeO] at h; omega
  | some x =>
    cases b with
    | none => trivial
    | some y => simp only [codeO] at h; show x ≤ y; omega
theorem prsS_get {ps : List PdR} {m : Nat} (hm : m < ps.length) : (prsS ps)[m]? = some (prS (ps.getD m noPd)) := by
  simp [prsS, List.getD, hm]
theorem ShI.stepStay {ps : List PdR} {N r m : Nat} {L : List Int} (h : ShI (prsS ps) N r m L) (hm : m < ps.length) {lf : Nat} {right : List Int} {level z : Int} (hp : ps.getD m noPd = ⟨lf, right, level⟩) (hz : rowZ L right right.length = z) (hno : z < 0 ∨ (0 ≤ L.getD lf (-1) ∧ L.getD lf (-1) ≤ z)) : ShI (prsS ps) N r (m + 1) L := by
  refine h.stay (prsS_get hm) ?_
  rw [hp]
  apply leO_code
  have e1 : codeO (factO L (prS ⟨(lf : Int), right, level⟩).left) = L.getD lf (-1) := by
    show codeO (optI (L.getD (lf : Int).toNat (-1))) = _
    rw [codeO_optI (h.lo _)]; simp
  have e2 : codeO (capO (rowL (factO L) (prS ⟨(lf : Int), right, level⟩).right)) = z := by
    rw [← hz]; unfold rowZ; rw [List.take_length]; rfl
  rw [e1, e2]; exact hno
theorem ShI.stepSet {ps : List PdR} {N r m : Nat} {L : List Int} (h : ShI (prsS ps) N r m L) (hm : m < ps.length) {lf : Nat} (hlf : lf < N) {right : List Int} {level z : Int} (hp : ps.getD m noPd = ⟨lf, right, level⟩) (hz : rowZ L right right.length = z) (hz0 : 0 ≤ z) (hb : L.getD lf (-1) < 0 ∨ z < L.getD lf (-1)) : ShI (prsS ps) N r (m + 1) (L.set lf z) := by
  have e2 : codeO (capO (rowL (factO L) (prS ⟨(lf : Int), right, level⟩).right)) = z := by
    rw [← hz]; unfold rowZ; rw [List.take_length]; rfl
  have e1 : codeO (factO L (prS ⟨(lf : Int), right, level⟩).left) = L.getD lf (-1) := by
    show codeO (optI (L.getD (lf : Int).toNat (-1))) = _
    rw [codeO_optI (h.lo _)]; simp
  have hg := prsS_get hm
  rw [hp] at hg
  have := h.set hg (by show (lf : Int).toNat < N; simpa using hlf) (leO_code _ _ (by rw [e1, e2]; omega))
  rw [e2] at this
  have e3 : (prS ⟨(lf : Int), right, level⟩).left = lf := by show (lf : Int).toNat = lf; simp
  rw [e3] at this
  exact this
theorem rowZ_named {L r : List Int} {k q : Nat} {s z x : Int} (hk : k < r.length) (hs : r.getD k 0 = s) (hq : -1 - s = (q : Int)) (hz : rowZ L r k = z) (hz0 : 0 ≤ z) (hx : L.getD q (-1) = x) : rowZ L r (k + 1) = if x < 0 then -1 else min (z + x) 1000000 := by
  rw [rowZ_step L r k hk (by omega)]
  simp only [hs]
  rw [if_pos (show s < 0 by omega), hq, hz]
  simp only [Int.toNat_natCast, hx]
theorem rowZ_term {L r : List Int} {k : Nat} {s z : Int} (hk : k < r.length) (hs : r.getD k 0 = s) (h0 : ¬ s < 0) (hz : rowZ L r k = z) (hz0 : 0 ≤ z) : rowZ L r (k + 1) = min (z + 1) 1000000 := by
  rw [rowZ_step L r k hk (by omega)]
  simp only [hs]
  rw [if_neg h0, hz]
  simp

end Go.Proofs.YtmkimaceioacgaaDoor

namespace Go.Proofs.YtmkimaceioacgaaDoor
open Go.RowKit
set_option linter.unusedVariables false
set_option maxRecDepth 100000

/-- lengths that are known so far -/
structure LenL (N : Nat) (L : List Int) : Prop where
  len : L.length = N
  lo : ∀ n, -1 ≤ L.getD n (-1)
  hi : ∀ n, L.getD n (-1) ≤ 1000000
theorem rowL_take {f : Nat → Option Nat} {r : List Int} {k : Nat} (hk : k < r.length) {x : Nat} (hx : rowL f (r.take k) = some x) : rowL f (r.take (k + 1)) = (match (if r.getD k 0 < 0 then f (-1 - r.getD k 0).toNat else some 1) with | some b => some (x + b) | none => none) := by
  rw [List.take_succ_eq_append_getElem hk, rowL_snoc, hx]
  have e : r.getD k 0 = r[k] := by simp [List.getD, hk]
  rw [e]
  generalize (if r[k] < 0 then f (-1 - r[k]).toNat else some 1) = a
  cases a <;> rfl

set_option maxHeartbeats 4000000 in
theorem rowLength_any (N : Nat) (hN : N ≤ 300) (r L : List Int) (rv v : Value) (w : World) (hr : SymsL N r) (hL : LenL N L) (hrv : IntsR w rv r) (hv : IntsR w v L) :
    Calls Tryd.prog 38 #[rv, v] w fun e w' => e = .returned (.int .i64 (codeO (capO (rowL (factO L) r)))) ∧ w' = w := by
  obtain ⟨ra, rc, rfl⟩ := hrv.slice
  obtain ⟨va, vc, rfl⟩ := hv.slice
  rw [hL.len] at hv ⊢
  have HRV : Hid (IntsR w (.slice ra r.length rc) r) := hrv
  have HV : Hid (IntsR w (.slice va N vc) L) := hv
  have HL : Hid (LenL N L) := hL
  have HSY : Hid (SymsL N r) := hr
  have hrl := hr.1
  clear hrv hv hL hr
  generalize hR : codeO (capO (rowL (factO L) r)) = R at *
  have HR : Hid (codeO (capO (rowL (factO L) r)) = R) := hR
  clear hR
  have hN0 := nameOf_any
  go_enter Tryd.func38, Tryd.ntmps38
  go_wp2
  go_loopw [5, 12] (fun x i wr => ∃ (k z : Nat), k ≤ r.length ∧ x = .int .i64 z ∧ i = .int .i64 k ∧ z ≤ k * 1000000 ∧ Hid (rowL (factO L) (r.take k) = some z) ∧ wr = w) (fun _ i _ => r.length - (intOf i).toNat)
  case atStart => exact ⟨0, 0, Nat.zero_le _, rfl, rfl, by omega, (by show _ = _; simp [rowL]), rfl⟩
  case round =>
    obtain ⟨k, z, hk, rfl, rfl, hz, HZ, hwe⟩ := hrel
    subst hwe
    by_cases hlt : k < r.length
    · obtain ⟨b, off, rfl, hb, hc⟩ := HRV.out.at hlt
      obtain ⟨hs1, hs2⟩ := HSY.out.2 k hlt
      have HT : Hid _ := rowL_take hlt HZ.out
      generalize r.getD k 0 = sy at *
      have hC := hN0 sy hs2
      clear hN0
      by_cases hs : sy < 0
      · obtain ⟨q, hq⟩ : ∃ q : Nat, -1 - sy = (q : Int) := ⟨(-1 - sy).toNat, by omega⟩
        have hqN : q < N := by omega
        have d1 : decide (sy < 0) = true := decide_eq_true hs
        rw [d1, hq] at hC
        have hqn : (-1 - sy).toNat = q := by omega
        rw [if_pos hs, hqn] at HT
        obtain ⟨b2, off2, rfl, hb2, hc2⟩ := HV.out.at (k := q) (by rw [HL.out.len]; exact hqN)
        rw [getD_eq (by rw [HL.out.len]; exact hqN) 0 (-1)] at hc2
        have hx1 := HL.out.lo q
        have hx2 := HL.out.hi q
        have HF : Hid (factO L q = optI (L.getD q (-1))) := rfl
        generalize L.getD q (-1) = x at *
        clear hq hqn hs d1 hs1 hs2
        by_cases hxn : x = -1
        · have HE : Hid (R = -1) := by
            show _ = _
            have h0 : rowL (factO L) (r.take (k + 1)) = none := by rw [HT.out, HF.out, hxn]; rfl
            have := rowL_none (factO L) (r.drop (k + 1)) _ h0
            rw [List.take_append_drop] at this
            rw [← HR.out, this]; rfl
          subst hxn
          go_wp2_with fail
          refine (hC _).mono ?_
          rintro e w1 ⟨rfl, rfl⟩
          go_wp2
          go_ret
          exact ⟨by rw [HE.out]; rfl, rfl⟩
        · obtain ⟨y, rfl⟩ : ∃ y : Nat, x = (y : Int) := ⟨x.toNat, by omega⟩
          have HZ2 : Hid (rowL (factO L) (r.take (k + 1)) = some (z + y)) := by
            show _ = _
            rw [HT.out, HF.out]
            have : optI (y : Int) = some y := codeO_opt (some y)
            rw [this]
          have d3 : ((y : Int) == -1) = false := by rw [beq_eq_false_iff_ne]; omega
          clear hxn HT HF
          go_wp2_with fail
          refine (hC _).mono ?_
          rintro e w1 ⟨rfl, rfl⟩
          go_wp2
          go_roundw
          case rel => exact ⟨k + 1, z + y, by omega, by go_num, by go_num, by omega, HZ2, trivial⟩
          case measure => simp [intOf]; omega
      · have d1 : decide (sy < 0) = false := decide_eq_false hs
        rw [d1] at hC
        rw [if_neg hs] at HT
        have HZ2 : Hid (rowL (factO L) (r.take (k + 1)) = some (z + 1)) := HT.out
        clear HT hs hs1 hs2 d1
        go_wp2_with fail
        refine (hC _).mono ?_
        rintro e w1 ⟨rfl, rfl⟩
        go_wp2
        go_roundw
        case rel => exact ⟨k + 1, z + 1, by omega, by go_num, by go_num, by omega, HZ2, trivial⟩
        case measure => simp [intOf]; omega
    · have HE : Hid (R = min (z : Int) 1000000) := by
        show _ = _
        have h0 := HZ.out
        rw [List.take_of_length_le (by omega)] at h0
        rw [← HR.out, h0]
        show ((min z 1000000 : Nat) : Int) = _
        omega
      clear hN0
      by_cases hm : (z : Int) ≤ 1000000
      · have HE2 : Hid (R = z) := by show _ = _; rw [HE.out]; omega
        go_wp2
        all_goals
          first
          | (exfalso; omega)
          | (go_ret; exact ⟨by rw [HE2.out]; rfl, rfl⟩)
          | (go_ret; exact ⟨by rw [HE.out]; rfl, rfl⟩)
      · have HE2 : Hid (R = 1000000) := by show _ = _; rw [HE.out]; omega
        go_wp2
        all_goals
          first
          | (exfalso; omega)
          | (go_ret; exact ⟨by rw [HE2.out]; rfl, rfl⟩)
          | (go_ret; exact ⟨by rw [HE.out]; rfl, rfl⟩)

end Go.Proofs.YtmkimaceioacgaaDoor
