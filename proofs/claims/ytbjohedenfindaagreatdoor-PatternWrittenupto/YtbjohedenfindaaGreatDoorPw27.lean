/- Texts of the proof, put together: GTm, MkS, RWgt, RPokB. -/
import Derived.Test.YtbjohedenfindaaGreatDoorPw26
import Derived.Test.YtbjohedenfindaaGreatDoorPw07
import Derived.Test.YtbjohedenfindaaGreatDoorPw24
namespace Go.Proofs.YtbjohedenfindaaGreatDoor
set_option linter.unusedVariables false

theorem canon_rng : ∀ (l : List Rg) (p : Int), 0 ≤ p → canonFrom p l = true → (∀ r ∈ l, (0 ≤ r.1 ∧ r.1 ≤ 1114111) ∧ 0 ≤ r.2 ∧ r.2 ≤ 1114111) ∧ (l.length : Int) * 2 ≤ max 0 (1114113 - p)
  | [], p, hp, _ => ⟨by simp, by simp; omega⟩
  | r :: l, p, hp, h => by
    simp only [canonFrom] at h
    split at h
    · simp at h
    · rename_i hh
      obtain ⟨h1, h2⟩ := canon_rng l (r.2 + 2) (by omega) h
      refine ⟨fun x hx => ?_, ?_⟩
      · rcases List.mem_cons.1 hx with rfl | hx
        · omega
        · exact h1 x hx
      · simp only [List.length_cons]; omega
theorem kids_list (Q : Tm → Prop) : ∀ (ks : List (Option Re)), (∀ o ∈ ks, ∃ tm, o = some (reOf tm) ∧ Q tm) → ∃ l : List Tm, ks = (l.map reOf).map some ∧ ∀ x ∈ l, Q x
  | [], _ => ⟨[], rfl, by simp⟩
  | o :: ks, h => by
    obtain ⟨tm, h1, h2⟩ := h o (by simp)
    obtain ⟨l, h3, h4⟩ := kids_list Q ks fun o ho => h o (by simp [ho])
    refine ⟨tm :: l, by rw [h1, h3]; rfl, fun x hx => ?_⟩
    rcases List.mem_cons.1 hx with rfl | hx
    · exact h2
    · exact h4 x hx
theorem good_tm : ∀ (t : Re), GoodT t → ∃ tm : Tm, t = reOf tm ∧ Org tm ∧ Sml tm ∧ Two tm := by
  refine Re.ind ?_
  intro t ih hG
  have h1 : NodeOk t := (hG 1).1
  have hk : ∀ o ∈ t.kids, ∃ tm, o = some (reOf tm) ∧ (Org tm ∧ Sml tm ∧ Two tm) := by
    intro o ho
    obtain ⟨k, rfl, _⟩ := (hG 1).2 o ho
    have hGk : GoodT k := fun n => by
      obtain ⟨k', e, h⟩ := (hG (n + 1)).2 (some k) ho
      injection e with e; subst e; exact h
    obtain ⟨tm, h2, h3⟩ := ih k ho hGk
    exact ⟨tm, by rw [h2], h3⟩
  obtain ⟨l, hl, hQ⟩ := kids_list (fun tm => Org tm ∧ Sml tm ∧ Two tm) t.kids hk
  have hlen : t.kids.length = l.length := by rw [hl]; simp
  obtain ⟨k, s, a, b, ks⟩ := t
  simp only at hl hlen
  subst hl
  have e : ∀ k s a b, (⟨k, s, a, b, (l.map reOf).map some⟩ : Re) = reOf ⟨k, s, a, b, l⟩ := fun k s a b => by rw [reOf_eq]
  have hkids : ∀ x ∈ l, Org x ∧ Sml x ∧ Two x := hQ
  refine ⟨⟨k, s, a, b, l⟩, e _ _ _ _, org_iff.2 ⟨?_, fun x hx => (hQ x hx).1⟩, sml_iff.2 ⟨?_, fun x hx => (hQ x hx).2.1⟩, two_iff.2 ⟨?_, fun x hx => (hQ x hx).2.2⟩⟩
  · rcases h1 with ⟨h1, h2, h3, h4, _⟩ | ⟨h1, _, _, h3, h4, h5⟩ | ⟨h1, h2, _, h3, h4, h5⟩ | ⟨h1, h2, h3, h4, h5⟩ | ⟨h1, h2, h3, _, h4, h5⟩ <;> simp only at *
    · have : l = [] := by simpa using h2
      subst this h1 h3 h4; exact .inl ⟨s, rfl⟩
    · subst h1 h3 h4 h5; exact .inr (.inl ⟨l, rfl⟩)
    · subst h3 h4 h5
      refine .inr (.inr (.inl ⟨k, l, h1, rfl, ?_⟩))
      intro e; rw [e] at h2; simp at h2
    · subst h1 h3 h4 h5
      have : l.length = 1 := by simpa using h2
      obtain ⟨x, rfl⟩ := List.length_eq_one_iff.1 this
      exact .inr (.inr (.inr (.inl ⟨x, rfl⟩)))
    · subst h1 h5
      have : l.length = 1 := by simpa using h2
      obtain ⟨x, rfl⟩ := List.length_eq_one_iff.1 this
      refine .inr (.inr (.inr (.inr ⟨x, a, b, rfl, h3, ?_⟩)))
      omega
  · have hsl : s.length ≤ 1000000 ∧ ∀ r ∈ s, (0 ≤ r.1 ∧ r.1 ≤ 1114111) ∧ 0 ≤ r.2 ∧ r.2 ≤ 1114111 := by
      rcases h1 with ⟨_, _, _, _, h5, _⟩ | ⟨_, _, _, _, _, h5⟩ | ⟨_, _, _, _, _, h5⟩ | ⟨_, _, _, _, h5⟩ | ⟨_, _, _, _, _, h5⟩ <;> simp only at h5
      · obtain ⟨p1, p2⟩ := canon_rng s 0 (by omega) h5
        exact ⟨by omega, p1⟩
      all_goals subst h5; simp
    have hl2 : l.length ≤ 17592186000000 := by
      rcases h1 with ⟨_, h2, _⟩ | ⟨_, _, h2, _⟩ | ⟨_, _, h2, _⟩ | ⟨_, h2, _⟩ | ⟨_, h2, _⟩ <;> simp at h2 <;> first | omega | (subst h2; simp)
    refine ⟨?_, ?_, ?_, hsl.1, hsl.2, hl2⟩ <;> (simp only; rcases h1 with ⟨h1, _, h3, h4, _⟩ | ⟨h1, _, _, h3, h4, _⟩ | ⟨h1, _, _, h3, h4, _⟩ | ⟨h1, _, h3, h4, _⟩ | ⟨h1, _, h3, h4, h5, _⟩ <;> simp only at * <;> omega)
  · rcases h1 with ⟨h1, h2, _⟩ | ⟨h1, _, h2, _⟩ | ⟨h1, h3, h2, _⟩ | ⟨h1, h2, _⟩ | ⟨h1, h2, _⟩ <;> simp at h1 h2 <;> simp only
    · subst h2; simp; omega
    · exact ⟨by omega, h2⟩
    · simp at h3; exact ⟨fun _ => h3, h2⟩
    · exact ⟨by omega, by omega⟩
    · exact ⟨by omega, by omega⟩
end Go.Proofs.YtbjohedenfindaaGreatDoor

namespace Go.Proofs.YtbjohedenfindaaGreatDoor
open Go.RowKit
set_option linter.unusedVariables false
set_option maxRecDepth 100000

/-- what a set has, or what the other one has -/
def fOf (a : List Rg) (neg : Bool) (p : Int) : Bool := if neg then !hasL a p else hasL a p

theorem canon_of : ∀ (l : List Rg) (p : Int), Apart l → (∀ r ∈ l, p ≤ r.1 ∧ r.2 < 1114112) → canonFrom p l = true
  | [], _, _, _ => rfl
  | r :: t, p, ha, hb => by
    have h1 := hb r (by simp)
    have h2 := ha.2 r (by simp)
    rw [canonFrom, if_neg (by omega)]
    refine canon_of t (r.2 + 2) ha.tail fun x hx => ?_
    have := ha.head x hx
    exact ⟨by omega, (hb x (by simp [hx])).2⟩
theorem upto_canon {l : List Rg} {f : Int → Bool} (h : Upto l 1114112 f) : canonFrom 0 l = true ∧ l.length ≤ 600000 := by
  have h1 := canon_of l 0 h.apart fun r hr => h.low r hr
  have h2 := (canon_rng l 0 (by omega) h1).2
  exact ⟨h1, by omega⟩
theorem canon_upto {l : List Rg} (h : canonFrom 0 l = true) : Upto l 1114112 (fun p => hasL l p) := by
  have hap : ∀ (l : List Rg) (p : Int), canonFrom p l = true → Apart l ∧ ∀ r ∈ l, p ≤ r.1 ∧ r.1 ≤ r.2 ∧ r.2 ≤ 1114111 := by
    intro l
    induction l with
    | nil => intro p _; exact ⟨⟨List.Pairwise.nil, by simp⟩, by simp⟩
    | cons r t ih =>
      intro p h
      rw [canonFrom] at h
      split at h
      · simp at h
      · rename_i hh
        obtain ⟨h1, h2⟩ := ih (r.2 + 2) h
        refine ⟨⟨List.pairwise_cons.2 ⟨fun x hx => by have := h2 x hx; omega, h1.1⟩, fun x hx => ?_⟩, fun x hx => ?_⟩
        · rcases List.mem_cons.1 hx with rfl | hx
          · omega
          · exact h1.2 x hx
        · rcases List.mem_cons.1 hx with rfl | hx
          · omega
          · have := h2 x hx; omega
  obtain ⟨h1, h2⟩ := hap l 0 h
  exact ⟨h1, fun r hr => by have := h2 r hr; omega, fun p _ _ => rfl⟩

/-- one canonical list for each set -/
def MkOk (mk : List Rg → Bool → List Rg) : Prop := ∀ a neg, (∀ out, Upto out 1114112 (fOf a neg) → out = mk a neg) ∧ canonFrom 0 (mk a neg) = true ∧ (mk a neg).length ≤ 600000
theorem mk_exists : ∃ mk, MkOk mk := by
  have each : ∀ x : List Rg × Bool, ∃ l : List Rg, (∀ out, Upto out 1114112 (fOf x.1 x.2) → out = l) ∧ canonFrom 0 l = true ∧ l.length ≤ 600000 := by
    intro x
    by_cases h : ∃ out, Upto out 1114112 (fOf x.1 x.2)
    · obtain ⟨out, ho⟩ := h
      exact ⟨out, fun o h => upto_unique h ho fun _ _ _ => rfl, (upto_canon ho).1, (upto_canon ho).2⟩
    · exact ⟨[], fun o ho => absurd ⟨o, ho⟩ h, rfl, by simp⟩
  obtain ⟨F, hF⟩ := Classical.axiomOfChoice each
  exact ⟨fun a neg => F (a, neg), fun a neg => hF (a, neg)⟩
theorem MkOk.eq {mk : List Rg → Bool → List Rg} (M : MkOk mk) {a out : List Rg} {neg : Bool} {f : Int → Bool} (h : Upto out 1114112 f) (hf : ∀ p, 0 ≤ p → p < 1114112 → fOf a neg p = f p) : out = mk a neg :=
  (M a neg).1 out ⟨h.apart, h.low, fun p h0 h1 => (hf p h0 h1).trans (h.has p h0 h1)⟩
theorem MkOk.self {mk : List Rg → Bool → List Rg} (M : MkOk mk) {l : List Rg} (h : canonFrom 0 l = true) : mk l false = l := (M.eq (canon_upto h) fun _ _ _ => rfl).symm
theorem MkOk.dot {mk : List Rg → Bool → List Rg} (M : MkOk mk) : mk [(10, 10)] true = [(0, 9), (11, 1114111)] := by
  refine (M.eq (f := fun p => hasL [(0, 9), (11, 1114111)] p) (canon_upto (by decide)) fun p h0 h1 => ?_).symm
  simp only [fOf, hasL, inR, List.any_cons, List.any_nil, Bool.or_false, if_true]
  by_cases h : p = 10
  · subst h; decide
  · rcases Int.lt_or_gt_of_ne h with h | h
    · have e1 : decide (10 ≤ p) = false := by simp; omega
      have e2 : decide (0 ≤ p) = true := by simp; omega
      have e3 : decide (p ≤ 9) = true := by simp; omega
      rw [e1, e2, e3]; rfl
    · have e1 : decide (p ≤ 10) = false := by simp; omega
      have e2 : decide (11 ≤ p) = true := by simp; omega
      have e3 : decide (p ≤ 1114111) = true := by simp; omega
      rw [e1, e2, e3]; simp

theorem setc_of {mk : List Rg → Bool → List Rg} (M : MkOk mk) : SetC mk where
  canon := fun va a w hl ha => (pcanon_any va a w hl ha).mono fun e w' ⟨v, out, he, ho, hU, hb, _⟩ => by
    have := M.eq (a := a) (neg := false) hU fun _ _ _ => rfl
    subst this
    exact ⟨v, he, ho, hb⟩
  other := fun va a w hl ha => (pother_any va a w hl ha).mono fun e w' ⟨v, out, he, ho, hU, hb, _⟩ => by
    have := M.eq (a := a) (neg := true) hU fun _ _ _ => rfl
    subst this
    exact ⟨v, he, ho, hb⟩
theorem rcanon_mk {mk : List Rg → Bool → List Rg} (M : MkOk mk) (v : Value) (l : List Rg) (w : World) (hl : l.length ≤ 600000) (hv : Rngs w v l) :
    Calls Tryz.prog 51 #[v] w fun e w' => ∃ u, e = .returned u ∧ RowR (fun b => w.heap.size ≤ b) w' u (mk l false) ∧ Below w.heap.size w w' :=
  (rcanon_any v l w hl hv).mono fun e w' ⟨v, out, he, ho, hU, hb, _⟩ => by
    have := M.eq (a := l) (neg := false) hU fun _ _ _ => rfl
    subst this
    exact ⟨v, he, RowR.of_own ho, hb⟩
theorem setd_of {mk : List Rg → Bool → List Rg} (M : MkOk mk) : SetD mk where
  canon := fun v l w hl hv => rcanon_mk M v l w (by omega) hv
  all := fun w => all_any w
  both := fun v1 v l w hl h1 hv => (both_any 3 v1 v [(0, 1114111)] l w (by simp) (by omega) h1 hv (fun p W g1 g2 => wanted_3 v1 v _ l p W (by simp) (by omega) g1 g2)).mono fun e w' ⟨u, out, he, ho, hU, hb, _⟩ => by
    have := M.eq (a := l) (neg := true) hU fun p h0 h1 => by
      rw [show wantR 3 (hasB [(0, 1114111)] p) (hasB l p) = (hasB [(0, 1114111)] p && !hasB l p) from rfl, hasB_in _ p h0 (by omega), hasB_in _ p h0 (by omega)]
      have : hasL [(0, 1114111)] p = true := by simp [hasL, inR]; omega
      rw [this]; rfl
    subst this
    exact ⟨u, he, RowR.of_own ho, hb⟩

end Go.Proofs.YtbjohedenfindaaGreatDoor

namespace Go.Proofs.YtbjohedenfindaaGreatDoor
open Go.RowKit
set_option linter.unusedVariables false
set_option maxRecDepth 100000

set_option maxHeartbeats 1000000 in
theorem most_any (a b : Int) (w : World) : Calls Tryz.prog 52 #[.int .i64 a, .int .i64 b] w fun e w' => e = .returned (.int .i64 (max a b)) ∧ w' = w := by
  by_cases h : b < a
  · have e : max a b = a := by omega
    have hq : decide (a > b) = true := by simpa using h
    rw [e]
    clear e
    go_enter Tryz.func52, Tryz.ntmps52
    go_wp2
    go_ret
    exact ⟨rfl, rfl⟩
  · have e : max a b = b := by omega
    have hq : decide (a > b) = false := by simpa using h
    rw [e]
    clear e
    go_enter Tryz.func52, Tryz.ntmps52
    go_wp2
    go_ret
    exact ⟨rfl, rfl⟩

def sumW (l : List Tm) : Nat := (l.map wT).sum
theorem sumW_take (l : List Tm) (i : Nat) (h : i < l.length) : sumW (l.take (i + 1)) = sumW (l.take i) + wT (l.getD i nothT) := by
  unfold sumW; rw [List.take_succ_eq_append_getElem h, List.map_append, List.sum_append]; simp [h]
theorem sumW_le (l : List Tm) (i : Nat) : sumW (l.take i) ≤ sumW l := by
  have : sumW l = sumW (l.take i) + sumW (l.drop i) := by unfold sumW; rw [← List.sum_append, ← List.map_append, List.take_append_drop]
  omega
theorem wT_sum {t : Tm} (hk : t.kind ≠ 1) : sumW t.kids < wT t := by
  rw [wT_eq, if_neg hk]
  split
  · have := Nat.le_mul_of_pos_right (t.kids.map wT).sum (show 0 < max (max t.mn t.mx).toNat 1 by omega)
    unfold sumW; omega
  · unfold sumW; omega
/-- the weight, exactly where it is at most 60 -/
def Wgt (t : Tm) (z : Int) : Prop := (z = (wT t : Int) ∨ (60 < z ∧ 60 < (wT t : Int))) ∧ 1 ≤ z ∧ z ≤ 3001
def WgtC (t : Tm) : Prop := ∀ (ok : Nat → Prop) (w : World) (v : Value), TT ok w v t → Sml t → Calls Tryz.prog 26 #[v] w fun e w' => ∃ z, e = .returned (.int .i64 z) ∧ Wgt t z ∧ Below w.heap.size w w'
set_option maxHeartbeats 4000000 in
theorem weight_raw {w : World} {b kc : Nat} {t : Tm} {ka : Option Addr} (hs : NumOk t) (hlt : b < w.heap.size) (c0 : w.cell? ⟨b, 0, none⟩ = some (.int .i64 t.kind)) (c2 : w.cell? ⟨b, 2, none⟩ = some (.int .i64 t.mn)) (c3 : w.cell? ⟨b, 3, none⟩ = some (.int .i64 t.mx)) (c4 : w.cell? ⟨b, 4, none⟩ = some (.slice ka t.kids.length kc))
    (HK : Hid (∀ j, j < t.kids.length → ∃ g off b1, ka = some ⟨g, off, none⟩ ∧ g < w.heap.size ∧ w.cell? ⟨g, off + j, none⟩ = some (.pointer (some ⟨b1, 0, none⟩)) ∧ ∀ w', Below w.heap.size w w' → Calls Tryz.prog 26 #[.pointer (some ⟨b1, 0, none⟩)] w' fun e w'' => ∃ z, e = .returned (.int .i64 z) ∧ Wgt (t.kids.getD j nothT) z ∧ Below w'.heap.size w' w'')) :
    Calls Tryz.prog 26 #[.pointer (some ⟨b, 0, none⟩)] w fun e w' => ∃ z, e = .returned (.int .i64 z) ∧ Wgt t z ∧ Below w.heap.size w w' := by
  have hkl := hs.2.2.2.2.2
  have hm1 := hs.2.1
  have hm2 := hs.2.2.1
  by_cases hk : t.kind = 1
  · have HW : Hid (Wgt t 1) := ⟨.inl (by rw [wT_eq, if_pos hk]; rfl), by omega, by omega⟩
    rw [hk] at c0
    clear hk hs
    go_enter Tryz.func26, Tryz.ntmps26
    go_wp2
    go_ret
    exact ⟨_, rfl, HW.out, Below.refl _ _⟩
  · have hq : (t.kind == 1) = false := by rw [beq_eq_false_iff_ne]; exact hk
    have HS : Hid (sumW t.kids < wT t) := wT_sum hk
    have HE6 : Hid (t.kind = 6 → sumW t.kids ≤ 60 → Wgt t ((sumW t.kids : Int) * max (max t.mn t.mx) 1 + 1)) := fun h6 h60 => by
      have e : (wT t : Int) = (sumW t.kids : Int) * max (max t.mn t.mx) 1 + 1 := by
        rw [wT_eq, if_neg hk, if_pos h6]
        have e1 : ((max (max t.mn t.mx).toNat 1 : Nat) : Int) = max (max t.mn t.mx) 1 := by omega
        unfold sumW
        push_cast
        rw [← e1]
      have h0 : 0 ≤ (sumW t.kids : Int) * max (max t.mn t.mx) 1 := Int.mul_nonneg (by omega) (by omega)
      have h1 : (sumW t.kids : Int) * max (max t.mn t.mx) 1 ≤ 60 * 50 := Int.mul_le_mul (by omega) (by omega) (by omega) (by omega)
      exact ⟨.inl e.symm, by omega, by omega⟩
    have HEn : Hid (t.kind ≠ 6 → sumW t.kids ≤ 60 → Wgt t ((sumW t.kids : Int) + 1)) := fun h6 h60 => by
      refine ⟨.inl ?_, by omega, by omega⟩
      rw [wT_eq, if_neg hk, if_neg h6]; unfold sumW; omega
    have HM : Hid (∀ a b w, Calls Tryz.prog 52 #[.int .i64 a, .int .i64 b] w fun e w' => e = .returned (.int .i64 (max a b)) ∧ w' = w) := most_any
    clear hk hs
    go_enter Tryz.func26, Tryz.ntmps26
    go_wp2
    go_loopw [3, 4] (fun nv iv wr => ∃ i : Nat, i ≤ t.kids.length ∧ iv = .int .i64 i ∧ nv = .int .i64 (sumW (t.kids.take i) : Int) ∧ sumW (t.kids.take i) ≤ 60 ∧ Below w.heap.size w wr) (fun _ iv _ => t.kids.length - (intOf iv).toNat)
    case atStart => exact ⟨0, Nat.zero_le _, rfl, rfl, by simp [sumW], Below.refl _ _⟩
    case round =>
      obtain ⟨i, hi, rfl, rfl, h60, hbw⟩ := hrel
      have d0 := (hbw.cell (p := ⟨b, 0, none⟩) hlt).trans c0
      have d2 := (hbw.cell (p := ⟨b, 2, none⟩) hlt).trans c2
      have d3 := (hbw.cell (p := ⟨b, 3, none⟩) hlt).trans c3
      have d4 := (hbw.cell (p := ⟨b, 4, none⟩) hlt).trans c4
      clear c0 c2 c3 c4
      by_cases hlt2 : i < t.kids.length
      · obtain ⟨g, off, b1, rfl, hg, hu, hc⟩ := HK.out i hlt2
        have hu' := (hbw.cell (p := ⟨g, off + i, none⟩) hg).trans hu
        have HC := hc wr hbw
        have HT : Hid (sumW (t.kids.take (i + 1)) = sumW (t.kids.take i) + wT (t.kids.getD i nothT)) := sumW_take _ i hlt2
        have HL : Hid (sumW (t.kids.take (i + 1)) ≤ sumW t.kids) := sumW_le _ _
        generalize hsi : sumW (t.kids.take i) = s0 at *
        clear hc hu hsi HE6 HEn d0 d2 d3
        go_wp2_with fail
        refine HC.mono ?_
        rintro e w2 ⟨z, rfl, hz, hb2⟩
        obtain ⟨hz1, hz2, hz3⟩ := hz
        have hbw2 := hbw.trans (hb2.mono hbw.size)
        by_cases hbig : 60 < (s0 : Int) + z
        · have HW : Hid (Wgt t 61) := by
            refine ⟨.inr ⟨by omega, ?_⟩, by omega, by omega⟩
            have := HS.out; have := HT.out; have := HL.out
            rcases hz1 with h | h <;> omega
          clear hz1
          go_wp2
          go_ret
          exact ⟨_, rfl, HW.out, hbw2⟩
        · have hze : z = (wT (t.kids.getD i nothT) : Int) := by rcases hz1 with h | h <;> omega
          have HN : Hid ((s0 : Int) + z = (sumW (t.kids.take (i + 1)) : Int)) := by show _ = _; have := HT.out; omega
          clear hz1 hze
          go_wp2
          go_roundw
          case rel => exact ⟨i + 1, by omega, by go_num, by rw [HN.out], by have := HN.out; omega, hbw2⟩
          case measure => simp [intOf]; omega
      · have hi2 : t.kids.take i = t.kids := List.take_of_length_le (by omega)
        rw [hi2] at h60 ⊢
        by_cases h6 : t.kind = 6
        · have HW := HE6.out h6 h60
          have HWW : Hid (Wgt t ((sumW t.kids : Int) * max (max t.mn t.mx) 1 + 1)) := HW
          have hp0 : 0 ≤ (sumW t.kids : Int) * max (max t.mn t.mx) 1 := Int.mul_nonneg (by omega) (by omega)
          have hp1 : (sumW t.kids : Int) * max (max t.mn t.mx) 1 ≤ 60 * 50 := Int.mul_le_mul (by omega) (by omega) (by omega) (by omega)
          have hw1 : IntKind.i64.wrap ((sumW t.kids : Int) * max (max t.mn t.mx) 1) = (sumW t.kids : Int) * max (max t.mn t.mx) 1 := wrap_id _ (by omega) (by omega)
          rw [h6] at d0
          clear hi2 HW HE6 HEn HS HK
          generalize hmx : max (max t.mn t.mx) 1 = M1 at *
          generalize hmm : max t.mn t.mx = M0 at *
          generalize t.mn = mn at *
          generalize t.mx = mx at *
          generalize (sumW t.kids : Int) = S at *
          have HM1 : Hid (∀ w, Calls Tryz.prog 52 #[.int .i64 mn, .int .i64 mx] w fun e w' => e = .returned (.int .i64 M0) ∧ w' = w) := fun w => by rw [← hmm]; exact HM.out mn mx w
          have HM2 : Hid (∀ w, Calls Tryz.prog 52 #[.int .i64 M0, .int .i64 1] w fun e w' => e = .returned (.int .i64 M1) ∧ w' = w) := fun w => by rw [← hmx]; exact HM.out M0 1 w
          clear HM hmx hmm hm1 hm2
          go_wp2
          go_quiet (first | (go_at_call 52; exact Calls.quiet_of_same (HM1.out _)) | (go_at_call 52; exact Calls.quiet_of_same (HM2.out _)))
          go_wp2
          go_ret
          exact ⟨_, rfl, HWW.out, below_drew' hbw _⟩
        · have hq6 : (t.kind == 6) = false := by rw [beq_eq_false_iff_ne]; exact h6
          have HWW : Hid (Wgt t ((sumW t.kids : Int) + 1)) := HEn.out h6 h60
          clear hi2 HE6 HEn HS HK h6
          generalize t.kind = kk at *
          go_wp2
          go_ret
          exact ⟨_, rfl, HWW.out, hbw⟩
theorem weight_any : ∀ (t : Tm), WgtC t := by
  refine Tm.ind ?_
  intro t ih ok w v hv hs
  obtain ⟨b, sv, ka, kc, hN⟩ := hv.node
  have e := hN.v_eq; subst e
  refine weight_raw hs.num hN.lt hN.c0 hN.c2 hN.c3 hN.c4 ?_
  intro j hj
  obtain ⟨g, off, u, h1, h2, _, h3, h4⟩ := hN.kid j hj
  obtain ⟨b1, rfl⟩ := h4.ptr
  exact ⟨g, off, b1, h1, h2, h3, fun w' hb => ih _ (getD_mem _ j hj) ok w' _ (h4.below hb) (hs.kid (getD_mem _ j hj))⟩
end Go.Proofs.YtbjohedenfindaaGreatDoor

namespace Go.Proofs.YtbjohedenfindaaGreatDoor
open Go.RowKit
set_option linter.unusedVariables false
set_option maxRecDepth 100000

/-- as many kids as the kind asks -/
def KidN (k n : Int) : Prop := (k = 1 ∧ n = 0) ∨ (k = 2 ∧ n ≠ 1) ∨ (k = 3 ∧ 1 < n) ∨ (k = 4 ∧ 1 < n) ∨ (k = 5 ∧ n = 1) ∨ (k = 6 ∧ n = 1)
set_option maxHeartbeats 2000000 in
theorem kidsok_yes {k n : Int} (h : KidN k n) (w : World) : Calls Tryz.prog 49 #[.int .i64 k, .int .i64 n] w fun e w' => e = .returned (.bool true) ∧ w' = w := by
  rcases h with ⟨rfl, rfl⟩ | ⟨rfl, h⟩ | ⟨rfl, h⟩ | ⟨rfl, h⟩ | ⟨rfl, rfl⟩ | ⟨rfl, rfl⟩
  · go_enter Tryz.func49, Tryz.ntmps49
    go_wp2
    go_ret
    exact ⟨rfl, rfl⟩
  · have hq : (n != 1) = true := by rw [bne_iff_ne]; exact h
    go_enter Tryz.func49, Tryz.ntmps49
    go_wp2
    go_ret
    first | exact ⟨rfl, rfl⟩ | exact ⟨by rw [hq], rfl⟩ | exact ⟨by simp [h], rfl⟩
  · go_enter Tryz.func49, Tryz.ntmps49
    go_wp2
    go_ret
    first | exact ⟨rfl, rfl⟩ | exact ⟨by simp [h], rfl⟩
  · go_enter Tryz.func49, Tryz.ntmps49
    go_wp2
    go_ret
    first | exact ⟨rfl, rfl⟩ | exact ⟨by simp [h], rfl⟩
  · go_enter Tryz.func49, Tryz.ntmps49
    go_wp2
    go_ret
    exact ⟨rfl, rfl⟩
  · go_enter Tryz.func49, Tryz.ntmps49
    go_wp2
    go_ret
    exact ⟨rfl, rfl⟩
theorem kidN_of {t : Re} (h : NodeOk t) : KidN t.kind t.kids.length := by
  unfold KidN
  rcases h with ⟨h1, h2, _⟩ | ⟨h1, h2, _⟩ | ⟨h1, h2, _⟩ | ⟨h1, h2, _⟩ | ⟨h1, h2, _⟩
  · rw [h2]; simp [h1]
  · omega
  · omega
  · omega
  · omega
theorem node_set {t : Re} (h : NodeOk t) : canonFrom 0 t.set = true ∧ (t.kind = 1 ∨ ((t.kind != 1) = true ∧ t.set = [])) := by
  rcases h with ⟨h1, _, _, _, h2, _⟩ | ⟨h1, _, _, _, _, h2⟩ | ⟨h1, _, _, _, _, h2⟩ | ⟨h1, _, _, _, h2⟩ | ⟨h1, _, _, _, _, h2⟩
  · exact ⟨h2, .inl h1⟩
  all_goals
    rw [h2]
    refine ⟨rfl, .inr ⟨?_, rfl⟩⟩
    rw [bne_iff_ne]; omega

theorem good_kid {t x : Tm} (h : GoodT (reOf t)) (hx : x ∈ t.kids) : GoodT (reOf x) := fun n => by
  have h1 : some (reOf x) ∈ (reOf t).kids := by
    rw [reOf_eq]
    exact List.mem_map_of_mem (List.mem_map_of_mem hx)
  obtain ⟨k', e, h2⟩ := (h (n + 1)).2 (some (reOf x)) h1
  injection e with e
  subst e
  exact h2
end Go.Proofs.YtbjohedenfindaaGreatDoor
