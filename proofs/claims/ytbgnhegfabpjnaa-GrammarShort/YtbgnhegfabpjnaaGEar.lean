/- The document's side: which of two rows goes ahead. -/
import Derived.Test.YtbgnhegfabpjnaaGSlx
import Derived.Test.YtbgnhegfabpjnaaGSml
namespace Go.Proofs.Ytbgnhegfabpjnaa
open Go.RowKit
set_option linter.unusedVariables false
set_option maxRecDepth 100000

def lexLt : List Int → List Int → Bool
  | x :: a, y :: b => if x = y then lexLt a b else decide (x < y)
  | _, _ => false
def earB (a b : List Int) : Bool := if a.length = b.length then lexLt a b else decide (a.length < b.length)
theorem lexLt_iff : ∀ (a b : List Int), a.length = b.length → (lexLt a b = true ↔ lexLe a b ∧ a ≠ b)
  | [], [], _ => by simp [lexLt]
  | [], _ :: _, h => by simp at h
  | _ :: _, [], h => by simp at h
  | x :: a, y :: b, h => by
    have ih := lexLt_iff a b (by simpa using h)
    unfold lexLt
    by_cases e : x = y
    · subst e
      rw [if_pos rfl, ih]
      constructor
      · rintro ⟨h1, h2⟩; exact ⟨.inr ⟨rfl, h1⟩, fun e => h2 (by injection e)⟩
      · rintro ⟨h1 | ⟨_, h1⟩, h2⟩
        · omega
        · exact ⟨h1, fun e => h2 (by rw [e])⟩
    · rw [if_neg e, decide_eq_true_iff]
      constructor
      · intro h1; exact ⟨.inl h1, fun e' => e (by injection e')⟩
      · rintro ⟨h1 | ⟨h1, _⟩, _⟩
        · exact h1
        · exact absurd h1 e
theorem earB_iff (a b : List Int) : earB a b = true ↔ slx a b ∧ a ≠ b := by
  unfold earB
  by_cases e : a.length = b.length
  · rw [if_pos e, lexLt_iff a b e]
    constructor
    · rintro ⟨h1, h2⟩; exact ⟨.inr ⟨e, h1⟩, h2⟩
    · rintro ⟨h1 | ⟨_, h1⟩, h2⟩
      · omega
      · exact ⟨h1, h2⟩
  · rw [if_neg e, decide_eq_true_iff]
    constructor
    · intro h; exact ⟨.inl h, fun e' => e (by rw [e'])⟩
    · rintro ⟨h1 | ⟨h1, _⟩, _⟩
      · exact h1
      · exact absurd h1 e

set_option maxHeartbeats 2000000 in
theorem earlier_any (va vb : Value) (la lb : List Int) (w : World) (hz : la.length ≤ 1000000) (ha : IntsR w va la) (hb : IntsR w vb lb) :
    Calls Try.prog 15 #[va, vb] w fun e w' => e = .returned (.bool (earB la lb)) ∧ Below w.heap.size w w' := by
  obtain ⟨aa, ac, rfl⟩ := ha.slice
  obtain ⟨ba, bc, rfl⟩ := hb.slice
  by_cases h1 : la.length = lb.length
  · have e1 : earB la lb = lexLt la lb := by unfold earB; rw [if_pos h1]
    rw [e1]
    clear e1
    have HA : Hid (IntsR w (.slice aa la.length ac) la) := ha
    have HB : Hid (IntsR w (.slice ba lb.length bc) lb) := hb
    clear ha hb
    have HL : Hid (lb.length = la.length) := h1.symm
    rw [← h1] at HB ⊢
    clear h1
    generalize hn : la.length = n at *
    have HN : Hid (la.length = n) := hn
    clear hn
    go_enter Try.func15, Try.ntmps15
    go_wp2
    go_loopw [5] (fun i wr => ∃ k : Nat, k ≤ n ∧ i = .int .i64 k ∧ Hid (lexLt la lb = lexLt (la.drop k) (lb.drop k)) ∧ Below w.heap.size w wr) (fun i _ => n - (intOf i).toNat)
    case atStart => exact ⟨0, Nat.zero_le _, rfl, (by show _ = _; simp), Below.refl _ _⟩
    case round =>
      obtain ⟨k, hk, rfl, HM, hbw⟩ := hrel
      by_cases hlt : k < n
      · have hka : k < la.length := by rw [HN.out]; exact hlt
        have hkb : k < lb.length := by rw [HL.out]; exact hlt
        obtain ⟨b, off, rfl, hb, hc⟩ := (HA.out.below hbw).at hka
        obtain ⟨b', off', rfl, hb', hc'⟩ := (HB.out.below hbw).at hkb
        have HS : Hid (lexLt la lb = if la.getD k 0 = lb.getD k 0 then lexLt (la.drop (k + 1)) (lb.drop (k + 1)) else decide (la.getD k 0 < lb.getD k 0)) := by
          show _ = _
          rw [HM.out, List.drop_eq_getElem_cons hka, List.drop_eq_getElem_cons hkb]
          simp [lexLt, List.getD, hka, hkb]
        clear HM hka hkb
        generalize la.getD k 0 = x at *
        generalize lb.getD k 0 = y at *
        by_cases g1 : x = y
        · subst g1
          have HS2 : Hid (lexLt la lb = lexLt (la.drop (k + 1)) (lb.drop (k + 1))) := by show _ = _; rw [HS.out, if_pos rfl]
          clear HS
          go_wp2_with fail
          go_quiet (fail)
          go_wp2
          go_roundw
          case rel => exact ⟨k + 1, by omega, by go_num, HS2, below_drewG hbw _⟩
          case measure => simp [intOf]; omega
        · have HS2 : Hid (lexLt la lb = decide (x < y)) := by show _ = _; rw [HS.out, if_neg g1]
          clear HS
          have g2 : (x == y) = false := by rw [beq_eq_false_iff_ne]; exact g1
          go_wp2_with fail
          go_quiet (fail)
          have hbd := below_drewG hbw nq
          have hcd : (wr.drewN nq).cell? ⟨b, off + k, none⟩ = some (.int .i64 x) := hc
          have hcd' : (wr.drewN nq).cell? ⟨b', off' + k, none⟩ = some (.int .i64 y) := hc'
          have hbl : b < (wr.drewN nq).heap.size := hb
          have hbl' : b' < (wr.drewN nq).heap.size := hb'
          generalize wr.drewN nq = wd at *
          go_wp2_with fail
          go_quiet (fail)
          go_wp2
          go_ret
          exact ⟨by rw [HS2.out]; rfl, below_drewG hbd _⟩
      · have HS : Hid (lexLt la lb = false) := by
          show _ = _; rw [HM.out, List.drop_eq_nil_of_le (by rw [HN.out]; omega)]; rfl
        go_wp2
        go_ret
        exact ⟨by rw [HS.out]; rfl, hbw⟩
  · have e1 : earB la lb = decide (la.length < lb.length) := by unfold earB; rw [if_neg h1]
    have HE : Hid (earB la lb = decide ((la.length : Int) < (lb.length : Int))) := by
      show _ = _; rw [e1, Bool.eq_iff_iff]; simp
    have h1' : ((la.length : Int) == (lb.length : Int)) = false := by rw [beq_eq_false_iff_ne]; omega
    clear ha hb e1
    go_enter Try.func15, Try.ntmps15
    go_wp2
    go_ret
    exact ⟨by rw [HE.out]; simp, Below.refl _ _⟩

end Go.Proofs.Ytbgnhegfabpjnaa
