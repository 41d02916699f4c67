/- Texts of the proof, put together: ASgn. -/
import Derived.Test.YthbglakncijahaaGreatDoorAw08
import Derived.BigRegion
namespace Go.Proofs.YthbglakncijahaaGreatDoor
open Go.RowKit
set_option linter.unusedVariables false
set_option maxRecDepth 100000

def signsB : ByteArray := ⟨#[61, 61, 43, 43, 59, 58, 124, 123, 125, 40, 41, 91, 93, 44, 61, 60, 43, 45, 42, 47, 37]⟩
/-- is the byte the sign number k, and one of expressions? -/
def hitS (b : Int) (k : Nat) : Bool := (((signsB.get! k).toNat : Int) == b) && (decide (k < 4) || decide (8 < k))
theorem hit_sgn : ∀ b : Nat, b < 256 → (sgnB b = true ↔ ∃ k, k < 21 ∧ hitS (b : Int) k = true) := by decide +kernel

theorem sgn_one {s : ByteArray} {i k : Nat} (h2 : ¬ (i + 1 < s.size ∧ (((s.get! i).toNat = 61 ∧ (s.get! (i + 1)).toNat = 61) ∨ ((s.get! i).toNat = 43 ∧ (s.get! (i + 1)).toNat = 43)))) (hk : k < 21) (h : hitS ((s.get! i).toNat : Int) k = true) : sgnE s i = 1 := by
  unfold sgnE
  rw [if_neg h2, if_pos ((hit_sgn _ (bang_lt s i)).2 ⟨k, hk, h⟩)]
theorem sgn_none {s : ByteArray} {i : Nat} (h2 : ¬ (i + 1 < s.size ∧ (((s.get! i).toNat = 61 ∧ (s.get! (i + 1)).toNat = 61) ∨ ((s.get! i).toNat = 43 ∧ (s.get! (i + 1)).toNat = 43)))) (h : ∀ k, k < 21 → hitS ((s.get! i).toNat : Int) k = false) : sgnE s i = 0 := by
  unfold sgnE
  rw [if_neg h2, if_neg]
  intro hh
  obtain ⟨k, hk, h3⟩ := (hit_sgn _ (bang_lt s i)).1 hh
  rw [h k hk] at h3
  cases h3
theorem two_list (s : ByteArray) (i : Nat) (h : i + 1 < s.size) : (s.extract i (i + 2)).toList = [s.get! i, s.get! (i + 1)] := by
  rw [Lib.toList_data]
  have h1 : (s.extract i (i + 2)).data.size = 2 := by
    show (s.extract i (i + 2)).size = 2
    rw [ByteArray.size_extract]
    omega
  apply List.ext_getElem
  · simp only [Array.length_toList, h1]; rfl
  · intro n hn hn2
    have hn3 : n < 2 := hn2
    have e : ∀ k, k < 2 → (s.extract i (i + 2)).data.toList[k]? = some (s.get! (i + k)) := fun k hk => by
      have h3 : s.data.size = s.size := rfl
      rw [ByteArray.data_extract, Array.getElem?_toList, Array.getElem?_extract, if_pos (by omega), get_bangA]
      rw [Array.getElem?_eq_getElem (by omega)]
      rfl
    have := e n hn3
    rw [List.getElem?_eq_getElem hn] at this
    rcases (show n = 0 ∨ n = 1 by omega) with rfl | rfl
    · simpa using this
    · simpa using this

set_option maxHeartbeats 4000000 in
theorem rsign_loop (s : ByteArray) (i : Nat) (hs : s.size ≤ 140737488351232) (hi : i < s.size) (w : World) (h2 : ¬ (i + 1 < s.size ∧ (((s.get! i).toNat = 61 ∧ (s.get! (i + 1)).toNat = 61) ∨ ((s.get! i).toNat = 43 ∧ (s.get! (i + 1)).toNat = 43)))) :
    Calls Tryz.prog 115 #[.string s, .int .i64 i, .bool false] w fun e w' => e = .returned (.string (s.extract i (i + sgnE s i))) ∧ ∃ n, w' = w.drewN n := by
  have H2 : Hid (¬ (i + 1 < s.size ∧ (((s.get! i).toNat = 61 ∧ (s.get! (i + 1)).toNat = 61) ∨ ((s.get! i).toNat = 43 ∧ (s.get! (i + 1)).toNat = 43)))) := h2
  have hii : IntKind.i64.wrap ((i : Int) + 1) = (i : Int) + 1 := by rw [IntKind.wrap_i64]; omega
  have hb := get_atA s i hi
  have h4 : (i + 1 < s.size ∧ ((s.extract i (i + 2)).toList == [61, 61]) = false ∧ ((s.extract i (i + 2)).toList == [43, 43]) = false) ∨ ¬ i + 1 < s.size := by
    by_cases hl : i + 1 < s.size
    · refine .inl ⟨hl, ?_, ?_⟩
      all_goals
        rw [two_list s i hl]
        simp only [beq_eq_false_iff_ne, ne_eq, List.cons.injEq, and_true]
        rintro ⟨a, b⟩
        exact h2 ⟨hl, by rw [a, b]; simp⟩
    · exact .inr hl
  clear h2
  rcases h4 with ⟨hl, e1, e2⟩ | hl
  all_goals
    go_enter Tryz.func115, Tryz.ntmps115
    go_wp2
    go_loopw [8, 9] (fun a _ wr => ∃ k : Nat, a = .int .i64 k ∧ k ≤ 21 ∧ Hid (∀ j, j < k → hitS ((s.get! i).toNat : Int) j = false) ∧ ∃ n, wr = w.drewN n) (fun a _ _ => 21 - (intOf a).toNat)
    case atStart => exact ⟨0, rfl, by omega, fun j hj => by omega, 0, rfl⟩
    case round =>
      obtain ⟨k, rfl, hk, HA, n, rfl⟩ := hrel
      by_cases hk21 : k < 21
      · have hb2 := get_atA signsB k hk21
        have hsz : signsB.size = 21 := rfl
        unfold signsB at hb2 hsz
        cases heq : (((({ data := #[61, 61, 43, 43, 59, 58, 124, 123, 125, 40, 41, 91, 93, 44, 61, 60, 43, 45, 42, 47, 37] } : ByteArray).get! k).toNat : Int) == ((s.get! i).toNat : Int))
        · have HH : Hid (hitS ((s.get! i).toNat : Int) k = false) := by show _ = _; unfold hitS signsB; rw [heq]; rfl
          by_cases h4 : k ≥ 4
          · have d1 : decide ((k : Int) ≥ 4) = true := decide_eq_true (by omega)
            by_cases h8 : k ≤ 8
            · have d2 : decide ((k : Int) ≤ 8) = true := decide_eq_true (by omega)
              have HA2 : Hid (∀ j, j < k + 1 → hitS ((s.get! i).toNat : Int) j = false) := fun j hj => by
                by_cases e : j = k
                · subst e; exact HH.out
                · exact HA.out j (by omega)
              clear HA HH
              go_wp2
              go_region
              all_goals
                go_wp2
                exact ⟨⟨k + 1, by go_num, by omega, HA2, n + 1, rfl⟩, by simp [intOf]; omega⟩
            · have d2 : decide ((k : Int) ≤ 8) = false := decide_eq_false (by omega)
              have HA2 : Hid (∀ j, j < k + 1 → hitS ((s.get! i).toNat : Int) j = false) := fun j hj => by
                by_cases e : j = k
                · subst e; exact HH.out
                · exact HA.out j (by omega)
              clear HA HH
              go_wp2
              go_region
              all_goals
                go_wp2
                exact ⟨⟨k + 1, by go_num, by omega, HA2, n + 1, rfl⟩, by simp [intOf]; omega⟩
          · have d1 : decide ((k : Int) ≥ 4) = false := decide_eq_false (by omega)
            have HA2 : Hid (∀ j, j < k + 1 → hitS ((s.get! i).toNat : Int) j = false) := fun j hj => by
              by_cases e : j = k
              · subst e; exact HH.out
              · exact HA.out j (by omega)
            clear HA HH
            go_wp2
            go_region
            all_goals
              go_wp2
              exact ⟨⟨k + 1, by go_num, by omega, HA2, n + 1, rfl⟩, by simp [intOf]; omega⟩
        · by_cases h4 : k ≥ 4
          · have d1 : decide ((k : Int) ≥ 4) = true := decide_eq_true (by omega)
            by_cases h8 : k ≤ 8
            · have d2 : decide ((k : Int) ≤ 8) = true := decide_eq_true (by omega)
              have HH : Hid (hitS ((s.get! i).toNat : Int) k = false) := by show _ = _; unfold hitS; rw [decide_eq_false (by omega : ¬ k < 4), decide_eq_false (by omega : ¬ 8 < k)]; simp
              have HA2 : Hid (∀ j, j < k + 1 → hitS ((s.get! i).toNat : Int) j = false) := fun j hj => by
                by_cases e : j = k
                · subst e; exact HH.out
                · exact HA.out j (by omega)
              clear HA HH
              go_wp2
              go_region
              all_goals
                go_wp2
                exact ⟨⟨k + 1, by go_num, by omega, HA2, n + 1, rfl⟩, by simp [intOf]; omega⟩
            · have d2 : decide ((k : Int) ≤ 8) = false := decide_eq_false (by omega)
              have HH : Hid (hitS ((s.get! i).toNat : Int) k = true) := by show _ = _; unfold hitS signsB; rw [heq, decide_eq_true (by omega : 8 < k)]; simp
              have HN : Hid (sgnE s i = 1) := sgn_one H2.out hk21 HH.out
              clear HA HH
              go_wp2
              go_region
              all_goals
                go_wp2
                go_ret
                exact ⟨by rw [HN.out]; rfl, n + 1, rfl⟩
          · have d1 : decide ((k : Int) ≥ 4) = false := decide_eq_false (by omega)
            have HH : Hid (hitS ((s.get! i).toNat : Int) k = true) := by show _ = _; unfold hitS signsB; rw [heq, decide_eq_true (by omega : k < 4)]; simp
            have HN : Hid (sgnE s i = 1) := sgn_one H2.out hk21 HH.out
            clear HA HH
            go_wp2
            go_region
            all_goals
              go_wp2
              go_ret
              exact ⟨by rw [HN.out]; rfl, n + 1, rfl⟩
      · obtain rfl : k = 21 := by omega
        have HN : Hid (sgnE s i = 0) := sgn_none H2.out HA.out
        go_wp2
        go_ret
        exact ⟨by rw [HN.out]; simp; rfl, n, rfl⟩

set_option maxHeartbeats 4000000 in
theorem rsign_two (s : ByteArray) (i : Nat) (hs : s.size ≤ 140737488351232) (w : World) (h2 : i + 1 < s.size ∧ (((s.get! i).toNat = 61 ∧ (s.get! (i + 1)).toNat = 61) ∨ ((s.get! i).toNat = 43 ∧ (s.get! (i + 1)).toNat = 43))) :
    Calls Tryz.prog 115 #[.string s, .int .i64 i, .bool false] w fun e w' => e = .returned (.string (s.extract i (i + sgnE s i))) ∧ ∃ n, w' = w.drewN n := by
  have HE : Hid (sgnE s i = 2) := by show _ = _; unfold sgnE; rw [if_pos h2]
  have hii : IntKind.i64.wrap ((i : Int) + 1) = (i : Int) + 1 := by rw [IntKind.wrap_i64]; omega
  obtain ⟨hl, h3⟩ := h2
  have h4 : ((s.extract i (i + 2)).toList == [61, 61]) = true ∨ (((s.extract i (i + 2)).toList == [61, 61]) = false ∧ ((s.extract i (i + 2)).toList == [43, 43]) = true) := by
    rw [two_list s i hl]
    have e : ∀ a b : UInt8, a.toNat = b.toNat → a = b := fun a b h => UInt8.toNat_inj.1 h
    rcases h3 with ⟨a, b⟩ | ⟨a, b⟩
    · left; rw [e _ 61 a, e _ 61 b]; rfl
    · right; rw [e _ 43 a, e _ 43 b]; exact ⟨rfl, rfl⟩
  clear h3
  rcases h4 with e1 | ⟨e1, e2⟩
  all_goals
    go_enter Tryz.func115, Tryz.ntmps115
    go_wp2
    go_ret
    exact ⟨by rw [HE.out]; rfl, 0, rfl⟩
theorem rsign_any (s : ByteArray) (i : Nat) (hs : s.size ≤ 140737488351232) (hi : i < s.size) (w : World) :
    Calls Tryz.prog 115 #[.string s, .int .i64 i, .bool false] w fun e w' => e = .returned (.string (s.extract i (i + sgnE s i))) ∧ ∃ n, w' = w.drewN n := by
  by_cases h2 : i + 1 < s.size ∧ (((s.get! i).toNat = 61 ∧ (s.get! (i + 1)).toNat = 61) ∨ ((s.get! i).toNat = 43 ∧ (s.get! (i + 1)).toNat = 43))
  · exact rsign_two s i hs w h2
  · exact rsign_loop s i hs hi w h2
theorem sgn_le (s : ByteArray) (i : Nat) (hi : i < s.size) : i + sgnE s i ≤ s.size := by
  unfold sgnE
  split
  · omega
  · split <;> omega

end Go.Proofs.YthbglakncijahaaGreatDoor
