import Derived.Test.YtbiiapdeincpbaaSetsC
import Derived.Test.YtbiiapdeincpbaaProg
import Derived.WalkKit
import Derived.WalkSpells
import Derived.WalkLawsBesides
import Derived.BigQuiet
import Derived.Deep.QuietTactic
namespace Go.Proofs.Ytbiiapdeincpbaa
open Go.RowKit
set_option linter.unusedVariables false
set_option maxRecDepth 100000

/-- what the walk is told of a slice of ranges -/
def Rngs (w : World) (v : Value) (l : List Rg) : Prop :=
  (l = [] ∧ ∃ a c, v = .slice a 0 c) ∨ ∃ b off c, v = .slice (some ⟨b, off, none⟩) l.length c ∧ b < w.heap.size ∧ ∀ j, j < l.length → w.cell? ⟨b, off + j * 2, none⟩ = some (.int .i64 (l.getD j (0, 0)).1) ∧ w.cell? ⟨b, off + j * 2 + 1, none⟩ = some (.int .i64 (l.getD j (0, 0)).2)

theorem hasL_take (l : List Rg) (k : Nat) (p : Int) (h : k < l.length) : hasL (l.take (k + 1)) p = (hasL (l.take k) p || inR p (l.getD k (0, 0))) := by
  rw [List.take_succ_eq_append_getElem h, hasL_append]
  simp [hasL, h]
theorem hasL_of_take (l : List Rg) (k : Nat) (p : Int) (h : hasL (l.take k) p = true) : hasL l p = true := by
  obtain ⟨r, hr, h1⟩ := (hasL_iff _ _).1 h
  exact (hasL_iff _ _).2 ⟨r, List.mem_of_mem_take hr, h1⟩

set_option maxHeartbeats 400000 in
theorem rhas_out (v : Value) (p : Int) (l : List Rg) (w : World) (h : p < 0 ∨ 1114111 < p) :
    Calls Try.prog 23 #[v, .int .i64 p] w fun e w' => e = .returned (.bool (hasB l p)) ∧ w' = w := by
  have HB : Hid (hasB l p = false) := by
    show _ = _
    unfold hasB
    rcases h with h | h
    · have : decide (0 ≤ p) = false := by simp; omega
      simp [this]
    · have : decide (p ≤ 1114111) = false := by simp; omega
      simp [this]
  rcases h with h | h
  · go_enter Try.func23, Try.ntmps23
    go_wp2
    go_ret
    exact ⟨by rw [HB.out]; rfl, rfl⟩
  · have h0 : ¬ p < 0 := by omega
    go_enter Try.func23, Try.ntmps23
    go_wp2
    go_ret
    exact ⟨by rw [HB.out]; rfl, rfl⟩

set_option maxHeartbeats 1000000 in
theorem rhas_row (b off c : Nat) (p : Int) (l : List Rg) (w : World) (hl : l.length ≤ 1000000) (h0 : 0 ≤ p) (h1 : p ≤ 1114111) (hb : b < w.heap.size) (hc : ∀ j, j < l.length → w.cell? ⟨b, off + j * 2, none⟩ = some (.int .i64 (l.getD j (0, 0)).1) ∧ w.cell? ⟨b, off + j * 2 + 1, none⟩ = some (.int .i64 (l.getD j (0, 0)).2)) :
    Calls Try.prog 23 #[.slice (some ⟨b, off, none⟩) l.length c, .int .i64 p] w fun e w' => e = .returned (.bool (hasB l p)) ∧ w' = w := by
  have HB : Hid (hasB l p = hasL l p) := hasB_in l p h0 h1
  have hn0 : ¬ p < 0 := by omega
  have hn1 : ¬ 1114111 < p := by omega
  go_enter Try.func23, Try.ntmps23
  go_wp2
  go_loop [5] (fun i => ∃ k : Nat, k ≤ l.length ∧ i = .int .i64 k ∧ hasL (l.take k) p = false) (fun i => l.length - (intOf i).toNat)
  case atStart => exact ⟨0, Nat.zero_le _, rfl, rfl⟩
  case round =>
    obtain ⟨k, hk, rfl, hno0⟩ := hrel
    have HN : Hid (hasL (l.take k) p = false) := hno0
    clear hno0
    by_cases hlt : k < l.length
    · obtain ⟨c0, c1⟩ := hc k hlt
      clear hc
      have ht := hasL_take l k p hlt
      generalize hr : l.getD k (0, 0) = r at *
      have HR : Hid (l.getD k (0, 0) = r) := hr
      clear hr
      by_cases g1 : r.1 ≤ p
      · by_cases g2 : p ≤ r.2
        · have HS : Hid (hasL l p = true) := by
            refine hasL_of_take l (k + 1) p ?_
            rw [ht]; simp [inR, g1, g2]
          clear ht
          go_wp2
          go_ret
          exact ⟨by rw [HB.out, HS.out]; rfl, rfl⟩
        · have HS : Hid (hasL (l.take (k + 1)) p = false) := by
            show _ = _
            rw [ht, HN.out]; simp [inR]; omega
          clear ht
          go_wp2
          go_round
          case rel => exact ⟨k + 1, by omega, by go_num, HS.out⟩
          case measure => simp [intOf]; omega
      · have HS : Hid (hasL (l.take (k + 1)) p = false) := by
          show _ = _
          rw [ht, HN.out]; simp [inR]; omega
        clear ht
        go_wp2
        go_round
        case rel => exact ⟨k + 1, by omega, by go_num, HS.out⟩
        case measure => simp [intOf]; omega
    · have HS : Hid (hasL l p = false) := by
        have := HN.out; rw [List.take_of_length_le (by omega)] at this; exact this
      go_wp2
      go_ret
      exact ⟨by rw [HB.out, HS.out]; rfl, rfl⟩

set_option maxHeartbeats 400000 in
theorem rhas_empty (a : Option Addr) (c : Nat) (p : Int) (w : World) (h0 : 0 ≤ p) (h1 : p ≤ 1114111) :
    Calls Try.prog 23 #[.slice a 0 c, .int .i64 p] w fun e w' => e = .returned (.bool (hasB [] p)) ∧ w' = w := by
  have HB : Hid (hasB [] p = false) := by show _ = _; simp [hasB, hasL]
  have hn0 : ¬ p < 0 := by omega
  have hn1 : ¬ 1114111 < p := by omega
  go_enter Try.func23, Try.ntmps23
  go_wp2
  refine wp_loop_rounds 1 ?_
  rw [rounds_succ]
  go_wp2
  go_ret
  exact ⟨by rw [HB.out]; rfl, rfl⟩

theorem rhas_any (v : Value) (p : Int) (l : List Rg) (w : World) (hl : l.length ≤ 1000000) (hv : Rngs w v l) :
    Calls Try.prog 23 #[v, .int .i64 p] w fun e w' => e = .returned (.bool (hasB l p)) ∧ w' = w := by
  by_cases hp : p < 0 ∨ 1114111 < p
  · exact rhas_out v p l w hp
  · rcases hv with ⟨rfl, a, c, rfl⟩ | ⟨b, off, c, rfl, hb, hc⟩
    · exact rhas_empty a c p w (by omega) (by omega)
    · exact rhas_row b off c p l w hl (by omega) (by omega) hb hc

end Go.Proofs.Ytbiiapdeincpbaa
