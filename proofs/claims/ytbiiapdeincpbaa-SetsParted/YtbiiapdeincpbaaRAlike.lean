import Derived.Test.YtbiiapdeincpbaaRMore
import Derived.Test.YtbiiapdeincpbaaPEdges
import Derived.Test.YtbiiapdeincpbaaCPart
namespace Go.Proofs.Ytbiiapdeincpbaa
open Go.RowKit
set_option linter.unusedVariables false
set_option maxRecDepth 100000

theorem hasB_eq_of {ls : List (List Rg)} {p q : Int} (hp : 0 ≤ p) (hp1 : p ≤ 1114111) (hq : 0 ≤ q) (hq1 : q ≤ 1114111) : sameB ls p q = ls.all fun s => hasB s p == hasB s q := by
  unfold sameB
  congr 1
  funext s
  rw [hasB_in s p hp hp1, hasB_in s q hq hq1]

theorem all_take_succ (ls : List (List Rg)) (f : List Rg → Bool) (k : Nat) (h : k < ls.length) : (ls.take (k + 1)).all f = ((ls.take k).all f && f (ls.getD k [])) := by
  rw [List.take_succ_eq_append_getElem h, List.all_append]
  simp [h]
theorem all_of_take_false (ls : List (List Rg)) (f : List Rg → Bool) (k : Nat) (h : (ls.take k).all f = false) : ls.all f = false := by
  rw [← List.take_append_drop k ls, List.all_append, h]; rfl

set_option maxHeartbeats 1000000 in
theorem alike_row (b off c : Nat) (ls : List (List Rg)) (p q : Int) (w : World) (hl : ls.length ≤ 1000) (hll : ∀ l ∈ ls, l.length ≤ 1000) (hb : b < w.heap.size) (hs : ∀ j, j < ls.length → ∃ vj, w.cell? ⟨b, off + j, none⟩ = some vj ∧ Rngs w vj (ls.getD j [])) :
    Calls Try.prog 49 #[.slice (some ⟨b, off, none⟩) ls.length c, .int .i64 p, .int .i64 q] w fun e w' => e = .returned (.bool (ls.all fun s => hasB s p == hasB s q)) ∧ w' = w := by
  go_enter Try.func49, Try.ntmps49
  go_wp2
  go_loopw [7] (fun i wr => ∃ k : Nat, k ≤ ls.length ∧ i = .int .i64 k ∧ wr = w ∧ Hid ((ls.take k).all (fun s => hasB s p == hasB s q) = true)) (fun i _ => ls.length - (intOf i).toNat)
  case atStart => exact ⟨0, Nat.zero_le _, rfl, rfl, (by show _ = _; simp)⟩
  case round =>
    obtain ⟨k, hk, rfl, rfl, HT⟩ := hrel
    by_cases hlt : k < ls.length
    · obtain ⟨vj, hcj, hR⟩ := hs k hlt
      have hml : ls.getD k [] ∈ ls := by simp [hlt]
      have hlk := hll _ hml
      have HN : Hid ((ls.take (k + 1)).all (fun s => hasB s p == hasB s q) = (hasB (ls.getD k []) p == hasB (ls.getD k []) q)) := by
        show _ = _
        rw [all_take_succ _ _ _ hlt, HT.out]; simp
      generalize ls.getD k [] = l at *
      clear hs hll hml
      go_wp2_with fail
      refine (rhas_any vj p l _ (by omega) hR).mono ?_
      rintro e w1 ⟨rfl, rfl⟩
      go_wp2_with fail
      refine (rhas_any vj q l _ (by omega) hR).mono ?_
      rintro e w2 ⟨rfl, rfl⟩
      cases hx : hasB l p <;> cases hy : hasB l q
      · rw [hx, hy] at HN
        clear hx hy
        go_wp2
        go_roundw
        case rel => exact ⟨k + 1, by omega, by go_num, by first | rfl | trivial, by show _ = _; rw [HN.out]; rfl⟩
        case measure => simp [intOf]; omega
      · rw [hx, hy] at HN
        clear hx hy
        go_wp2
        go_ret
        exact ⟨by rw [all_of_take_false ls _ (k + 1) HN.out]; rfl, rfl⟩
      · rw [hx, hy] at HN
        clear hx hy
        go_wp2
        go_ret
        exact ⟨by rw [all_of_take_false ls _ (k + 1) HN.out]; rfl, rfl⟩
      · rw [hx, hy] at HN
        clear hx hy
        go_wp2
        go_roundw
        case rel => exact ⟨k + 1, by omega, by go_num, by first | rfl | trivial, by show _ = _; rw [HN.out]; rfl⟩
        case measure => simp [intOf]; omega
    · have HS : Hid (ls.all (fun s => hasB s p == hasB s q) = true) := by
        have := HT.out; rw [List.take_of_length_le (by omega)] at this; exact this
      go_wp2
      go_ret
      exact ⟨by rw [HS.out]; rfl, rfl⟩

set_option maxHeartbeats 400000 in
theorem alike_none (a : Option Addr) (c : Nat) (p q : Int) (w : World) :
    Calls Try.prog 49 #[.slice a 0 c, .int .i64 p, .int .i64 q] w fun e w' => e = .returned (.bool true) ∧ w' = w := by
  go_enter Try.func49, Try.ntmps49
  go_wp2
  refine wp_loop_rounds 1 ?_
  rw [rounds_succ]
  go_wp2
  go_ret
  exact ⟨rfl, rfl⟩

theorem alike_any (vs : Value) (ls : List (List Rg)) (p q : Int) (w : World) (hl : ls.length ≤ 1000) (hll : ∀ l ∈ ls, l.length ≤ 1000) (hs : SetsAt w vs ls) (hp : 0 ≤ p) (hp1 : p ≤ 1114111) (hq : 0 ≤ q) (hq1 : q ≤ 1114111) :
    Calls Try.prog 49 #[vs, .int .i64 p, .int .i64 q] w fun e w' => e = .returned (.bool (sameB ls p q)) ∧ w' = w := by
  rw [hasB_eq_of hp hp1 hq hq1]
  rcases hs with ⟨rfl, a, c, rfl⟩ | ⟨b, off, c, rfl, hb, hc⟩
  · exact alike_none a c p q w
  · exact alike_row b off c ls p q w hl hll hb hc

end Go.Proofs.Ytbiiapdeincpbaa
