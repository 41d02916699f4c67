import Derived.Test.YtbiiapdeincpbaaWhole
import Derived.Test.YtbiiapdeincpbaaPPoints
import Derived.Test.YtbiiapdeincpbaaPText
namespace Go.Proofs.Ytbiiapdeincpbaa
open Go.RowKit Go.Shelf
set_option linter.unusedVariables false
set_option maxRecDepth 100000

theorem add_zero_off (g j : Nat) : (⟨g, 0, none⟩ : Addr).add j = ⟨g, j, none⟩ := by
  unfold Addr.add
  split <;> simp_all

theorem ints_of_own {w : World} {B : Nat} {v : Value} {zs : List Int} (h : w.ownsRow B 3 1 v zs.length (zs.map (Value.int .i64))) : Ints w v zs := by
  have hl := h.lt
  have hc : ∀ g, v.ownBlock = some g → ∀ j u, (zs.map (Value.int .i64))[j]? = some u → w.cell? ((⟨g, 0, none⟩ : Addr).add j) = some u := fun g hg => h.cells hg
  rcases h.2 with ⟨rfl, h0⟩ | ⟨g, cap, cur, rfl, _⟩
  · exact Or.inl ⟨List.eq_nil_of_length_eq_zero h0, _, _, rfl⟩
  · refine Or.inr ⟨g, 0, cap, rfl, (hl g rfl).2, fun j hj => ?_⟩
    have := hc g rfl j (.int .i64 (zs.getD j 0)) (by simp [hj])
    rw [add_zero_off] at this
    simpa using this

set_option maxHeartbeats 1000000 in
theorem ptext_empty (a : Option Addr) (c : Nat) (w : World) :
    Calls Try.prog 10 #[.slice a 0 c] w fun e w' => e = .returned (.string ⟨(textOf []).toArray⟩) ∧ Below w.heap.size w w' := by
  have hI : Lib.IsBuilderF 45 5 w.heap.size w.heap.size (Lib.byteCells []) (w.alloc (.cells #[.pointer none, .slice none 0 0] 45)) := Lib.IsBuilderF.of (Lib.fresh_isBuilder 45 5 w)
  go_enter Try.func10, Try.ntmps10
  go_wp2
  refine wp_loop_rounds 1 ?_
  rw [rounds_succ]
  go_wp2_with (go_at_call 31; refine (Try.Builder_String_any_k w.heap.size w.heap.size _ _ hI (by simp)).mono ?_)
  rintro e W1 ⟨rfl, _, b1, _⟩
  go_wp2
  go_ret
  exact ⟨rfl, ((Below.refl _ w).alloc (Nat.le_refl _) _).trans b1⟩

theorem ptext_any (v : Value) (zs : List Int) (w : World) (hz : zs.length ≤ 4398046511104) (hv : Ints w v zs) :
    Calls Try.prog 10 #[v] w fun e w' => e = .returned (.string ⟨(textOf zs).toArray⟩) ∧ Below w.heap.size w w' := by
  rcases hv with ⟨rfl, a, c, rfl⟩ | ⟨b, off, c, rfl, hb, hc⟩
  · exact ptext_empty a c w
  · exact ptext_row b off c zs w hz hb hc

theorem arr_back (s : ByteArray) (h : whole s = true) : (⟨(textOf (pts s)).toArray⟩ : ByteArray) = s := by
  rw [text_back s h]

theorem len_of_own {w : World} {B e n : Nat} {v : Value} {xs : List Value} (h : w.ownsRow B e 1 v n xs) : ∃ a c, v = .slice a n c := by
  rcases h.2 with ⟨rfl, h0⟩ | ⟨g, cap, cur, rfl, _⟩
  · exact ⟨none, 0, by rw [h0]⟩
  · exact ⟨_, _, rfl⟩

set_option maxHeartbeats 1000000 in
theorem law_back (s : ByteArray) (w : World) (hs : s.size ≤ 140737488351232) :
    Calls Try.prog 4 #[.string s] w fun e w' => e = .returned (.bool true) ∧ Below w.heap.size w w' := by
  by_cases hl : 2000 < s.size
  · go_enter Try.func4, Try.ntmps4
    go_wp2_with (go_at_call 12; refine (whole_any s _ hs).mono ?_; rintro e w' ⟨rfl, rfl⟩)
    go_ret
    exact ⟨rfl, Below.refl _ _⟩
  · cases hw : whole s
    · go_enter Try.func4, Try.ntmps4
      go_wp2_with (go_at_call 12; refine (whole_any s _ hs).mono ?_; rintro e w' ⟨rfl, rfl⟩)
      go_ret
      exact ⟨rfl, Below.refl _ _⟩
    · have hab := arr_back s hw
      have hlb := len_back s
      obtain ⟨hl1, hl2⟩ := hlb
      have hd : decide ((s.size : Int) ≤ 4 * ((pts s).length : Int)) = true := by simp; omega
      go_enter Try.func4, Try.ntmps4
      go_wp2_with (first | (go_at_call 12; refine (whole_any s _ hs).mono ?_; rintro e w' ⟨rfl, rfl⟩) | (go_at_call 7; refine (ppoints_any s _ (by omega)).mono ?_))
      rintro e w1 ⟨v, rfl, hown, hb1, _⟩
      have hI := ints_of_own hown
      obtain ⟨a, c, rfl⟩ := len_of_own hown
      go_wp2_with (go_at_call 10; refine (ptext_any _ (pts s) _ (by omega) hI).mono ?_)
      rintro e w2 ⟨rfl, hb2⟩
      rw [hab]
      clear hab hI hown
      go_wp2
      go_ret
      exact ⟨rfl, hb1.trans (hb2.mono hb1.size)⟩

end Go.Proofs.Ytbiiapdeincpbaa
