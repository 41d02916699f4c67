import Derived.Test.YtbiiapdeincpbaaPlain
import Derived.Test.YtbiiapdeincpbaaProg
import Derived.WalkKit
import Derived.WalkSpells
import Derived.WalkLawsBesides
namespace Go.Proofs.Ytbiiapdeincpbaa
open Go.RowKit
set_option linter.unusedVariables false
set_option maxRecDepth 100000

theorem conv_rune (p : Int) (n : Nat) (w : World) (cs : List Value) (hcs : Lib.runeCells p = cs) (hn : cs.length = n) :
    (convert 43 9 (.slice (some ⟨w.heap.size, 0, none⟩) n n)).run Try.prog (w.alloc (.cells cs.toArray 5)) = .ok (.string ⟨(Lib.encodeRune p).toArray⟩) (w.alloc (.cells cs.toArray 5)) := by
  subst hcs
  rw [Lib.runeCells_length] at hn
  subst hn
  refine run_convert_bytes_back (P := Try.prog) _ 43 9 5 ⟨w.heap.size, 0, none⟩ _ (Lib.encodeRune p) Try.underlying43 Try.underlying5 Try.underlying9 (fun j hj => ?_)
  have e : (⟨w.heap.size, 0, none⟩ : Addr).add j = ⟨w.heap.size, j, none⟩ := by
    unfold Addr.add
    split <;> simp_all
  rw [e, World.cell?_alloc_at _ _ _ _ rfl, ← Lib.byteCells_encodeRune]
  simp [Lib.byteCells, hj]

theorem runeCells_of' {r : Int} {l : List Int} (h : Lib.encodeRuneZ r = l) : Lib.runeCells r = l.map fun x => Value.int .u8 x := by rw [Lib.runeCells, h]

set_option maxHeartbeats 1000000 in
theorem letter_one (p : Int) (w : World) (h0 : 0 ≤ p) (h1 : p < 128) :
    Calls Try.prog 32 #[.int .i64 p] w fun e w' => e = .returned (.string ⟨(Lib.encodeRune p).toArray⟩) ∧ Below w.heap.size w w' := by
  have hcv := conv_rune p 1 w [.int .u8 (p)] (runeCells_of' (Lib.encodeRuneZ_one h0 (by omega))) rfl
  go_enter Try.func32, Try.ntmps32
  go_wp2
  go_ret
  exact ⟨rfl, (Below.refl _ w).alloc (Nat.le_refl _) _⟩

set_option maxHeartbeats 1000000 in
theorem letter_two (p : Int) (w : World) (h0 : 128 ≤ p) (h1 : p < 2048) :
    Calls Try.prog 32 #[.int .i64 p] w fun e w' => e = .returned (.string ⟨(Lib.encodeRune p).toArray⟩) ∧ Below w.heap.size w w' := by
  have hcv := conv_rune p 2 w [.int .u8 (192 + p / 64), .int .u8 (128 + p % 64)] (runeCells_of' (Lib.encodeRuneZ_two h0 (by omega))) rfl
  go_enter Try.func32, Try.ntmps32
  go_wp2
  go_ret
  exact ⟨rfl, (Below.refl _ w).alloc (Nat.le_refl _) _⟩

set_option maxHeartbeats 1000000 in
theorem letter_threeLo (p : Int) (w : World) (h0 : 2048 ≤ p) (h1 : p < 55296) :
    Calls Try.prog 32 #[.int .i64 p] w fun e w' => e = .returned (.string ⟨(Lib.encodeRune p).toArray⟩) ∧ Below w.heap.size w w' := by
  have hcv := conv_rune p 3 w [.int .u8 (224 + p / 4096), .int .u8 (128 + p / 64 % 64), .int .u8 (128 + p % 64)] (runeCells_of' (Lib.encodeRuneZ_three (by omega))) rfl
  go_enter Try.func32, Try.ntmps32
  go_wp2
  go_ret
  exact ⟨rfl, (Below.refl _ w).alloc (Nat.le_refl _) _⟩

set_option maxHeartbeats 1000000 in
theorem letter_threeHi (p : Int) (w : World) (h0 : 57343 < p) (h1 : p < 65536) :
    Calls Try.prog 32 #[.int .i64 p] w fun e w' => e = .returned (.string ⟨(Lib.encodeRune p).toArray⟩) ∧ Below w.heap.size w w' := by
  have hcv := conv_rune p 3 w [.int .u8 (224 + p / 4096), .int .u8 (128 + p / 64 % 64), .int .u8 (128 + p % 64)] (runeCells_of' (Lib.encodeRuneZ_three (by omega))) rfl
  go_enter Try.func32, Try.ntmps32
  go_wp2
  go_ret
  exact ⟨rfl, (Below.refl _ w).alloc (Nat.le_refl _) _⟩

set_option maxHeartbeats 1000000 in
theorem letter_four (p : Int) (w : World) (h0 : 65536 ≤ p) (h1 : p ≤ 1114111) :
    Calls Try.prog 32 #[.int .i64 p] w fun e w' => e = .returned (.string ⟨(Lib.encodeRune p).toArray⟩) ∧ Below w.heap.size w w' := by
  have hcv := conv_rune p 4 w [.int .u8 (240 + p / 262144), .int .u8 (128 + p / 4096 % 64), .int .u8 (128 + p / 64 % 64), .int .u8 (128 + p % 64)] (runeCells_of' (Lib.encodeRuneZ_four h0 h1)) rfl
  go_enter Try.func32, Try.ntmps32
  go_wp2
  go_ret
  exact ⟨rfl, (Below.refl _ w).alloc (Nat.le_refl _) _⟩

set_option maxHeartbeats 1000000 in
theorem letter_neg (p : Int) (w : World) (h0 : p < 0) :
    Calls Try.prog 32 #[.int .i64 p] w fun e w' => e = .returned (.string ⟨(Lib.encodeRune p).toArray⟩) ∧ Below w.heap.size w w' := by
  have hcv := conv_rune p 3 w [.int .u8 (239), .int .u8 (191), .int .u8 (189)] (runeCells_of' (Lib.encodeRuneZ_bad (by omega))) rfl
  go_enter Try.func32, Try.ntmps32
  go_wp2
  go_ret
  exact ⟨rfl, (Below.refl _ w).alloc (Nat.le_refl _) _⟩

set_option maxHeartbeats 1000000 in
theorem letter_big (p : Int) (w : World) (h0 : 1114111 < p) :
    Calls Try.prog 32 #[.int .i64 p] w fun e w' => e = .returned (.string ⟨(Lib.encodeRune p).toArray⟩) ∧ Below w.heap.size w w' := by
  have hcv := conv_rune p 3 w [.int .u8 (239), .int .u8 (191), .int .u8 (189)] (runeCells_of' (Lib.encodeRuneZ_bad (by omega))) rfl
  go_enter Try.func32, Try.ntmps32
  go_wp2
  go_ret
  exact ⟨rfl, (Below.refl _ w).alloc (Nat.le_refl _) _⟩

set_option maxHeartbeats 1000000 in
theorem letter_half (p : Int) (w : World) (h0 : 55296 ≤ p) (h1 : p ≤ 57343) :
    Calls Try.prog 32 #[.int .i64 p] w fun e w' => e = .returned (.string ⟨(Lib.encodeRune p).toArray⟩) ∧ Below w.heap.size w w' := by
  have hcv := conv_rune p 3 w [.int .u8 (239), .int .u8 (191), .int .u8 (189)] (runeCells_of' (Lib.encodeRuneZ_bad (by omega))) rfl
  go_enter Try.func32, Try.ntmps32
  go_wp2
  go_ret
  exact ⟨rfl, (Below.refl _ w).alloc (Nat.le_refl _) _⟩

theorem letter_any (p : Int) (w : World) :
    Calls Try.prog 32 #[.int .i64 p] w fun e w' => e = .returned (.string ⟨(Lib.encodeRune p).toArray⟩) ∧ Below w.heap.size w w' := by
  by_cases h1 : p < 0
  · exact letter_neg p w h1
  by_cases h2 : p < 128
  · exact letter_one p w (by omega) h2
  by_cases h3 : p < 2048
  · exact letter_two p w (by omega) h3
  by_cases h4 : p < 55296
  · exact letter_threeLo p w (by omega) h4
  by_cases h5 : p ≤ 57343
  · exact letter_half p w (by omega) h5
  by_cases h6 : p < 65536
  · exact letter_threeHi p w (by omega) h6
  by_cases h7 : p ≤ 1114111
  · exact letter_four p w (by omega) h7
  · exact letter_big p w (by omega)

end Go.Proofs.Ytbiiapdeincpbaa
