/- Texts of the proof, put together: GLpP, GMkE. -/
import Derived.Test.YtmkimaceioacgaaDoorGk15
import Derived.Test.YtmkimaceioacgaaDoorGk13
import Derived.Laws.StructEq
namespace Go.Proofs.YtmkimaceioacgaaDoor
set_option linter.unusedVariables false

/-- so many steps and one -/
def stepsP (r : Nat → Nat → Prop) : Nat → Nat → Nat → Prop
  | 0, a, b => r a b
  | h + 1, a, b => ∃ c, r a c ∧ stepsP r h c b
theorem steps_append {r : Nat → Nat → Prop} : ∀ (h h' a c b : Nat), stepsP r h a c → stepsP r h' c b → ∃ k, stepsP r k a b
  | 0, h', a, c, b, h1, h2 => ⟨h' + 1, c, h1, h2⟩
  | h + 1, h', a, c, b, h1, h2 => by
    obtain ⟨d, h3, h4⟩ := h1
    obtain ⟨k, hk⟩ := steps_append h h' d c b h4 h2
    exact ⟨k + 1, d, h3, hk⟩
/-- through names below m alone -/
def pathP (r : Nat → Nat → Prop) : Nat → Nat → Nat → Prop
  | 0, a, b => r a b
  | m + 1, a, b => pathP r m a b ∨ (pathP r m a m ∧ pathP r m m b)
theorem path_steps {r : Nat → Nat → Prop} : ∀ (m a b : Nat), pathP r m a b → ∃ h, stepsP r h a b
  | 0, a, b, h => ⟨0, h⟩
  | m + 1, a, b, h => by
    rcases h with h | ⟨h1, h2⟩
    · exact path_steps m a b h
    · obtain ⟨x, hx⟩ := path_steps m a m h1
      obtain ⟨y, hy⟩ := path_steps m m b h2
      exact steps_append x y a m b hx hy
theorem path_trans {r : Nat → Nat → Prop} : ∀ (m a k b : Nat), k < m → pathP r m a k → pathP r m k b → pathP r m a b
  | 0, a, k, b, hk, _, _ => by omega
  | m + 1, a, k, b, hk, h1, h2 => by
    by_cases e : k = m
    · subst e
      have g1 : pathP r k a k := by rcases h1 with h1 | h1; exact h1; exact h1.1
      have g2 : pathP r k k b := by rcases h2 with h2 | h2; exact h2; exact h2.2
      exact .inr ⟨g1, g2⟩
    · have hk' : k < m := by omega
      rcases h1 with h1 | ⟨h1, h1'⟩ <;> rcases h2 with h2 | ⟨h2, h2'⟩
      · exact .inl (path_trans m a k b hk' h1 h2)
      · exact .inr ⟨path_trans m a k m hk' h1 h2, h2'⟩
      · exact .inr ⟨h1, path_trans m m k b hk' h1' h2⟩
      · exact .inr ⟨h1, h2'⟩
theorem path_up {r : Nat → Nat → Prop} (a b : Nat) (h : r a b) : ∀ m, pathP r m a b
  | 0 => h
  | m + 1 => .inl (path_up a b h m)
theorem steps_path {r : Nat → Nat → Prop} {N : Nat} (hr : ∀ a b, r a b → b < N) : ∀ (h a b : Nat), stepsP r h a b → pathP r N a b
  | 0, a, b, h1 => path_up a b h1 N
  | h + 1, a, b, h1 => by
    obtain ⟨c, h2, h3⟩ := h1
    exact path_trans N a c b (hr a c h2) (path_up a c h2 N) (steps_path hr h c b h3)
/-- what the parts of a name say, as a set -/
def partsM (r : Nat → Nat → Bool) (N : Nat) (f : Nat → Nat) (n : Nat) : Nat := (List.range N).foldl (fun m k => if r n k then (m ||| 2 ^ k) ||| f k else m) 0
theorem parts_fold (r : Nat → Nat → Bool) (f : Nat → Nat) (n i : Nat) : ∀ (l : List Nat) (m : Nat), (l.foldl (fun m k => if r n k then (m ||| 2 ^ k) ||| f k else m) m).testBit i = true ↔ m.testBit i = true ∨ ∃ k ∈ l, r n k = true ∧ (i = k ∨ (f k).testBit i = true)
  | [], m => by simp
  | k :: l, m => by
    rw [List.foldl_cons, parts_fold r f n i l]
    cases h : r n k
    · simp [h]
    · simp only [if_true, Nat.testBit_or, Bool.or_eq_true, Nat.testBit_two_pow, decide_eq_true_eq, List.mem_cons]
      constructor
      · rintro (((h1 | h1) | h1) | ⟨q, hq, h2⟩)
        · exact .inl h1
        · exact .inr ⟨k, .inl rfl, h, .inl h1.symm⟩
        · exact .inr ⟨k, .inl rfl, h, .inr h1⟩
        · exact .inr ⟨q, .inr hq, h2⟩
      · rintro (h1 | ⟨q, rfl | hq, h2, h3⟩)
        · exact .inl (.inl (.inl h1))
        · rcases h3 with h3 | h3
          · exact .inl (.inl (.inr h3.symm))
          · exact .inl (.inr h3)
        · exact .inr ⟨q, hq, h2, h3⟩
theorem parts_iff (r : Nat → Nat → Bool) (N : Nat) (f : Nat → Nat) (n i : Nat) : (partsM r N f n).testBit i = true ↔ ∃ k, k < N ∧ r n k = true ∧ (i = k ∨ (f k).testBit i = true) := by
  unfold partsM
  rw [parts_fold]
  simp
theorem parts_lt (r : Nat → Nat → Bool) (N : Nat) (hN : N ≤ 8) (f : Nat → Nat) (hf : ∀ n, f n < 512) (n : Nat) : partsM r N f n < 512 := by
  apply Nat.lt_pow_two_of_testBit (n := 9)
  intro i hi
  rw [← Bool.not_eq_true, parts_iff]
  rintro ⟨k, hk, _, h1 | h1⟩
  · omega
  · have := Nat.testBit_lt_two_pow (x := f k) (i := i) (Nat.lt_of_lt_of_le (hf k) (Nat.pow_le_pow_right (n := 2) (by omega) hi))
    rw [this] at h1; cases h1
theorem parts_ok (r : Nat → Nat → Bool) (N : Nat) (hN : N ≤ 8) : SayOkM N (partsM r N) (fun n k => k < N ∧ r n k = true) (fun n i => ∃ h, stepsP (fun a b => b < N ∧ r a b = true) h n i) where
  lt f hf n := parts_lt r N hN f hf n
  mono f g h n i hi := by
    rw [parts_iff] at *
    obtain ⟨k, h1, h2, h3⟩ := hi
    exact ⟨k, h1, h2, h3.imp id (h k i)⟩
  dep f g n hn h := by
    apply Nat.eq_of_testBit_eq
    intro i
    rw [Bool.eq_iff_iff, parts_iff, parts_iff]
    constructor
    · rintro ⟨k, h1, h2, h3⟩; exact ⟨k, h1, h2, by rw [← h k ⟨h1, h2⟩]; exact h3⟩
    · rintro ⟨k, h1, h2, h3⟩; exact ⟨k, h1, h2, by rw [h k ⟨h1, h2⟩]; exact h3⟩
  sound f h n i hn hs := by
    obtain ⟨k, h1, h2, h3⟩ := (parts_iff _ _ _ _ _).1 hs
    rcases h3 with rfl | h3
    · exact ⟨0, h1, h2⟩
    · obtain ⟨q, hq⟩ := h k i h3
      exact ⟨q + 1, k, ⟨h1, h2⟩, hq⟩
theorem WkM.parts {r : Nat → Nat → Bool} {N : Nat} {L : List Nat} (h : WkM (partsM r N) (fun n i => ∃ h, stepsP (fun a b => b < N ∧ r a b = true) h n i) N L (fun _ => False)) : ∀ n i, n < N → ((factM L n).testBit i = true ↔ pathP (fun a b => b < N ∧ r a b = true) N n i) := by
  have hup : ∀ k n i, n < N → stepsP (fun a b => b < N ∧ r a b = true) k n i → (factM L n).testBit i = true := by
    intro k
    induction k with
    | zero =>
      intro n i hn hs
      rw [h.closed n hn (fun e => e), parts_iff]
      exact ⟨i, hs.1, hs.2, .inl rfl⟩
    | succ k ih =>
      intro n i hn hs
      obtain ⟨c, h1, h2⟩ := hs
      rw [h.closed n hn (fun e => e), parts_iff]
      exact ⟨c, h1.1, h1.2, .inr (ih c i h1.1 h2)⟩
  intro n i hn
  constructor
  · intro hs
    obtain ⟨k, hk⟩ := h.sound n i hs
    exact steps_path (fun a b hab => hab.1) k n i hk
  · intro hp
    obtain ⟨k, hk⟩ := path_steps N n i hp
    exact hup k n i hn hk

end Go.Proofs.YtmkimaceioacgaaDoor

namespace Go.Proofs.YtmkimaceioacgaaDoor
open Go.RowKit
set_option linter.unusedVariables false
set_option maxRecDepth 100000

theorem eqM_in (d a b : Nat) (w : World) : (Op.equalIn (d + 1 + 1) 76 (.agg (mkA a)) (.agg (mkA b))).run Tryd.prog w = .ok (a == b) w := by
  have hsz := Tryd.szU64
  rw [Op.equalIn]
  by_cases h : a = b
  · subst h
    simp [run_underlying Tryd.underlying76, go_sem, Std.Legacy.Range.forIn_eq_forIn_range', show List.range' 0 5 = [0, 1, 2, 3, 4] from rfl, mkA]
  · have h2 : ((a : Int) == (b : Int)) = false := by rw [beq_eq_false_iff_ne]; omega
    have h3 : (a == b) = false := by rw [beq_eq_false_iff_ne]; exact h
    rw [h3]
    simp [run_underlying Tryd.underlying76, go_sem, Std.Legacy.Range.forIn_eq_forIn_range', show List.range' 0 5 = [0, 1, 2, 3, 4] from rfl, mkA, h2]
theorem eqM (a b : Nat) (w : World) : (binOp .eql 76 (.agg #[.int .u64 a, .int .u64 0, .int .u64 0, .int .u64 0, .int .u64 0]) (.agg #[.int .u64 b, .int .u64 0, .int .u64 0, .int .u64 0, .int .u64 0])).run Tryd.prog w = .ok (.bool (a == b)) w := by
  rw [run_eql_struct]
  have := eqM_in 9998 a b w
  unfold mkA at this
  rw [this]
  rfl

end Go.Proofs.YtmkimaceioacgaaDoor
