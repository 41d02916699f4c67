import Derived.Test.YtbiiapdeincpbaaRHas
namespace Go.Proofs.Ytbiiapdeincpbaa
open Go.RowKit
set_option linter.unusedVariables false
set_option maxRecDepth 100000

def wantR (how : Int) (x y : Bool) : Bool := if how = 1 then x || y else if how = 2 then x && y else x && !y

set_option maxHeartbeats 400000 in
theorem wanted_1 (va vb : Value) (a b : List Rg) (p : Int) (w : World) (hla : a.length ≤ 1000000) (hlb : b.length ≤ 1000000) (ha : Rngs w va a) (hb : Rngs w vb b) :
    Calls Try.prog 38 #[va, vb, .int .i64 1, .int .i64 p] w fun e w' => e = .returned (.bool (wantR 1 (hasB a p) (hasB b p))) ∧ w' = w := by
  have h1 := rhas_any va p a w hla ha
  have h2 := rhas_any vb p b w hlb hb
  generalize hasB a p = x at *
  generalize hasB b p = y at *
  have H1 : Hid (Calls Try.prog 23 #[va, .int .i64 p] w fun e w' => e = .returned (.bool x) ∧ w' = w) := h1
  have H2 : Hid (Calls Try.prog 23 #[vb, .int .i64 p] w fun e w' => e = .returned (.bool y) ∧ w' = w) := h2
  clear h1 h2 ha hb
  cases x
  all_goals
    go_enter Try.func38, Try.ntmps38
    go_wp2_with fail
    refine (H1.out).mono ?_
    rintro e w1 ⟨rfl, rfl⟩
    go_wp2_with fail
    refine (H2.out).mono ?_
    rintro e w2 ⟨rfl, rfl⟩
    go_wp2
    go_ret
    exact ⟨by simp [wantR], rfl⟩

set_option maxHeartbeats 400000 in
theorem wanted_2 (va vb : Value) (a b : List Rg) (p : Int) (w : World) (hla : a.length ≤ 1000000) (hlb : b.length ≤ 1000000) (ha : Rngs w va a) (hb : Rngs w vb b) :
    Calls Try.prog 38 #[va, vb, .int .i64 2, .int .i64 p] w fun e w' => e = .returned (.bool (wantR 2 (hasB a p) (hasB b p))) ∧ w' = w := by
  have h1 := rhas_any va p a w hla ha
  have h2 := rhas_any vb p b w hlb hb
  generalize hasB a p = x at *
  generalize hasB b p = y at *
  have H1 : Hid (Calls Try.prog 23 #[va, .int .i64 p] w fun e w' => e = .returned (.bool x) ∧ w' = w) := h1
  have H2 : Hid (Calls Try.prog 23 #[vb, .int .i64 p] w fun e w' => e = .returned (.bool y) ∧ w' = w) := h2
  clear h1 h2 ha hb
  cases x
  all_goals
    go_enter Try.func38, Try.ntmps38
    go_wp2_with fail
    refine (H1.out).mono ?_
    rintro e w1 ⟨rfl, rfl⟩
    go_wp2_with fail
    refine (H2.out).mono ?_
    rintro e w2 ⟨rfl, rfl⟩
    go_wp2
    go_ret
    exact ⟨by simp [wantR], rfl⟩

set_option maxHeartbeats 400000 in
theorem wanted_3 (va vb : Value) (a b : List Rg) (p : Int) (w : World) (hla : a.length ≤ 1000000) (hlb : b.length ≤ 1000000) (ha : Rngs w va a) (hb : Rngs w vb b) :
    Calls Try.prog 38 #[va, vb, .int .i64 3, .int .i64 p] w fun e w' => e = .returned (.bool (wantR 3 (hasB a p) (hasB b p))) ∧ w' = w := by
  have h1 := rhas_any va p a w hla ha
  have h2 := rhas_any vb p b w hlb hb
  generalize hasB a p = x at *
  generalize hasB b p = y at *
  have H1 : Hid (Calls Try.prog 23 #[va, .int .i64 p] w fun e w' => e = .returned (.bool x) ∧ w' = w) := h1
  have H2 : Hid (Calls Try.prog 23 #[vb, .int .i64 p] w fun e w' => e = .returned (.bool y) ∧ w' = w) := h2
  clear h1 h2 ha hb
  cases x
  all_goals
    go_enter Try.func38, Try.ntmps38
    go_wp2_with fail
    refine (H1.out).mono ?_
    rintro e w1 ⟨rfl, rfl⟩
    go_wp2_with fail
    refine (H2.out).mono ?_
    rintro e w2 ⟨rfl, rfl⟩
    go_wp2
    go_ret
    exact ⟨by simp [wantR], rfl⟩

end Go.Proofs.Ytbiiapdeincpbaa
