import Derived.Test.YtbiiapdeincpbaaPStretch
namespace Go.Proofs.Ytbiiapdeincpbaa
open Go.RowKit
set_option linter.unusedVariables false
set_option maxRecDepth 100000

theorem Rngs.alloc {w : World} {v : Value} {l : List Rg} (h : Rngs w v l) (o : Obj) : Rngs (w.alloc o) v l := by
  exact h.below ((Below.refl _ w).alloc (Nat.le_refl _) o)

theorem rngs_slice {w : World} {v : Value} {l : List Rg} (h : Rngs w v l) : ∃ a c, v = .slice a l.length c := by
  rcases h with ⟨rfl, a, c, rfl⟩ | ⟨b, off, c, rfl, _⟩
  · exact ⟨a, c, rfl⟩
  · exact ⟨_, _, rfl⟩

set_option maxHeartbeats 1000000 in
theorem sweep_any (g : Nat) (want : Bool → Bool → Bool) (hw : Wants g want) (va vb : Value) (a b : List Rg) (w : World) (hla : a.length ≤ 1000) (hlb : b.length ≤ 1000) (ha : Rngs w va a) (hb : Rngs w vb b) :
    Calls Try.prog 33 #[va, vb, .func (.func g) #[] #[]] w fun e w' => ∃ v out, e = .returned v ∧ OwnR w' w.heap.size v out ∧ Upto out 1114112 (fun p => want (hasL a p) (hasL b p)) ∧ Below w.heap.size w w' ∧ out.length ≤ 1000000 := by
  obtain ⟨aa, ac, rfl⟩ := rngs_slice ha
  obtain ⟨ba, bc, rfl⟩ := rngs_slice hb
  have hmf : ∀ (fn : Fn) (first cap : Array Value) (w : World), (Instr.makeFunc fn first cap).run Try.prog w = .ok (.func fn first cap) w := fun _ _ _ _ => rfl
  go_enter Try.func33, Try.ntmps33
  go_wp2_with fail
  refine (stretch_any g want hw w.heap.size w.heap.size (w.heap.size + 1 + 1) (w.heap.size + 1) 74 _ a b _ hla hlb (by simp; omega) (by simp) (by simp) (by simp; omega) (by omega) (by omega) (by omega) (by omega) (by omega) ?_ ?_ ?_ ?_).mono ?_
  · rw [World.cell?_alloc_lt _ _ _ (by simp; omega), World.cell?_alloc_lt _ _ _ (by simp; omega), World.cell?_alloc_lt _ _ _ (by simp), World.cell?_alloc_at _ _ _ _ rfl]; rfl
  · rw [Lib.alloc_old _ _ _ (by simp)]
    have := heap_alloc_new ((w.alloc (Obj.cells #[Value.func (Fn.func g) #[] #[]] 54)).alloc (Obj.cells #[Value.slice none 0 0] 28)) (Obj.cells #[Value.int IntKind.i64 0, Value.int IntKind.i64 0] 74)
    simpa using this
  · rw [Lib.alloc_old _ _ _ (by simp), Lib.alloc_old _ _ _ (by simp)]
    have := heap_alloc_new (w.alloc (Obj.cells #[Value.func (Fn.func g) #[] #[]] 54)) (Obj.cells #[Value.slice none 0 0] 28)
    simpa using this
  · refine Or.inr ⟨w.heap.size + 1 + 1 + 1, 0, 2, rfl, by simp, fun j hj => ?_⟩
    match j, hj with
    | 0, _ => exact ⟨_, by rw [World.cell?_alloc_at _ _ _ _ (by simp)]; rfl, (((ha.alloc _).alloc _).alloc _).alloc _⟩
    | 1, _ => exact ⟨_, by rw [World.cell?_alloc_at _ _ _ _ (by simp)]; rfl, (((hb.alloc _).alloc _).alloc _).alloc _⟩
  rintro e w2 ⟨rfl, v, out, hO, hown, hU, hbel, hl⟩
  have hb0 : Below w.heap.size w ((((w.alloc (Obj.cells #[Value.func (Fn.func g) #[] #[]] 54)).alloc (Obj.cells #[Value.slice none 0 0] 28)).alloc (Obj.cells #[Value.int IntKind.i64 0, Value.int IntKind.i64 0] 74)).alloc (Obj.cells #[Value.slice aa a.length ac, Value.slice ba b.length bc] 28)) := ((((Below.refl _ w).alloc (Nat.le_refl _) _).alloc (by simp) _).alloc (by simp; omega) _).alloc (by simp; omega) _
  have hb2 := hb0.trans hbel
  have hown2 : OwnR w2 w.heap.size v out := by
    refine ⟨hown.1, ?_⟩
    rcases hown.2 with h | ⟨g', cap, cur, e1, e2, e3⟩
    · exact Or.inl h
    · exact Or.inr ⟨g', cap, cur, e1, by simp at e2; omega, e3⟩
  have cO : w2.cell? ⟨w.heap.size + 1, 0, none⟩ = some v := by simp [World.cell?, hO]
  obtain ⟨va', vc', rfl⟩ := rngs_slice hown2.rngs
  clear hO hown hbel hb0
  go_wp2
  go_ret
  exact ⟨_, out, rfl, hown2, hU, hb2, hl⟩

theorem Upto.congr {l : List Rg} {to : Int} {f g : Int → Bool} (h : Upto l to f) (hfg : ∀ p, 0 ≤ p → p < to → f p = g p) : Upto l to g := ⟨h.apart, h.low, fun p h0 h1 => by rw [← hfg p h0 h1]; exact h.has p h0 h1⟩
theorem rngs_nil (w : World) : Rngs w (.slice none 0 0) [] := Or.inl ⟨rfl, none, 0, rfl⟩
theorem wants_canon : Wants 34 (fun x _ => x) := ⟨enters_of Try.func34 (by kernel_rfl) rfl, fun x y W => canon1_any x y W⟩
theorem wants_other : Wants 42 (fun x _ => !x) := ⟨enters_of Try.func42 (by kernel_rfl) rfl, fun x y W => other1_any x y W⟩
theorem wants_join : Wants 35 (fun x y => x || y) := ⟨enters_of Try.func35 (by kernel_rfl) rfl, fun x y W => join1_any x y W⟩
theorem wants_meet : Wants 40 (fun x y => x && y) := ⟨enters_of Try.func40 (by kernel_rfl) rfl, fun x y W => meet1_any x y W⟩
theorem wants_less : Wants 41 (fun x y => x && !y) := ⟨enters_of Try.func41 (by kernel_rfl) rfl, fun x y W => less1_any x y W⟩

set_option maxHeartbeats 400000 in
theorem pcanon_any (va : Value) (a : List Rg) (w : World) (hla : a.length ≤ 1000) (ha : Rngs w va a) :
    Calls Try.prog 13 #[va] w fun e w' => ∃ v out, e = .returned v ∧ OwnR w' w.heap.size v out ∧ Upto out 1114112 (fun p => hasL a p) ∧ Below w.heap.size w w' ∧ out.length ≤ 1000000 := by
  go_enter Try.func13, Try.ntmps13
  go_wp2_with fail
  refine (sweep_any _ _ wants_canon va (.slice none 0 0) a [] w hla (by simp) ha (rngs_nil w)).mono ?_
  rintro e w1 ⟨v, out, rfl, ho, hU, hb, hl⟩
  go_wp2
  go_ret
  exact ⟨_, out, rfl, ho, hU, hb, hl⟩

set_option maxHeartbeats 400000 in
theorem pother_any (va : Value) (a : List Rg) (w : World) (hla : a.length ≤ 1000) (ha : Rngs w va a) :
    Calls Try.prog 20 #[va] w fun e w' => ∃ v out, e = .returned v ∧ OwnR w' w.heap.size v out ∧ Upto out 1114112 (fun p => !(hasL a p)) ∧ Below w.heap.size w w' ∧ out.length ≤ 1000000 := by
  go_enter Try.func20, Try.ntmps20
  go_wp2_with fail
  refine (sweep_any _ _ wants_other va (.slice none 0 0) a [] w hla (by simp) ha (rngs_nil w)).mono ?_
  rintro e w1 ⟨v, out, rfl, ho, hU, hb, hl⟩
  go_wp2
  go_ret
  exact ⟨_, out, rfl, ho, hU, hb, hl⟩

set_option maxHeartbeats 400000 in
theorem pjoin_any (va vb : Value) (a b : List Rg) (w : World) (hla : a.length ≤ 1000) (hlb : b.length ≤ 1000) (ha : Rngs w va a) (hb : Rngs w vb b) :
    Calls Try.prog 16 #[va, vb] w fun e w' => ∃ v out, e = .returned v ∧ OwnR w' w.heap.size v out ∧ Upto out 1114112 (fun p => (hasL a p || hasL b p)) ∧ Below w.heap.size w w' ∧ out.length ≤ 1000000 := by
  go_enter Try.func16, Try.ntmps16
  go_wp2_with fail
  refine (sweep_any _ _ wants_join va vb a b w hla hlb ha hb).mono ?_
  rintro e w1 ⟨v, out, rfl, ho, hU, hbw, hl⟩
  go_wp2
  go_ret
  exact ⟨_, out, rfl, ho, hU, hbw, hl⟩

set_option maxHeartbeats 400000 in
theorem pmeet_any (va vb : Value) (a b : List Rg) (w : World) (hla : a.length ≤ 1000) (hlb : b.length ≤ 1000) (ha : Rngs w va a) (hb : Rngs w vb b) :
    Calls Try.prog 18 #[va, vb] w fun e w' => ∃ v out, e = .returned v ∧ OwnR w' w.heap.size v out ∧ Upto out 1114112 (fun p => (hasL a p && hasL b p)) ∧ Below w.heap.size w w' ∧ out.length ≤ 1000000 := by
  go_enter Try.func18, Try.ntmps18
  go_wp2_with fail
  refine (sweep_any _ _ wants_meet va vb a b w hla hlb ha hb).mono ?_
  rintro e w1 ⟨v, out, rfl, ho, hU, hbw, hl⟩
  go_wp2
  go_ret
  exact ⟨_, out, rfl, ho, hU, hbw, hl⟩

set_option maxHeartbeats 400000 in
theorem pless_any (va vb : Value) (a b : List Rg) (w : World) (hla : a.length ≤ 1000) (hlb : b.length ≤ 1000) (ha : Rngs w va a) (hb : Rngs w vb b) :
    Calls Try.prog 19 #[va, vb] w fun e w' => ∃ v out, e = .returned v ∧ OwnR w' w.heap.size v out ∧ Upto out 1114112 (fun p => (hasL a p && !(hasL b p))) ∧ Below w.heap.size w w' ∧ out.length ≤ 1000000 := by
  go_enter Try.func19, Try.ntmps19
  go_wp2_with fail
  refine (sweep_any _ _ wants_less va vb a b w hla hlb ha hb).mono ?_
  rintro e w1 ⟨v, out, rfl, ho, hU, hbw, hl⟩
  go_wp2
  go_ret
  exact ⟨_, out, rfl, ho, hU, hbw, hl⟩

end Go.Proofs.Ytbiiapdeincpbaa
