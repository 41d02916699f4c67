/- Texts of the proof, put together: PSweep, RMore, Point, PointB. -/
import Derived.Test.YtbjohedenfindaaGreatDoorPw06
import Derived.Test.YtbjohedenfindaaGreatDoorProg
import Derived.Test.YtbjohedenfindaaGreatDoorPw04
import Derived.WalkKit
import Derived.WalkSpells
import Derived.WalkLawsBesides
namespace Go.Proofs.YtbjohedenfindaaGreatDoor
open Go.RowKit
set_option linter.unusedVariables false
set_option maxRecDepth 100000

theorem Rngs.alloc {w : World} {v : Value} {l : List Rg} (h : Rngs w v l) (o : Obj) : Rngs (w.alloc o) v l := by
  exact h.below ((Below.refl _ w).alloc (Nat.le_refl _) o)

theorem rngs_slice {w : World} {v : Value} {l : List Rg} (h : Rngs w v l) : ∃ a c, v = .slice a l.length c := by
  rcases h with ⟨rfl, a, c, rfl⟩ | ⟨b, off, c, rfl, _⟩
  · exact ⟨a, c, rfl⟩
  · exact ⟨_, _, rfl⟩

set_option maxHeartbeats 1000000 in
theorem sweep_any (g : Nat) (want : Bool → Bool → Bool) (hw : Wants g want) (va vb : Value) (a b : List Rg) (w : World) (hla : a.length ≤ 120000) (hlb : b.length ≤ 120000) (ha : Rngs w va a) (hb : Rngs w vb b) :
    Calls Tryz.prog 117 #[va, vb, .func (.func g) #[] #[]] w fun e w' => ∃ v out, e = .returned v ∧ OwnR w' w.heap.size v out ∧ Upto out 1114112 (fun p => want (hasL a p) (hasL b p)) ∧ Below w.heap.size w w' ∧ out.length ≤ 1000000 := by
  obtain ⟨aa, ac, rfl⟩ := rngs_slice ha
  obtain ⟨ba, bc, rfl⟩ := rngs_slice hb
  have hmf : ∀ (fn : Fn) (first cap : Array Value) (w : World), (Instr.makeFunc fn first cap).run Tryz.prog w = .ok (.func fn first cap) w := fun _ _ _ _ => rfl
  go_enter Tryz.func117, Tryz.ntmps117
  go_wp2_with fail
  refine (stretch_any g want hw w.heap.size w.heap.size (w.heap.size + 1 + 1) (w.heap.size + 1) 186 _ a b _ hla hlb (by simp; omega) (by simp) (by simp) (by simp; omega) (by omega) (by omega) (by omega) (by omega) (by omega) ?_ ?_ ?_ ?_).mono ?_
  · rw [World.cell?_alloc_lt _ _ _ (by simp; omega), World.cell?_alloc_lt _ _ _ (by simp; omega), World.cell?_alloc_lt _ _ _ (by simp), World.cell?_alloc_at _ _ _ _ rfl]; rfl
  · rw [Lib.alloc_old _ _ _ (by simp)]
    have := heap_alloc_new ((w.alloc (Obj.cells #[Value.func (Fn.func g) #[] #[]] 179)).alloc (Obj.cells #[Value.slice none 0 0] 33)) (Obj.cells #[Value.int IntKind.i64 0, Value.int IntKind.i64 0] 186)
    simpa using this
  · rw [Lib.alloc_old _ _ _ (by simp), Lib.alloc_old _ _ _ (by simp)]
    have := heap_alloc_new (w.alloc (Obj.cells #[Value.func (Fn.func g) #[] #[]] 179)) (Obj.cells #[Value.slice none 0 0] 33)
    simpa using this
  · refine Or.inr ⟨w.heap.size + 1 + 1 + 1, 0, 2, rfl, by simp, fun j hj => ?_⟩
    match j, hj with
    | 0, _ => exact ⟨_, by rw [World.cell?_alloc_at _ _ _ _ (by simp)]; rfl, (((ha.alloc _).alloc _).alloc _).alloc _⟩
    | 1, _ => exact ⟨_, by rw [World.cell?_alloc_at _ _ _ _ (by simp)]; rfl, (((hb.alloc _).alloc _).alloc _).alloc _⟩
  rintro e w2 ⟨rfl, v, out, hO, hown, hU, hbel, hl⟩
  have hb0 : Below w.heap.size w ((((w.alloc (Obj.cells #[Value.func (Fn.func g) #[] #[]] 179)).alloc (Obj.cells #[Value.slice none 0 0] 33)).alloc (Obj.cells #[Value.int IntKind.i64 0, Value.int IntKind.i64 0] 186)).alloc (Obj.cells #[Value.slice aa a.length ac, Value.slice ba b.length bc] 33)) := ((((Below.refl _ w).alloc (Nat.le_refl _) _).alloc (by simp) _).alloc (by simp; omega) _).alloc (by simp; omega) _
  have hb2 := hb0.trans hbel
  have hown2 : OwnR w2 w.heap.size v out := by
    refine ⟨hown.1, ?_⟩
    rcases hown.2 with h | ⟨g', cap, cur, e1, e2, e3⟩
    · exact Or.inl h
    · exact Or.inr ⟨g', cap, cur, e1, by simp at e2; omega, e3⟩
  have cO : w2.cell? ⟨w.heap.size + 1, 0, none⟩ = some v := by simp [World.cell?, hO]
  obtain ⟨va', vc', rfl⟩ := rngs_slice hown2.rngs
  clear hO hown hbel hb0
  go_wp2
  go_ret
  exact ⟨_, out, rfl, hown2, hU, hb2, hl⟩

theorem rngs_nil (w : World) : Rngs w (.slice none 0 0) [] := Or.inl ⟨rfl, none, 0, rfl⟩
theorem wants_canon : Wants 180 (fun x _ => x) := ⟨enters_of Tryz.func180 (by kernel_rfl) rfl, fun x y W => canon1_any x y W⟩
theorem wants_other : Wants 118 (fun x _ => !x) := ⟨enters_of Tryz.func118 (by kernel_rfl) rfl, fun x y W => other1_any x y W⟩

set_option maxHeartbeats 400000 in
theorem pcanon_any (va : Value) (a : List Rg) (w : World) (hla : a.length ≤ 120000) (ha : Rngs w va a) :
    Calls Tryz.prog 170 #[va] w fun e w' => ∃ v out, e = .returned v ∧ OwnR w' w.heap.size v out ∧ Upto out 1114112 (fun p => hasL a p) ∧ Below w.heap.size w w' ∧ out.length ≤ 1000000 := by
  go_enter Tryz.func170, Tryz.ntmps170
  go_wp2_with fail
  refine (sweep_any _ _ wants_canon va (.slice none 0 0) a [] w hla (by simp) ha (rngs_nil w)).mono ?_
  rintro e w1 ⟨v, out, rfl, ho, hU, hb, hl⟩
  go_wp2
  go_ret
  exact ⟨_, out, rfl, ho, hU, hb, hl⟩

set_option maxHeartbeats 400000 in
theorem pother_any (va : Value) (a : List Rg) (w : World) (hla : a.length ≤ 120000) (ha : Rngs w va a) :
    Calls Tryz.prog 90 #[va] w fun e w' => ∃ v out, e = .returned v ∧ OwnR w' w.heap.size v out ∧ Upto out 1114112 (fun p => !(hasL a p)) ∧ Below w.heap.size w w' ∧ out.length ≤ 1000000 := by
  go_enter Tryz.func90, Tryz.ntmps90
  go_wp2_with fail
  refine (sweep_any _ _ wants_other va (.slice none 0 0) a [] w hla (by simp) ha (rngs_nil w)).mono ?_
  rintro e w1 ⟨v, out, rfl, ho, hU, hb, hl⟩
  go_wp2
  go_ret
  exact ⟨_, out, rfl, ho, hU, hb, hl⟩

end Go.Proofs.YtbjohedenfindaaGreatDoor

namespace Go.Proofs.YtbjohedenfindaaGreatDoor
open Go.RowKit
set_option linter.unusedVariables false
set_option maxRecDepth 100000

set_option maxHeartbeats 400000 in
theorem all_any (w : World) : Calls Tryz.prog 157 #[] w fun e w' => ∃ v, e = .returned v ∧ Rngs w' v [(0, 1114111)] ∧ Below w.heap.size w w' := by
  go_enter Tryz.func157, Tryz.ntmps157
  go_wp2
  go_ret
  refine ⟨_, rfl, Or.inr ⟨w.heap.size, 0, 1, rfl, by simp, fun j hj => ?_⟩, (Below.refl _ w).alloc (Nat.le_refl _) _⟩
  match j, hj with
  | 0, _ => exact ⟨by simp, by simp⟩

set_option maxHeartbeats 400000 in
theorem rcanon_any (va : Value) (a : List Rg) (w : World) (hla : a.length ≤ 600000) (ha : Rngs w va a) :
    Calls Tryz.prog 51 #[va] w fun e w' => ∃ v out, e = .returned v ∧ OwnR w' w.heap.size v out ∧ Upto out 1114112 (fun p => hasL a p) ∧ Below w.heap.size w w' ∧ out.length ≤ 5000000 := by
  go_enter Tryz.func51, Tryz.ntmps51
  go_wp2_with fail
  refine (both_any 1 va (.slice none 0 0) a [] w hla (by simp) ha (Or.inl ⟨rfl, none, 0, rfl⟩) (fun p W h1 h2 => wanted_1 va _ a [] p W (by omega) (by simp) h1 h2)).mono ?_
  rintro e w1 ⟨v, out, rfl, ho, hU, hb, hl⟩
  go_wp2
  go_ret
  refine ⟨_, out, rfl, ho, ⟨hU.apart, hU.low, fun p h0 h1 => ?_⟩, hb, hl⟩
  rw [← hU.has p h0 h1]
  show hasL a p = wantR 1 (hasB a p) (hasB [] p)
  rw [hasB_in a p h0 (by omega)]
  simp [wantR, hasB, hasL]

set_option maxHeartbeats 1000000 in
theorem sameset_rows (b off c b' off' c' : Nat) (l : List Rg) (w : World) (hz : l.length ≤ 1000000) (hc : ∀ j, j < l.length → w.cell? ⟨b, off + j * 2, none⟩ = some (.int .i64 (l.getD j (0, 0)).1) ∧ w.cell? ⟨b, off + j * 2 + 1, none⟩ = some (.int .i64 (l.getD j (0, 0)).2))
    (hc' : ∀ j, j < l.length → w.cell? ⟨b', off' + j * 2, none⟩ = some (.int .i64 (l.getD j (0, 0)).1) ∧ w.cell? ⟨b', off' + j * 2 + 1, none⟩ = some (.int .i64 (l.getD j (0, 0)).2)) :
    Calls Tryz.prog 24 #[.slice (some ⟨b, off, none⟩) l.length c, .slice (some ⟨b', off', none⟩) l.length c'] w fun e w' => e = .returned (.bool true) ∧ ∃ n, w' = w.drewN n := by
  go_enter Tryz.func24, Tryz.ntmps24
  go_wp2
  go_loopw [5] (fun i wr => ∃ k nq : Nat, k ≤ l.length ∧ i = .int .i64 k ∧ wr = w.drewN nq) (fun i _ => l.length - (intOf i).toNat)
  case atStart => exact ⟨0, 0, Nat.zero_le _, rfl, rfl⟩
  case round =>
    obtain ⟨k, nq, hk, rfl, rfl⟩ := hrel
    by_cases hlt : k < l.length
    · obtain ⟨h1, h2⟩ := hc k hlt
      obtain ⟨h3, h4⟩ := hc' k hlt
      clear hc hc'
      generalize l.getD k (0, 0) = r at *
      go_wp2
      go_quiet (fail)
      go_wp2
      go_roundw
      case rel => exact ⟨k + 1, _, by omega, by go_num, rfl⟩
      case measure => simp [intOf]; omega
    · go_wp2
      go_ret
      exact ⟨rfl, _, rfl⟩

set_option maxHeartbeats 400000 in
theorem sameset_empty (a a' : Option Addr) (c c' : Nat) (w : World) :
    Calls Tryz.prog 24 #[.slice a 0 c, .slice a' 0 c'] w fun e w' => e = .returned (.bool true) ∧ ∃ n, w' = w.drewN n := by
  go_enter Tryz.func24, Tryz.ntmps24
  go_wp2
  refine wp_loop_rounds 1 ?_
  rw [rounds_succ]
  go_wp2
  go_ret
  exact ⟨rfl, 0, rfl⟩

theorem sameset_any (v v' : Value) (l : List Rg) (w : World) (hz : l.length ≤ 1000000) (hv : Rngs w v l) (hv' : Rngs w v' l) :
    Calls Tryz.prog 24 #[v, v'] w fun e w' => e = .returned (.bool true) ∧ ∃ n, w' = w.drewN n := by
  rcases hv with ⟨rfl, a, c, rfl⟩ | ⟨b, off, c, rfl, hb, hc⟩
  · rcases hv' with ⟨_, a', c', rfl⟩ | ⟨b', off', c', rfl, hb', hc'⟩
    · exact sameset_empty a a' c c' w
    · exact sameset_empty a _ c c' w
  · rcases hv' with ⟨rfl, a', c', rfl⟩ | ⟨b', off', c', rfl, hb', hc'⟩
    · exact sameset_empty _ a' c c' w
    · exact sameset_rows b off c b' off' c' l w hz hc hc'

end Go.Proofs.YtbjohedenfindaaGreatDoor

namespace Go.Proofs.YtbjohedenfindaaGreatDoor
open Go.RowKit
set_option linter.unusedVariables false
set_option linter.unusedSimpArgs false
set_option maxRecDepth 100000

def byteAt (s : ByteArray) (k : Nat) : Nat := (s.get! k).toNat
def folB (s : ByteArray) (k : Nat) (lo hi : Int) : Bool := decide (k < s.size) && (decide (lo ≤ (byteAt s k : Int)) && decide ((byteAt s k : Int) ≤ hi))

theorem byteAt_get (s : ByteArray) (k : Nat) (h : k < s.size) : byteAt s k = s[k].toNat := by
  unfold byteAt
  have := get_at s k h
  rw [Nat.add_zero] at this
  rw [this]
theorem byteAt_lt (s : ByteArray) (k : Nat) : byteAt s k < 256 := (s.get! k).toNat_lt
theorem wrap_byte (b : UInt8) : wrap64 (b.toNat : Int) = (b.toNat : Int) := by
  have := b.toNat_lt
  unfold wrap64; omega

set_option maxHeartbeats 400000 in
theorem follow_any (s : ByteArray) (k : Nat) (lo hi : Int) (w : World) (hs : s.size ≤ 140737488351232) :
    Calls Tryz.prog 99 #[.string s, .int .i64 k, .int .i64 lo, .int .i64 hi] w fun e w' => e = .returned (.bool (folB s k lo hi)) ∧ w' = w := by
  by_cases hlt : k < s.size
  · have hg := byteAt_get s k hlt
    have hw := wrap_byte s[k]
    by_cases h1 : lo ≤ (s[k].toNat : Int)
    · by_cases h2 : (s[k].toNat : Int) ≤ hi
      · go_enter Tryz.func99, Tryz.ntmps99
        go_wp2
        go_ret
        exact ⟨by simp [folB, hlt, hg, h1, h2], rfl⟩
      · go_enter Tryz.func99, Tryz.ntmps99
        go_wp2
        go_ret
        exact ⟨by simp [folB, hlt, hg, h1, h2], rfl⟩
    · go_enter Tryz.func99, Tryz.ntmps99
      go_wp2
      go_ret
      exact ⟨by simp [folB, hlt, hg]; intro h; omega, rfl⟩
  · go_enter Tryz.func99, Tryz.ntmps99
    go_wp2
    go_ret
    exact ⟨by simp [folB, hlt], rfl⟩

set_option maxHeartbeats 400000 in
theorem pt_ascii (s : ByteArray) (k : Nat) (w : World) (hs : s.size ≤ 140737488351232) (hk : k < s.size) (c1 : (s[k].toNat : Int) < 128) :
    Calls Tryz.prog 62 #[.string s, .int .i64 k] w fun e w' => e = .returned (.tuple #[.int .i64 s[k].toNat, .int .i64 1, .bool true]) ∧ w' = w := by
  have hw := wrap_byte s[k]
  go_enter Tryz.func62, Tryz.ntmps62
  go_wp2
  go_ret3
  exact ⟨rfl, rfl⟩

set_option maxHeartbeats 1000000 in
theorem pt_2_f (s : ByteArray) (k : Nat) (w : World) (hs : s.size ≤ 140737488351232) (hk : k < s.size)  (c1 : 194 ≤ (s[k].toNat : Int)) (c2 : (s[k].toNat : Int) ≤ 223) (f1 : folB s (k + 1) 128 191 = false) :
    Calls Tryz.prog 62 #[.string s, .int .i64 k] w fun e w' => e = .returned (.tuple #[.int .i64 65533, .int .i64 1, .bool false]) ∧ w' = w := by
  have hw := wrap_byte s[k]
  go_enter Tryz.func62, Tryz.ntmps62
  go_wp2_with (go_at_call 99; refine (follow_any s (k + 1) 128 191 _ hs).mono ?_; rintro e w' ⟨rfl, rfl⟩)
  refine wp_loop_rounds 1 ?_
  rw [rounds_succ]
  go_wp2_with fail
  go_ret3
  exact ⟨rfl, rfl⟩

set_option maxHeartbeats 1000000 in
theorem pt_2_t (s : ByteArray) (k : Nat) (w : World) (hs : s.size ≤ 140737488351232) (hk : k < s.size) (hk1 : k + 1 < s.size) (c1 : 194 ≤ (s[k].toNat : Int)) (c2 : (s[k].toNat : Int) ≤ 223) (f1 : folB s (k + 1) 128 191 = true) :
    Calls Tryz.prog 62 #[.string s, .int .i64 k] w fun e w' => e = .returned (.tuple #[.int .i64 (((s[k].toNat : Int) - 192) * 64 + s[k + 1].toNat - 128), .int .i64 2, .bool true]) ∧ w' = w := by
  have hw := wrap_byte s[k]
  have hw1 := wrap_byte s[k + 1]
  have hb1 : (s[k + 1].toNat : Int) ≤ 255 := by have := s[k + 1].toNat_lt; omega
  go_enter Tryz.func62, Tryz.ntmps62
  go_wp2_with (go_at_call 99; refine (follow_any s (k + 1) 128 191 _ hs).mono ?_; rintro e w' ⟨rfl, rfl⟩)
  refine wp_loop_rounds 1 ?_
  rw [rounds_succ]
  go_wp2_with fail
  refine wp_loop_rounds 2 ?_
  rw [rounds_succ]
  go_wp2_with fail
  rw [rounds_succ]
  go_wp2_with fail
  go_ret3
  exact ⟨rfl, rfl⟩

set_option maxHeartbeats 1000000 in
theorem pt_z (s : ByteArray) (k : Nat) (w : World) (hs : s.size ≤ 140737488351232) (hk : k < s.size) (c1 : 128 ≤ (s[k].toNat : Int)) (c2 : (s[k].toNat : Int) < 194 ∨ 244 < (s[k].toNat : Int)) :
    Calls Tryz.prog 62 #[.string s, .int .i64 k] w fun e w' => e = .returned (.tuple #[.int .i64 65533, .int .i64 1, .bool false]) ∧ w' = w := by
  have hw := wrap_byte s[k]
  rcases c2 with c2 | c2
  all_goals
    go_enter Tryz.func62, Tryz.ntmps62
    go_wp2_with fail
    refine wp_loop_rounds 1 ?_
    rw [rounds_succ]
    go_wp2_with fail
    go_ret3
    exact ⟨rfl, rfl⟩


end Go.Proofs.YtbjohedenfindaaGreatDoor

namespace Go.Proofs.YtbjohedenfindaaGreatDoor
open Go.RowKit
set_option linter.unusedVariables false
set_option linter.unusedSimpArgs false
set_option maxRecDepth 100000

set_option maxHeartbeats 1000000 in
theorem pt_3a_f (s : ByteArray) (k : Nat) (w : World) (hs : s.size ≤ 140737488351232) (hk : k < s.size)  (c1 : 224 ≤ (s[k].toNat : Int)) (c2 : (s[k].toNat : Int) ≤ 224) (f1 : folB s (k + 1) 160 191 = false) :
    Calls Tryz.prog 62 #[.string s, .int .i64 k] w fun e w' => e = .returned (.tuple #[.int .i64 65533, .int .i64 1, .bool false]) ∧ w' = w := by
  have hw := wrap_byte s[k]
  have e0 : ((s[k].toNat : Int) == 224) = true := by rw [beq_iff_eq]; omega
  have e1 : ((s[k].toNat : Int) == 237) = false := by rw [beq_eq_false_iff_ne]; omega
  go_enter Tryz.func62, Tryz.ntmps62
  go_wp2_with (go_at_call 99; refine (follow_any s (k + 1) 160 191 _ hs).mono ?_; rintro e w' ⟨rfl, rfl⟩)
  refine wp_loop_rounds 1 ?_
  rw [rounds_succ]
  go_wp2_with fail
  go_ret3
  exact ⟨rfl, rfl⟩

set_option maxHeartbeats 1000000 in
theorem pt_3a_tf (s : ByteArray) (k : Nat) (w : World) (hs : s.size ≤ 140737488351232) (hk : k < s.size)  (c1 : 224 ≤ (s[k].toNat : Int)) (c2 : (s[k].toNat : Int) ≤ 224) (f1 : folB s (k + 1) 160 191 = true) (f2 : folB s (k + 2) 128 191 = false) :
    Calls Tryz.prog 62 #[.string s, .int .i64 k] w fun e w' => e = .returned (.tuple #[.int .i64 65533, .int .i64 1, .bool false]) ∧ w' = w := by
  have hw := wrap_byte s[k]
  have e0 : ((s[k].toNat : Int) == 224) = true := by rw [beq_iff_eq]; omega
  have e1 : ((s[k].toNat : Int) == 237) = false := by rw [beq_eq_false_iff_ne]; omega
  go_enter Tryz.func62, Tryz.ntmps62
  go_wp2_with (go_at_call 99; refine (follow_any s (k + 1) 160 191 _ hs).mono ?_; rintro e w' ⟨rfl, rfl⟩)
  refine wp_loop_rounds 2 ?_
  rw [rounds_succ]
  go_wp2_with (go_at_call 99; refine (follow_any s (k + 2) 128 191 _ hs).mono ?_; rintro e w' ⟨rfl, rfl⟩)
  rw [rounds_succ]
  go_wp2_with fail
  go_ret3
  exact ⟨rfl, rfl⟩

set_option maxHeartbeats 1000000 in
theorem pt_3a_tt (s : ByteArray) (k : Nat) (w : World) (hs : s.size ≤ 140737488351232) (hk : k < s.size) (hk1 : k + 1 < s.size) (hk2 : k + 2 < s.size) (c1 : 224 ≤ (s[k].toNat : Int)) (c2 : (s[k].toNat : Int) ≤ 224) (f1 : folB s (k + 1) 160 191 = true) (f2 : folB s (k + 2) 128 191 = true) :
    Calls Tryz.prog 62 #[.string s, .int .i64 k] w fun e w' => e = .returned (.tuple #[.int .i64 ((((s[k].toNat : Int) - 224) * 64 + s[k + 1].toNat - 128) * 64 + s[k + 2].toNat - 128), .int .i64 3, .bool true]) ∧ w' = w := by
  have hw := wrap_byte s[k]
  have e0 : ((s[k].toNat : Int) == 224) = true := by rw [beq_iff_eq]; omega
  have e1 : ((s[k].toNat : Int) == 237) = false := by rw [beq_eq_false_iff_ne]; omega
  have hw1 := wrap_byte s[k + 1]
  have hb1 : (s[k + 1].toNat : Int) ≤ 255 := by have := s[k + 1].toNat_lt; omega
  have hw2 := wrap_byte s[k + 2]
  have hb2 : (s[k + 2].toNat : Int) ≤ 255 := by have := s[k + 2].toNat_lt; omega
  go_enter Tryz.func62, Tryz.ntmps62
  go_wp2_with (go_at_call 99; refine (follow_any s (k + 1) 160 191 _ hs).mono ?_; rintro e w' ⟨rfl, rfl⟩)
  refine wp_loop_rounds 2 ?_
  rw [rounds_succ]
  go_wp2_with (go_at_call 99; refine (follow_any s (k + 2) 128 191 _ hs).mono ?_; rintro e w' ⟨rfl, rfl⟩)
  rw [rounds_succ]
  go_wp2_with fail
  refine wp_loop_rounds 3 ?_
  rw [rounds_succ]
  go_wp2_with fail
  rw [rounds_succ]
  go_wp2_with fail
  rw [rounds_succ]
  go_wp2_with fail
  go_ret3
  exact ⟨rfl, rfl⟩

set_option maxHeartbeats 1000000 in
theorem pt_3b_f (s : ByteArray) (k : Nat) (w : World) (hs : s.size ≤ 140737488351232) (hk : k < s.size)  (c1 : 237 ≤ (s[k].toNat : Int)) (c2 : (s[k].toNat : Int) ≤ 237) (f1 : folB s (k + 1) 128 159 = false) :
    Calls Tryz.prog 62 #[.string s, .int .i64 k] w fun e w' => e = .returned (.tuple #[.int .i64 65533, .int .i64 1, .bool false]) ∧ w' = w := by
  have hw := wrap_byte s[k]
  have e0 : ((s[k].toNat : Int) == 224) = false := by rw [beq_eq_false_iff_ne]; omega
  have e1 : ((s[k].toNat : Int) == 237) = true := by rw [beq_iff_eq]; omega
  go_enter Tryz.func62, Tryz.ntmps62
  go_wp2_with (go_at_call 99; refine (follow_any s (k + 1) 128 159 _ hs).mono ?_; rintro e w' ⟨rfl, rfl⟩)
  refine wp_loop_rounds 1 ?_
  rw [rounds_succ]
  go_wp2_with fail
  go_ret3
  exact ⟨rfl, rfl⟩

set_option maxHeartbeats 1000000 in
theorem pt_3b_tf (s : ByteArray) (k : Nat) (w : World) (hs : s.size ≤ 140737488351232) (hk : k < s.size)  (c1 : 237 ≤ (s[k].toNat : Int)) (c2 : (s[k].toNat : Int) ≤ 237) (f1 : folB s (k + 1) 128 159 = true) (f2 : folB s (k + 2) 128 191 = false) :
    Calls Tryz.prog 62 #[.string s, .int .i64 k] w fun e w' => e = .returned (.tuple #[.int .i64 65533, .int .i64 1, .bool false]) ∧ w' = w := by
  have hw := wrap_byte s[k]
  have e0 : ((s[k].toNat : Int) == 224) = false := by rw [beq_eq_false_iff_ne]; omega
  have e1 : ((s[k].toNat : Int) == 237) = true := by rw [beq_iff_eq]; omega
  go_enter Tryz.func62, Tryz.ntmps62
  go_wp2_with (go_at_call 99; refine (follow_any s (k + 1) 128 159 _ hs).mono ?_; rintro e w' ⟨rfl, rfl⟩)
  refine wp_loop_rounds 2 ?_
  rw [rounds_succ]
  go_wp2_with (go_at_call 99; refine (follow_any s (k + 2) 128 191 _ hs).mono ?_; rintro e w' ⟨rfl, rfl⟩)
  rw [rounds_succ]
  go_wp2_with fail
  go_ret3
  exact ⟨rfl, rfl⟩

set_option maxHeartbeats 1000000 in
theorem pt_3b_tt (s : ByteArray) (k : Nat) (w : World) (hs : s.size ≤ 140737488351232) (hk : k < s.size) (hk1 : k + 1 < s.size) (hk2 : k + 2 < s.size) (c1 : 237 ≤ (s[k].toNat : Int)) (c2 : (s[k].toNat : Int) ≤ 237) (f1 : folB s (k + 1) 128 159 = true) (f2 : folB s (k + 2) 128 191 = true) :
    Calls Tryz.prog 62 #[.string s, .int .i64 k] w fun e w' => e = .returned (.tuple #[.int .i64 ((((s[k].toNat : Int) - 224) * 64 + s[k + 1].toNat - 128) * 64 + s[k + 2].toNat - 128), .int .i64 3, .bool true]) ∧ w' = w := by
  have hw := wrap_byte s[k]
  have e0 : ((s[k].toNat : Int) == 224) = false := by rw [beq_eq_false_iff_ne]; omega
  have e1 : ((s[k].toNat : Int) == 237) = true := by rw [beq_iff_eq]; omega
  have hw1 := wrap_byte s[k + 1]
  have hb1 : (s[k + 1].toNat : Int) ≤ 255 := by have := s[k + 1].toNat_lt; omega
  have hw2 := wrap_byte s[k + 2]
  have hb2 : (s[k + 2].toNat : Int) ≤ 255 := by have := s[k + 2].toNat_lt; omega
  go_enter Tryz.func62, Tryz.ntmps62
  go_wp2_with (go_at_call 99; refine (follow_any s (k + 1) 128 159 _ hs).mono ?_; rintro e w' ⟨rfl, rfl⟩)
  refine wp_loop_rounds 2 ?_
  rw [rounds_succ]
  go_wp2_with (go_at_call 99; refine (follow_any s (k + 2) 128 191 _ hs).mono ?_; rintro e w' ⟨rfl, rfl⟩)
  rw [rounds_succ]
  go_wp2_with fail
  refine wp_loop_rounds 3 ?_
  rw [rounds_succ]
  go_wp2_with fail
  rw [rounds_succ]
  go_wp2_with fail
  rw [rounds_succ]
  go_wp2_with fail
  go_ret3
  exact ⟨rfl, rfl⟩

set_option maxHeartbeats 1000000 in
theorem pt_3c_f (s : ByteArray) (k : Nat) (w : World) (hs : s.size ≤ 140737488351232) (hk : k < s.size)  (c1 : 224 ≤ (s[k].toNat : Int)) (c2 : (s[k].toNat : Int) ≤ 239) (c3 : ((s[k].toNat : Int) == 224) = false) (c4 : ((s[k].toNat : Int) == 237) = false) (f1 : folB s (k + 1) 128 191 = false) :
    Calls Tryz.prog 62 #[.string s, .int .i64 k] w fun e w' => e = .returned (.tuple #[.int .i64 65533, .int .i64 1, .bool false]) ∧ w' = w := by
  have hw := wrap_byte s[k]
  go_enter Tryz.func62, Tryz.ntmps62
  go_wp2_with (go_at_call 99; refine (follow_any s (k + 1) 128 191 _ hs).mono ?_; rintro e w' ⟨rfl, rfl⟩)
  refine wp_loop_rounds 1 ?_
  rw [rounds_succ]
  go_wp2_with fail
  go_ret3
  exact ⟨rfl, rfl⟩

set_option maxHeartbeats 1000000 in
theorem pt_3c_tf (s : ByteArray) (k : Nat) (w : World) (hs : s.size ≤ 140737488351232) (hk : k < s.size)  (c1 : 224 ≤ (s[k].toNat : Int)) (c2 : (s[k].toNat : Int) ≤ 239) (c3 : ((s[k].toNat : Int) == 224) = false) (c4 : ((s[k].toNat : Int) == 237) = false) (f1 : folB s (k + 1) 128 191 = true) (f2 : folB s (k + 2) 128 191 = false) :
    Calls Tryz.prog 62 #[.string s, .int .i64 k] w fun e w' => e = .returned (.tuple #[.int .i64 65533, .int .i64 1, .bool false]) ∧ w' = w := by
  have hw := wrap_byte s[k]
  go_enter Tryz.func62, Tryz.ntmps62
  go_wp2_with (go_at_call 99; refine (follow_any s (k + 1) 128 191 _ hs).mono ?_; rintro e w' ⟨rfl, rfl⟩)
  refine wp_loop_rounds 2 ?_
  rw [rounds_succ]
  go_wp2_with (go_at_call 99; refine (follow_any s (k + 2) 128 191 _ hs).mono ?_; rintro e w' ⟨rfl, rfl⟩)
  rw [rounds_succ]
  go_wp2_with fail
  go_ret3
  exact ⟨rfl, rfl⟩

set_option maxHeartbeats 1000000 in
theorem pt_3c_tt (s : ByteArray) (k : Nat) (w : World) (hs : s.size ≤ 140737488351232) (hk : k < s.size) (hk1 : k + 1 < s.size) (hk2 : k + 2 < s.size) (c1 : 224 ≤ (s[k].toNat : Int)) (c2 : (s[k].toNat : Int) ≤ 239) (c3 : ((s[k].toNat : Int) == 224) = false) (c4 : ((s[k].toNat : Int) == 237) = false) (f1 : folB s (k + 1) 128 191 = true) (f2 : folB s (k + 2) 128 191 = true) :
    Calls Tryz.prog 62 #[.string s, .int .i64 k] w fun e w' => e = .returned (.tuple #[.int .i64 ((((s[k].toNat : Int) - 224) * 64 + s[k + 1].toNat - 128) * 64 + s[k + 2].toNat - 128), .int .i64 3, .bool true]) ∧ w' = w := by
  have hw := wrap_byte s[k]
  have hw1 := wrap_byte s[k + 1]
  have hb1 : (s[k + 1].toNat : Int) ≤ 255 := by have := s[k + 1].toNat_lt; omega
  have hw2 := wrap_byte s[k + 2]
  have hb2 : (s[k + 2].toNat : Int) ≤ 255 := by have := s[k + 2].toNat_lt; omega
  go_enter Tryz.func62, Tryz.ntmps62
  go_wp2_with (go_at_call 99; refine (follow_any s (k + 1) 128 191 _ hs).mono ?_; rintro e w' ⟨rfl, rfl⟩)
  refine wp_loop_rounds 2 ?_
  rw [rounds_succ]
  go_wp2_with (go_at_call 99; refine (follow_any s (k + 2) 128 191 _ hs).mono ?_; rintro e w' ⟨rfl, rfl⟩)
  rw [rounds_succ]
  go_wp2_with fail
  refine wp_loop_rounds 3 ?_
  rw [rounds_succ]
  go_wp2_with fail
  rw [rounds_succ]
  go_wp2_with fail
  rw [rounds_succ]
  go_wp2_with fail
  go_ret3
  exact ⟨rfl, rfl⟩


end Go.Proofs.YtbjohedenfindaaGreatDoor
