import Derived.Test.YtbiiapdeincpbaaSortLaid
import Derived.Test.YtbiiapdeincpbaaShelf
import Derived.Test.YtbiiapdeincpbaaSetsC
import Derived.WalkKit
import Derived.WalkSpells
import Derived.WalkLawsBesides
namespace Go.Proofs.Ytbiiapdeincpbaa
open Go.Shelf Go.RowKit Go.Lib Go.Sort
set_option linter.unusedVariables false
set_option maxRecDepth 100000

def encE (x : Eg) : List Value := [.int .i64 x.1, .int .i64 x.2.1, .int .i64 x.2.2]
def cellsE (E : List Eg) : List Value := E.flatMap encE
theorem cellsE_len (l : List Eg) : (cellsE l).length = l.length * 3 := by
  induction l with
  | nil => rfl
  | cons r t ih =>
    have e : cellsE (r :: t) = encE r ++ cellsE t := by simp [cellsE]
    rw [e, List.length_append, ih]; simp [encE]; omega
theorem cellsE_append (a b : List Eg) : cellsE (a ++ b) = cellsE a ++ cellsE b := by simp [cellsE]
theorem cellsE_get : ∀ (l : List Eg) (j c : Nat), j < l.length → c < 3 → (cellsE l)[j * 3 + c]? = (encE (l.getD j (0, 0, 0)))[c]?
  | [], j, c, h, _ => by simp at h
  | r :: t, 0, c, _, hc => by
    have e : cellsE (r :: t) = encE r ++ cellsE t := by simp [cellsE]
    rw [e, List.getElem?_append_left (by simp [encE]; omega)]
    simp
  | r :: t, j + 1, c, h, hc => by
    have ih := cellsE_get t j c (by simpa using h) hc
    have e : cellsE (r :: t) = encE r ++ cellsE t := by simp [cellsE]
    rw [e, List.getElem?_append_right (by simp [encE]; omega)]
    have e2 : (j + 1) * 3 + c - (encE r).length = j * 3 + c := by simp [encE]; omega
    rw [e2, ih]
    simp

def OwnE (w : World) (B : Nat) (v : Value) (E : List Eg) : Prop := w.ownsRow B 83 3 v E.length (cellsE E)

/-- edges that lie in a row of the call's own, to be read -/
def EdgesAt (w : World) (B : Nat) (v : Value) (E : List Eg) : Prop :=
  (E = [] ∧ ∃ a c, v = .slice a 0 c) ∨ ∃ g c, v = .slice (some ⟨g, 0, none⟩) E.length c ∧ B ≤ g ∧ (∃ cur, w.heap[g]? = some (.cells cur 83 (0, 0))) ∧ ∀ j, j < E.length → ∀ c, c < 3 → w.cell? ⟨g, j * 3 + c, none⟩ = (encE (E.getD j (0, 0, 0)))[c]?

theorem ltAt (x y : Eg) : ltOf (fun x y : Eg => Lib.compareInt x.1 y.1) x y = decide (x.1 < y.1) := by
  unfold ltOf Lib.compareInt
  by_cases h1 : x.1 < y.1
  · simp [h1]
  · by_cases h2 : y.1 < x.1 <;> simp [h1, h2]
theorem swoAt : SWO (ltOf fun x y : Eg => Lib.compareInt x.1 y.1) := {
  irrefl := fun x => by rw [ltAt]; simp
  trans := fun x y z h1 h2 => by rw [ltAt] at *; simp at *; omega
  ntrans := fun x y z h1 h2 => by rw [ltAt] at *; simp at *; omega }

set_option maxHeartbeats 1000000 in
theorem cmp_edges (x y : Eg) (W : World) : Calls Try.prog 61 #[.agg #[.int .i64 x.1, .int .i64 x.2.1, .int .i64 x.2.2], .agg #[.int .i64 y.1, .int .i64 y.2.1, .int .i64 y.2.2]] W fun e w' => e = .returned (.int .i64 (Lib.compareInt x.1 y.1)) ∧ ∃ q os', w' = grow (W.drewN q) os' := by
  have hcon := fun W' => Try.cmp_Compare_int x.1 y.1 W'
  generalize Lib.compareInt x.1 y.1 = r at hcon ⊢
  go_enter Try.func61, Try.ntmps61
  go_wp2_with (go_at_call 62; refine (hcon _).mono ?_; rintro e w' ⟨rfl, rfl⟩)
  go_ret
  exact ⟨rfl, 0, _, by rw [alloc_eq_grow, alloc_eq_grow, grow_grow]; rfl⟩

theorem cmpLays (blk off size : Nat) (w : World) : CmpLays Try.prog 61 #[] encE 3 (fun x y => Lib.compareInt x.1 y.1) blk off size w :=
  fun _ _ _ _ x y => cmp_edges x y _

theorem sort_some (g cap : Nat) (d : Array Eg) (w : World) (hH : HoldsK encE 3 w g 0 d) (hblk : g < w.heap.size) (hsz : d.size < 4611686018427387904) :
    Calls Try.prog 60 #[.slice (some ⟨g, 0, none⟩) d.size cap, .func (.func 61) #[] #[]] w fun e w' => e = .returned (.tuple #[]) ∧ ∃ d' n os, PermIn 0 d.size d d' ∧ SortedIn (ltOf fun x y : Eg => Lib.compareInt x.1 y.1) 0 d.size d' ∧ w' = sortWorldK encE 3 w g 0 n d' os := by
  have eg : ∀ args w, (callFunc 61 args).run Try.prog w = .ok (.enter 61 args) w := enters_of Try.func61 (by kernel_rfl) rfl
  have hcon := AnyQ.slices_SortFunc Try.sortEdge 3 Try.isAgg83 Try.sizeOf83 encE (fun _ => rfl) (fun x v hv => by simp [encE] at hv; rcases hv with rfl | rfl | rfl <;> rfl) (fun x y => Lib.compareInt x.1 y.1) swoAt 61 #[] g 0 cap d w eg (cmpLays g 0 d.size w) hH hblk hsz
  change Calls Try.prog 60 _ _ _ at hcon
  exact hcon

end Go.Proofs.Ytbiiapdeincpbaa
