/- Texts of the proof, put together: SetsC, PSort, RHas, RGrow, PExt. -/
import Derived.Test.YtbjohedenfindaaGreatDoorPb02
import Derived.WalkKit
import Derived.WalkSpells
import Derived.WalkLawsBesides
import Derived.Test.YtbjohedenfindaaGreatDoorProg
import Derived.BigQuiet
import Derived.Deep.QuietTactic
import Derived.Maps.AppendAt
import Derived.Maps.Range
namespace Go.Proofs.YtbjohedenfindaaGreatDoor
set_option linter.unusedVariables false

def insL : List Int → Int → List Int
  | [], n => [n]
  | x :: t, n => if x < n then x :: insL t n else if x = n then x :: t else n :: x :: t

theorem insL_mem : ∀ (l : List Int) (n x : Int), x ∈ insL l n ↔ x = n ∨ x ∈ l
  | [], n, x => by simp [insL]
  | y :: t, n, x => by
    unfold insL
    split
    · have := insL_mem t n x
      simp only [List.mem_cons, this]
      constructor
      · rintro (h | h | h) <;> simp [h]
      · rintro (h | h | h) <;> simp [h]
    · split
      · rename_i h1 h2
        subst h2
        simp only [List.mem_cons]
        constructor
        · rintro (h | h) <;> simp [h]
        · rintro (h | h | h) <;> simp [h]
      · simp only [List.mem_cons]
theorem insL_len : ∀ (l : List Int) (n : Int), (insL l n).length ≤ l.length + 1 ∧ l.length ≤ (insL l n).length
  | [], n => by simp [insL]
  | y :: t, n => by
    unfold insL
    split
    · have := insL_len t n
      simp only [List.length_cons]; omega
    · split <;> simp only [List.length_cons] <;> omega
theorem insL_sorted : ∀ (l : List Int) (n : Int), l.Pairwise (· < ·) → (insL l n).Pairwise (· < ·)
  | [], n, _ => by simp [insL]
  | y :: t, n, h => by
    have h1 := List.pairwise_cons.1 h
    unfold insL
    split
    · rename_i hlt
      refine List.pairwise_cons.2 ⟨fun x hx => ?_, insL_sorted t n h1.2⟩
      rcases (insL_mem t n x).1 hx with rfl | hx
      · exact hlt
      · exact h1.1 x hx
    · split
      · exact h
      · rename_i hn1 hn2
        refine List.pairwise_cons.2 ⟨fun x hx => ?_, h⟩
        rcases List.mem_cons.1 hx with rfl | hx
        · omega
        · have := h1.1 x hx; omega

/-- the walk's form: the place is told -/
theorem insL_at : ∀ (l : List Int) (n : Int) (k : Nat), k ≤ l.length → (∀ j, j < k → l.getD j 0 < n) → (k < l.length → n ≤ l.getD k 0) →
    insL l n = if k < l.length ∧ l.getD k 0 = n then l else l.take k ++ n :: l.drop k
  | [], n, k, hk, _, _ => by
    have : k = 0 := by simpa using hk
    subst this
    simp [insL]
  | y :: t, n, 0, _, _, h2 => by
    have := h2 (by simp)
    simp at this
    unfold insL
    rw [if_neg (by omega)]
    by_cases e : y = n
    · simp [e]
    · simp [e]
  | y :: t, n, k + 1, hk, h1, h2 => by
    have hy := h1 0 (by omega)
    simp at hy
    have ih := insL_at t n k (by simpa using hk) (fun j hj => by have := h1 (j + 1) (by omega); simpa using this) (fun h => by have := h2 (by simpa using h); simpa using this)
    unfold insL
    rw [if_pos hy, ih]
    simp only [List.length_cons, List.getD_cons_succ, List.take_succ_cons, List.drop_succ_cons, Nat.add_lt_add_iff_right]
    split <;> simp

structure Cuts (e : List Int) : Prop where
  sorted : e.Pairwise (· < ·)
  zero : (0 : Int) ∈ e
  top : (1114112 : Int) ∈ e
  bd : ∀ x ∈ e, 0 ≤ x ∧ x ≤ 1114112

theorem Cuts.ends : Cuts [0, 1114112] := ⟨by simp, by simp, by simp, by simp⟩
theorem Cuts.ins {e : List Int} (h : Cuts e) (n : Int) (h0 : 0 ≤ n) (h1 : n ≤ 1114112) : Cuts (insL e n) :=
  ⟨insL_sorted e n h.sorted, (insL_mem _ _ _).2 (Or.inr h.zero), (insL_mem _ _ _).2 (Or.inr h.top), fun x hx => by
    rcases (insL_mem _ _ _).1 hx with rfl | hx
    · exact ⟨h0, h1⟩
    · exact h.bd x hx⟩

def edgeLo (l : List Int) (r : Rg) : List Int := if 0 < r.1 ∧ r.1 ≤ 1114111 then insL l r.1 else l
def edgeHi (l : List Int) (r : Rg) : List Int := if 0 ≤ r.2 ∧ r.2 < 1114111 then insL l (r.2 + 1) else l
def edgesL : List Int → List Rg → List Int
  | l, [] => l
  | l, r :: t => edgesL (edgeHi (edgeLo l r) r) t
theorem edgesL_snoc : ∀ (s : List Rg) (l : List Int) (r : Rg), edgesL l (s ++ [r]) = edgeHi (edgeLo (edgesL l s) r) r
  | [], l, r => rfl
  | x :: t, l, r => by
    show edgesL _ (t ++ [r]) = _
    rw [edgesL_snoc t]; rfl
theorem edgeLo_cuts {l : List Int} (h : Cuts l) (r : Rg) : Cuts (edgeLo l r) := by
  unfold edgeLo; split
  · exact h.ins _ (by omega) (by omega)
  · exact h
theorem edgeHi_cuts {l : List Int} (h : Cuts l) (r : Rg) : Cuts (edgeHi l r) := by
  unfold edgeHi; split
  · exact h.ins _ (by omega) (by omega)
  · exact h
theorem edgesL_cuts : ∀ (s : List Rg) {l : List Int}, Cuts l → Cuts (edgesL l s)
  | [], _, h => h
  | r :: t, _, h => edgesL_cuts t (edgeHi_cuts (edgeLo_cuts h r) r)
theorem edgeLo_sub (l : List Int) (r : Rg) : ∀ x ∈ l, x ∈ edgeLo l r := fun x hx => by
  unfold edgeLo; split
  · exact (insL_mem _ _ _).2 (Or.inr hx)
  · exact hx
theorem edgeHi_sub (l : List Int) (r : Rg) : ∀ x ∈ l, x ∈ edgeHi l r := fun x hx => by
  unfold edgeHi; split
  · exact (insL_mem _ _ _).2 (Or.inr hx)
  · exact hx
theorem edgesL_sub : ∀ (s : List Rg) (l : List Int), ∀ x ∈ l, x ∈ edgesL l s
  | [], _, _, h => h
  | r :: t, l, x, h => edgesL_sub t _ x (edgeHi_sub _ r x (edgeLo_sub l r x h))
theorem edgesL_len : ∀ (s : List Rg) (l : List Int), (edgesL l s).length ≤ l.length + 2 * s.length
  | [], _ => by simp [edgesL]
  | r :: t, l => by
    have ih := edgesL_len t (edgeHi (edgeLo l r) r)
    have h1 : (edgeLo l r).length ≤ l.length + 1 := by
      unfold edgeLo; split
      · exact (insL_len _ _).1
      · omega
    have h2 : (edgeHi (edgeLo l r) r).length ≤ (edgeLo l r).length + 1 := by
      unfold edgeHi; split
      · exact (insL_len _ _).1
      · omega
    simp only [edgesL, List.length_cons]
    omega

def Covers (e : List Int) (s : List Rg) : Prop := ∀ r ∈ s, (0 < r.1 → r.1 ≤ 1114111 → r.1 ∈ e) ∧ (0 ≤ r.2 → r.2 < 1114111 → r.2 + 1 ∈ e)
theorem Covers.sub {e e' : List Int} {s : List Rg} (h : Covers e s) (hs : ∀ x ∈ e, x ∈ e') : Covers e' s :=
  fun r hr => ⟨fun a b => hs _ ((h r hr).1 a b), fun a b => hs _ ((h r hr).2 a b)⟩
theorem edgesL_covers : ∀ (s : List Rg) (l : List Int), Covers (edgesL l s) s
  | [], _ => by intro r hr; simp at hr
  | r :: t, l => by
    intro x hx
    rcases List.mem_cons.1 hx with rfl | hx
    · refine ⟨fun a b => edgesL_sub t _ _ (edgeHi_sub _ _ _ ?_), fun a b => edgesL_sub t _ _ ?_⟩
      · unfold edgeLo; rw [if_pos ⟨a, b⟩]; exact (insL_mem _ _ _).2 (Or.inl rfl)
      · unfold edgeHi; rw [if_pos ⟨a, b⟩]; exact (insL_mem _ _ _).2 (Or.inl rfl)
    · exact edgesL_covers t _ x hx

theorem sorted_get : ∀ {e : List Int}, e.Pairwise (· < ·) → ∀ i j, i < j → j < e.length → e.getD i 0 < e.getD j 0
  | [], _, _, _, _, h => by simp at h
  | x :: t, hs, 0, j + 1, _, h => by
    have := (List.pairwise_cons.1 hs).1 (t.getD j 0) (by simp at h; simp [h])
    simpa using this
  | x :: t, hs, i + 1, j + 1, hij, h => by
    have := sorted_get (List.pairwise_cons.1 hs).2 i j (by omega) (by simpa using h)
    simpa using this
theorem mem_get {e : List Int} {x : Int} (h : x ∈ e) : ∃ i, i < e.length ∧ e.getD i 0 = x := by
  obtain ⟨i, hi, e1⟩ := List.mem_iff_getElem.1 h
  exact ⟨i, hi, by simp [hi, e1]⟩
theorem next_le {e : List Int} (hs : e.Pairwise (· < ·)) {k : Nat} (hk : k + 1 < e.length) {x : Int} (hx : x ∈ e) (hlt : e.getD k 0 < x) : e.getD (k + 1) 0 ≤ x := by
  obtain ⟨i, hi, rfl⟩ := mem_get hx
  rcases (show i ≤ k ∨ i = k + 1 ∨ k + 1 < i from by omega) with h | h | h
  · rcases (show i < k ∨ i = k from by omega) with h | h
    · have := sorted_get hs i k h (by omega); omega
    · subst h; omega
  · subst h; exact Int.le_refl _
  · have := sorted_get hs (k + 1) i h hi; omega

theorem cut_const {e : List Int} (hc : Cuts e) {s : List Rg} (hv : Covers e s) {k : Nat} (hk : k + 1 < e.length) (p : Int) (h1 : e.getD k 0 ≤ p) (h2 : p ≤ e.getD (k + 1) 0 - 1) : hasL s p = hasL s (e.getD k 0) := by
  have hm : ∀ i, i < e.length → e.getD i 0 ∈ e := fun i hi => by simp [hi]
  have b0 := hc.bd _ (hm k (by omega))
  have b1 := hc.bd _ (hm (k + 1) hk)
  rw [Bool.eq_iff_iff, hasL_iff, hasL_iff]
  constructor
  · rintro ⟨r, hr, a1, a2⟩
    refine ⟨r, hr, ?_, by omega⟩
    rcases (show r.1 ≤ e.getD k 0 ∨ e.getD k 0 < r.1 from by omega) with h | h
    · exact h
    · exfalso
      have := next_le hc.sorted hk ((hv r hr).1 (by omega) (by omega)) h
      omega
  · rintro ⟨r, hr, a1, a2⟩
    refine ⟨r, hr, by omega, ?_⟩
    rcases (show p ≤ r.2 ∨ r.2 < p from by omega) with h | h
    · exact h
    · exfalso
      have := next_le hc.sorted hk ((hv r hr).2 (by omega) (by omega)) (by omega)
      omega

theorem cuts_len {e : List Int} (hc : Cuts e) : 2 ≤ e.length := by
  obtain ⟨i, hi, h1⟩ := mem_get hc.zero
  obtain ⟨j, hj, h2⟩ := mem_get hc.top
  have : i ≠ j := by rintro rfl; omega
  omega
theorem cuts_first {e : List Int} (hc : Cuts e) : e.getD 0 0 = 0 := by
  obtain ⟨i, hi, h1⟩ := mem_get hc.zero
  have hm : e.getD 0 0 ∈ e := by have : 0 < e.length := by omega
                                 simp [this]
  have hb := hc.bd _ hm
  rcases Nat.eq_zero_or_pos i with h | h
  · subst h; exact h1
  · have := sorted_get hc.sorted 0 i h hi; omega
theorem cuts_last {e : List Int} (hc : Cuts e) (k : Nat) (hk : k + 1 = e.length) : e.getD k 0 = 1114112 := by
  obtain ⟨i, hi, h1⟩ := mem_get hc.top
  have hm : e.getD k 0 ∈ e := by have : k < e.length := by omega
                                 simp [this]
  have hb := hc.bd _ hm
  rcases (show i < k ∨ i = k from by omega) with h | h
  · have := sorted_get hc.sorted i k h (by omega); omega
  · subst h; exact h1

theorem cut_step {e : List Int} (hc : Cuts e) {k : Nat} (hk : k + 1 < e.length) {out : List Rg} {f : Int → Bool} (hu : Upto out (e.getD k 0) f) (hf : ∀ p, e.getD k 0 ≤ p → p ≤ e.getD (k + 1) 0 - 1 → f p = f (e.getD k 0)) :
    Upto (if f (e.getD k 0) then growL out (e.getD k 0) (e.getD (k + 1) 0 - 1) else out) (e.getD (k + 1) 0) f := by
  have hlt := sorted_get hc.sorted k (k + 1) (by omega) hk
  have hb := hc.bd (e.getD k 0) (by have : k < e.length := by omega
                                    simp [this])
  have e1 : e.getD (k + 1) 0 - 1 + 1 = e.getD (k + 1) 0 := by omega
  split
  · rename_i hw
    have := hu.grow hb.1 (hi := e.getD (k + 1) 0 - 1) (by omega) (fun p h1 h2 => by rw [hf p h1 h2, hw])
    rw [e1] at this; exact this
  · rename_i hw
    have := hu.skip (hi := e.getD (k + 1) 0 - 1) (by omega) (fun p h1 h2 => by rw [hf p h1 h2]; simpa using hw)
    rw [e1] at this; exact this

theorem hasB_in (l : List Rg) (p : Int) (h0 : 0 ≤ p) (h1 : p ≤ 1114111) : hasB l p = hasL l p := by simp [hasB, h0, h1]

end Go.Proofs.YtbjohedenfindaaGreatDoor

namespace Go.Proofs.YtbjohedenfindaaGreatDoor
open Go.Shelf Go.RowKit Go.Lib Go.Sort
set_option linter.unusedVariables false
set_option maxRecDepth 100000

def encE (x : Eg) : List Value := [.int .i64 x.1, .int .i64 x.2.1, .int .i64 x.2.2]
def cellsE (E : List Eg) : List Value := E.flatMap encE
theorem cellsE_len (l : List Eg) : (cellsE l).length = l.length * 3 := by
  induction l with
  | nil => rfl
  | cons r t ih =>
    have e : cellsE (r :: t) = encE r ++ cellsE t := by simp [cellsE]
    rw [e, List.length_append, ih]; simp [encE]; omega
theorem cellsE_append (a b : List Eg) : cellsE (a ++ b) = cellsE a ++ cellsE b := by simp [cellsE]
theorem cellsE_get : ∀ (l : List Eg) (j c : Nat), j < l.length → c < 3 → (cellsE l)[j * 3 + c]? = (encE (l.getD j (0, 0, 0)))[c]?
  | [], j, c, h, _ => by simp at h
  | r :: t, 0, c, _, hc => by
    have e : cellsE (r :: t) = encE r ++ cellsE t := by simp [cellsE]
    rw [e, List.getElem?_append_left (by simp [encE]; omega)]
    simp
  | r :: t, j + 1, c, h, hc => by
    have ih := cellsE_get t j c (by simpa using h) hc
    have e : cellsE (r :: t) = encE r ++ cellsE t := by simp [cellsE]
    rw [e, List.getElem?_append_right (by simp [encE]; omega)]
    have e2 : (j + 1) * 3 + c - (encE r).length = j * 3 + c := by simp [encE]; omega
    rw [e2, ih]
    simp

def OwnE (w : World) (B : Nat) (v : Value) (E : List Eg) : Prop := w.ownsRow B 207 3 v E.length (cellsE E)

/-- edges that lie in a row of the call's own, to be read -/
def EdgesAt (w : World) (B : Nat) (v : Value) (E : List Eg) : Prop :=
  (E = [] ∧ ∃ a c, v = .slice a 0 c) ∨ ∃ g c, v = .slice (some ⟨g, 0, none⟩) E.length c ∧ B ≤ g ∧ (∃ cur, w.heap[g]? = some (.cells cur 207 (0, 0))) ∧ ∀ j, j < E.length → ∀ c, c < 3 → w.cell? ⟨g, j * 3 + c, none⟩ = (encE (E.getD j (0, 0, 0)))[c]?

theorem ltAt (x y : Eg) : ltOf (fun x y : Eg => Lib.compareInt x.1 y.1) x y = decide (x.1 < y.1) := by
  unfold ltOf Lib.compareInt
  by_cases h1 : x.1 < y.1
  · simp [h1]
  · by_cases h2 : y.1 < x.1 <;> simp [h1, h2]
theorem swoAt : SWO (ltOf fun x y : Eg => Lib.compareInt x.1 y.1) := {
  irrefl := fun x => by rw [ltAt]; simp
  trans := fun x y z h1 h2 => by rw [ltAt] at *; simp at *; omega
  ntrans := fun x y z h1 h2 => by rw [ltAt] at *; simp at *; omega }

set_option maxHeartbeats 1000000 in
theorem cmp_edges (x y : Eg) (W : World) : Calls Tryz.prog 167 #[.agg #[.int .i64 x.1, .int .i64 x.2.1, .int .i64 x.2.2], .agg #[.int .i64 y.1, .int .i64 y.2.1, .int .i64 y.2.2]] W fun e w' => e = .returned (.int .i64 (Lib.compareInt x.1 y.1)) ∧ ∃ q os', w' = grow (W.drewN q) os' := by
  have hcon := fun W' => Tryz.cmp_Compare_int x.1 y.1 W'
  generalize Lib.compareInt x.1 y.1 = r at hcon ⊢
  go_enter Tryz.func167, Tryz.ntmps167
  go_wp2_with (go_at_call 168; refine (hcon _).mono ?_; rintro e w' ⟨rfl, rfl⟩)
  go_ret
  exact ⟨rfl, 0, _, by rw [alloc_eq_grow, alloc_eq_grow, grow_grow]; rfl⟩

theorem cmpLays (blk off size : Nat) (w : World) : CmpLays Tryz.prog 167 #[] encE 3 (fun x y => Lib.compareInt x.1 y.1) blk off size w :=
  fun _ _ _ _ x y => cmp_edges x y _

theorem sort_some (g cap : Nat) (d : Array Eg) (w : World) (hH : HoldsK encE 3 w g 0 d) (hblk : g < w.heap.size) (hsz : d.size < 4611686018427387904) :
    Calls Tryz.prog 166 #[.slice (some ⟨g, 0, none⟩) d.size cap, .func (.func 167) #[] #[]] w fun e w' => e = .returned (.tuple #[]) ∧ ∃ d' n os, PermIn 0 d.size d d' ∧ SortedIn (ltOf fun x y : Eg => Lib.compareInt x.1 y.1) 0 d.size d' ∧ w' = sortWorldK encE 3 w g 0 n d' os := by
  have eg : ∀ args w, (callFunc 167 args).run Tryz.prog w = .ok (.enter 167 args) w := enters_of Tryz.func167 (by kernel_rfl) rfl
  have hcon := AnyQ.slices_SortFunc Tryz.sortEdge 3 Tryz.isAgg207 Tryz.sizeOf207 encE (fun _ => rfl) (fun x v hv => by simp [encE] at hv; rcases hv with rfl | rfl | rfl <;> rfl) (fun x y => Lib.compareInt x.1 y.1) swoAt 167 #[] g 0 cap d w eg (cmpLays g 0 d.size w) hH hblk hsz
  change Calls Tryz.prog 166 _ _ _ at hcon
  exact hcon

end Go.Proofs.YtbjohedenfindaaGreatDoor

namespace Go.Proofs.YtbjohedenfindaaGreatDoor
open Go.RowKit
set_option linter.unusedVariables false
set_option maxRecDepth 100000

/-- what the walk is told of a slice of ranges -/
def Rngs (w : World) (v : Value) (l : List Rg) : Prop :=
  (l = [] ∧ ∃ a c, v = .slice a 0 c) ∨ ∃ b off c, v = .slice (some ⟨b, off, none⟩) l.length c ∧ b < w.heap.size ∧ ∀ j, j < l.length → w.cell? ⟨b, off + j * 2, none⟩ = some (.int .i64 (l.getD j (0, 0)).1) ∧ w.cell? ⟨b, off + j * 2 + 1, none⟩ = some (.int .i64 (l.getD j (0, 0)).2)

theorem hasL_take (l : List Rg) (k : Nat) (p : Int) (h : k < l.length) : hasL (l.take (k + 1)) p = (hasL (l.take k) p || inR p (l.getD k (0, 0))) := by
  rw [List.take_succ_eq_append_getElem h, hasL_append]
  simp [hasL, h]
theorem hasL_of_take (l : List Rg) (k : Nat) (p : Int) (h : hasL (l.take k) p = true) : hasL l p = true := by
  obtain ⟨r, hr, h1⟩ := (hasL_iff _ _).1 h
  exact (hasL_iff _ _).2 ⟨r, List.mem_of_mem_take hr, h1⟩

set_option maxHeartbeats 400000 in
theorem rhas_out (v : Value) (p : Int) (l : List Rg) (w : World) (h : p < 0 ∨ 1114111 < p) :
    Calls Tryz.prog 67 #[v, .int .i64 p] w fun e w' => e = .returned (.bool (hasB l p)) ∧ w' = w := by
  have HB : Hid (hasB l p = false) := by
    show _ = _
    unfold hasB
    rcases h with h | h
    · have : decide (0 ≤ p) = false := by simp; omega
      simp [this]
    · have : decide (p ≤ 1114111) = false := by simp; omega
      simp [this]
  rcases h with h | h
  · go_enter Tryz.func67, Tryz.ntmps67
    go_wp2
    go_ret
    exact ⟨by rw [HB.out]; rfl, rfl⟩
  · have h0 : ¬ p < 0 := by omega
    go_enter Tryz.func67, Tryz.ntmps67
    go_wp2
    go_ret
    exact ⟨by rw [HB.out]; rfl, rfl⟩

set_option maxHeartbeats 1000000 in
theorem rhas_row (b off c : Nat) (p : Int) (l : List Rg) (w : World) (hl : l.length ≤ 1000000) (h0 : 0 ≤ p) (h1 : p ≤ 1114111) (hb : b < w.heap.size) (hc : ∀ j, j < l.length → w.cell? ⟨b, off + j * 2, none⟩ = some (.int .i64 (l.getD j (0, 0)).1) ∧ w.cell? ⟨b, off + j * 2 + 1, none⟩ = some (.int .i64 (l.getD j (0, 0)).2)) :
    Calls Tryz.prog 67 #[.slice (some ⟨b, off, none⟩) l.length c, .int .i64 p] w fun e w' => e = .returned (.bool (hasB l p)) ∧ w' = w := by
  have HB : Hid (hasB l p = hasL l p) := hasB_in l p h0 h1
  have hn0 : ¬ p < 0 := by omega
  have hn1 : ¬ 1114111 < p := by omega
  go_enter Tryz.func67, Tryz.ntmps67
  go_wp2
  go_loop [5] (fun i => ∃ k : Nat, k ≤ l.length ∧ i = .int .i64 k ∧ hasL (l.take k) p = false) (fun i => l.length - (intOf i).toNat)
  case atStart => exact ⟨0, Nat.zero_le _, rfl, rfl⟩
  case round =>
    obtain ⟨k, hk, rfl, hno0⟩ := hrel
    have HN : Hid (hasL (l.take k) p = false) := hno0
    clear hno0
    by_cases hlt : k < l.length
    · obtain ⟨c0, c1⟩ := hc k hlt
      clear hc
      have ht := hasL_take l k p hlt
      generalize hr : l.getD k (0, 0) = r at *
      have HR : Hid (l.getD k (0, 0) = r) := hr
      clear hr
      by_cases g1 : r.1 ≤ p
      · by_cases g2 : p ≤ r.2
        · have HS : Hid (hasL l p = true) := by
            refine hasL_of_take l (k + 1) p ?_
            rw [ht]; simp [inR, g1, g2]
          clear ht
          go_wp2
          go_ret
          exact ⟨by rw [HB.out, HS.out]; rfl, rfl⟩
        · have HS : Hid (hasL (l.take (k + 1)) p = false) := by
            show _ = _
            rw [ht, HN.out]; simp [inR]; omega
          clear ht
          go_wp2
          go_round
          case rel => exact ⟨k + 1, by omega, by go_num, HS.out⟩
          case measure => simp [intOf]; omega
      · have HS : Hid (hasL (l.take (k + 1)) p = false) := by
          show _ = _
          rw [ht, HN.out]; simp [inR]; omega
        clear ht
        go_wp2
        go_round
        case rel => exact ⟨k + 1, by omega, by go_num, HS.out⟩
        case measure => simp [intOf]; omega
    · have HS : Hid (hasL l p = false) := by
        have := HN.out; rw [List.take_of_length_le (by omega)] at this; exact this
      go_wp2
      go_ret
      exact ⟨by rw [HB.out, HS.out]; rfl, rfl⟩

set_option maxHeartbeats 400000 in
theorem rhas_empty (a : Option Addr) (c : Nat) (p : Int) (w : World) (h0 : 0 ≤ p) (h1 : p ≤ 1114111) :
    Calls Tryz.prog 67 #[.slice a 0 c, .int .i64 p] w fun e w' => e = .returned (.bool (hasB [] p)) ∧ w' = w := by
  have HB : Hid (hasB [] p = false) := by show _ = _; simp [hasB, hasL]
  have hn0 : ¬ p < 0 := by omega
  have hn1 : ¬ 1114111 < p := by omega
  go_enter Tryz.func67, Tryz.ntmps67
  go_wp2
  refine wp_loop_rounds 1 ?_
  rw [rounds_succ]
  go_wp2
  go_ret
  exact ⟨by rw [HB.out]; rfl, rfl⟩

theorem rhas_any (v : Value) (p : Int) (l : List Rg) (w : World) (hl : l.length ≤ 1000000) (hv : Rngs w v l) :
    Calls Tryz.prog 67 #[v, .int .i64 p] w fun e w' => e = .returned (.bool (hasB l p)) ∧ w' = w := by
  by_cases hp : p < 0 ∨ 1114111 < p
  · exact rhas_out v p l w hp
  · rcases hv with ⟨rfl, a, c, rfl⟩ | ⟨b, off, c, rfl, hb, hc⟩
    · exact rhas_empty a c p w (by omega) (by omega)
    · exact rhas_row b off c p l w hl (by omega) (by omega) hb hc

end Go.Proofs.YtbjohedenfindaaGreatDoor

namespace Go.Proofs.YtbjohedenfindaaGreatDoor
open Go.RowKit
set_option linter.unusedVariables false
set_option maxRecDepth 100000

def cellsR (l : List Rg) : List Value := l.flatMap fun r => [.int .i64 r.1, .int .i64 r.2]
theorem cellsR_len (l : List Rg) : (cellsR l).length = l.length * 2 := by
  induction l with
  | nil => rfl
  | cons r t ih =>
    have e : cellsR (r :: t) = [.int .i64 r.1, .int .i64 r.2] ++ cellsR t := by simp [cellsR]
    rw [e, List.length_append, ih]; simp; omega
theorem cellsR_append (a b : List Rg) : cellsR (a ++ b) = cellsR a ++ cellsR b := by simp [cellsR]
theorem cellsR_get : ∀ (l : List Rg) (j : Nat), j < l.length → (cellsR l)[j * 2]? = some (.int .i64 (l.getD j (0, 0)).1) ∧ (cellsR l)[j * 2 + 1]? = some (.int .i64 (l.getD j (0, 0)).2)
  | [], j, h => by simp at h
  | r :: t, 0, _ => by simp [cellsR]
  | r :: t, j + 1, h => by
    have ih := cellsR_get t j (by simpa using h)
    have e : cellsR (r :: t) = [.int .i64 r.1, .int .i64 r.2] ++ cellsR t := by simp [cellsR]
    have e1 : (j + 1) * 2 = 2 + j * 2 := by omega
    rw [e, e1, List.getElem?_append_right (by simp), Nat.add_assoc, List.getElem?_append_right (by simp)]
    simpa using ih

/-- a slice of ranges that the call made -/
def OwnR (w : World) (B : Nat) (v : Value) (l : List Rg) : Prop := w.ownsRow B 101 2 v l.length (cellsR l)

theorem OwnR.rngs {w : World} {B : Nat} {v : Value} {l : List Rg} (h : OwnR w B v l) : Rngs w v l := by
  have hl := h.lt
  unfold OwnR at h
  rcases h.2 with ⟨rfl, h0⟩ | ⟨g, cap, cur, rfl, _⟩
  · exact Or.inl ⟨List.eq_nil_of_length_eq_zero h0, _, _, rfl⟩
  · refine Or.inr ⟨g, 0, cap, rfl, (hl g rfl).2, fun j hj => ?_⟩
    have c0 := h.cellAt (j * 2) (by omega)
    have c1 := h.cellAt (j * 2 + 1) (by omega)
    have hg := cellsR_get l j hj
    rw [hg.1] at c0
    rw [hg.2] at c1
    exact ⟨by simpa using c0, by simpa using c1⟩

theorem Tryz.infoRange : (Tryz.prog.info? 101).map (fun i => (i.zero, i.size, i.bytes)) = some (some (.agg #[.int .i64 0, .int .i64 0]), 2, 16) := by kernel_rfl

theorem getD_last (l : List Rg) (h : l ≠ []) : l.getLast? = some (l.getD (l.length - 1) (0, 0)) := by
  rw [List.getLast?_eq_getElem?]
  have : l.length - 1 < l.length := by have := List.length_pos_iff.2 h; omega
  simp [this]

/-- the last range made longer, in its place -/
theorem own_last {w : World} {B g cap : Nat} {l : List Rg} {hi : Int} (h : OwnR w B (.slice (some ⟨g, 0, none⟩) l.length cap) l) (hne : l ≠ []) :
    OwnR (w.setCell ⟨g, (l.length - 1) * 2 + 1, none⟩ (.int .i64 hi)) B (.slice (some ⟨g, 0, none⟩) l.length cap) (l.dropLast ++ [((l.getD (l.length - 1) (0, 0)).1, hi)]) := by
  have hpos := List.length_pos_iff.2 hne
  unfold OwnR at h ⊢
  have hlen : (l.dropLast ++ [((l.getD (l.length - 1) (0, 0)).1, hi)]).length = l.length := by simp; omega
  rw [hlen]
  rcases h.2 with ⟨h', _⟩ | ⟨g', cap', cur, h', hbg, hg, hnc, hcm, hcs, htake⟩
  · simp at h'
  · simp only [Value.slice.injEq, Option.some.injEq, Addr.mk.injEq, and_true, true_and] at h'
    obtain ⟨rfl, rfl⟩ := h'
    refine ⟨by rw [cellsR_len, hlen], Or.inr ⟨g, cap, cur.setIfInBounds ((l.length - 1) * 2 + 1) (.int .i64 hi), rfl, hbg, ?_, hnc, hcm, by simpa using hcs, ?_⟩⟩
    · have hlt : g < w.heap.size := (Array.getElem?_eq_some_iff.1 hg).1
      simp [World.setCell, Array.getElem?_modify, hg]
    · have hs := split_last (getD_last l hne)
      have e1 : cellsR l = cellsR l.dropLast ++ [.int .i64 (l.getD (l.length - 1) (0, 0)).1, .int .i64 (l.getD (l.length - 1) (0, 0)).2] := by
        conv => lhs; rw [hs]
        rw [cellsR_append]; simp [cellsR]
      have e2 : cellsR (l.dropLast ++ [((l.getD (l.length - 1) (0, 0)).1, hi)]) = cellsR l.dropLast ++ [.int .i64 (l.getD (l.length - 1) (0, 0)).1, .int .i64 hi] := by
        rw [cellsR_append]; simp [cellsR]
      have hdl : (cellsR l.dropLast).length = (l.length - 1) * 2 := by rw [cellsR_len]; simp
      rw [e2, Array.toList_setIfInBounds, List.take_set, htake, e1, List.set_append_right _ _ (by omega)]
      have : (l.length - 1) * 2 + 1 - (cellsR l.dropLast).length = 1 := by omega
      rw [this]
      rfl

theorem growL_nil (lo hi : Int) : growL [] lo hi = [(lo, hi)] := rfl
theorem growL_in {l : List Rg} {lo hi : Int} (hne : l ≠ []) (h : (l.getD (l.length - 1) (0, 0)).2 + 1 = lo) : growL l lo hi = l.dropLast ++ [((l.getD (l.length - 1) (0, 0)).1, hi)] := by
  unfold growL; rw [getD_last l hne]; simp only; rw [if_pos h]
theorem growL_out {l : List Rg} {lo hi : Int} (hne : l ≠ []) (h : ¬ (l.getD (l.length - 1) (0, 0)).2 + 1 = lo) : growL l lo hi = l ++ [(lo, hi)] := by
  unfold growL; rw [getD_last l hne]; simp only; rw [if_neg h]

theorem own_snoc {w : World} {B n : Nat} {v : Value} {l : List Rg} {lo hi : Int} (hn : l.length = n) (h : w.ownsRow B 101 2 v (n + 1) (cellsR l ++ [.int .i64 lo, .int .i64 hi])) : OwnR w B v (l ++ [(lo, hi)]) := by
  subst hn
  unfold OwnR
  rw [cellsR_append]
  simpa [cellsR] using h

theorem grown_set {w : World} {g j : Nat} {u : Value} : w.grownBy (w.setCell ⟨g, j, none⟩ u) (some g) :=
  ⟨rfl, rfl, rfl, by simp, fun k hk hne => Below.heap_setCell w ⟨g, j, none⟩ u k (fun e => hne (by rw [e]))⟩

set_option maxHeartbeats 1000000 in
theorem grow_put (B : Nat) (a : Option Addr) (n c : Nat) (l : List Rg) (lo hi : Int) (w : World) (hn : l.length = n) (hown : w.ownsRow B 101 2 (.slice a n c) n (cellsR l)) (hB : B ≤ w.heap.size) (hlen : n ≤ 10000000)
    (hno : n = 0 ∨ ∃ g m, a = some ⟨g, 0, none⟩ ∧ n = m + 1 ∧ ∃ z : Int, w.cell? ⟨g, m * 2 + 1, none⟩ = some (.int .i64 z) ∧ -1 ≤ z ∧ z ≤ 1114112 ∧ (z + 1 == lo) = false) :
    Calls Tryz.prog 112 #[.slice a n c, .int .i64 lo, .int .i64 hi] w fun e w' => ∃ v', e = .returned v' ∧ OwnR w' B v' (l ++ [(lo, hi)]) ∧ w.grownBy w' (Value.slice a n c).ownBlock := by
  obtain ⟨i0, hi0, hz0, hz1, hz2⟩ := info_parts Tryz.infoRange
  rcases hno with rfl | ⟨g, m, rfl, rfl, z, hz, z0, z1, hne⟩
  · go_enter Tryz.func112, Tryz.ntmps112
    go_wp2_with (at_builtin; refine wpList_append_own _ rfl _ _ 33 rfl B 101 i0 (.agg #[.int .i64 0, .int .i64 0]) 2 16 Tryz.underlying33 hi0 hz0 hz1 hz2 rfl (by decide) _ _ _ rfl (hown.alloc _) ⟨w.heap.size, 0, none⟩ 1 1 [.int .i64 lo, .int .i64 hi] rfl rfl ?c1 ?c2 ?c3 ?c4 ?c5 ?_)
    case c1 =>
      intro j u hj
      match j, hj with
      | 0, hj => simp at hj; subst hj; simp [Addr.add]
      | 1, hj => simp at hj; subst hj; simp [Addr.add]
    case c2 => intro u hu; simp at hu; rcases hu with rfl | rfl <;> rfl
    case c3 => unfold maxLen; omega
    case c4 => omega
    case c5 => simp; omega
    · intro v' w1 hown' hgrow _
      have hown3 := own_snoc hn hown'
      have hg3 := (World.grownBy_alloc w _ _).trans hgrow
      clear hown' hgrow
      go_wp2
      go_ret
      exact ⟨_, rfl, hown3, hg3⟩
  · go_enter Tryz.func112, Tryz.ntmps112
    go_wp2_with (at_builtin; refine wpList_append_own _ rfl _ _ 33 rfl B 101 i0 (.agg #[.int .i64 0, .int .i64 0]) 2 16 Tryz.underlying33 hi0 hz0 hz1 hz2 rfl (by decide) _ _ _ rfl (hown.alloc _) ⟨w.heap.size, 0, none⟩ 1 1 [.int .i64 lo, .int .i64 hi] rfl rfl ?c1 ?c2 ?c3 ?c4 ?c5 ?_)
    case c1 =>
      intro j u hj
      match j, hj with
      | 0, hj => simp at hj; subst hj; simp [Addr.add]
      | 1, hj => simp at hj; subst hj; simp [Addr.add]
    case c2 => intro u hu; simp at hu; rcases hu with rfl | rfl <;> rfl
    case c3 => unfold maxLen; omega
    case c4 => omega
    case c5 => simp; omega
    · intro v' w1 hown' hgrow _
      have hown3 := own_snoc hn hown'
      have hg3 := (World.grownBy_alloc w _ _).trans hgrow
      clear hown' hgrow
      go_wp2
      go_ret
      exact ⟨_, rfl, hown3, hg3⟩

set_option maxHeartbeats 1000000 in
theorem grow_last (g m c : Nat) (lo hi z u : Int) (w : World) (hlen : m ≤ 10000000) (hz : w.cell? ⟨g, m * 2 + 1, none⟩ = some (.int .i64 z)) (hf : w.frozen? ⟨g, m * 2 + 1, none⟩ = false) (z0 : -1 ≤ z) (z1 : z ≤ 1114112) (he : (z + 1 == lo) = true) :
    Calls Tryz.prog 112 #[.slice (some ⟨g, 0, none⟩) (m + 1) c, .int .i64 lo, .int .i64 hi] w fun e w' => e = .returned (.slice (some ⟨g, 0, none⟩) (m + 1) c) ∧ w' = w.setCell ⟨g, m * 2 + 1, none⟩ (.int .i64 hi) := by
  go_enter Tryz.func112, Tryz.ntmps112
  go_wp2
  go_ret
  exact ⟨rfl, rfl⟩

theorem grow_any (B : Nat) (v : Value) (l : List Rg) (lo hi : Int) (w : World) (hown : OwnR w B v l) (hB : B ≤ w.heap.size) (hlen : l.length ≤ 10000000) (hbd : ∀ r ∈ l, 0 ≤ r.2 ∧ r.2 ≤ 1114111) :
    Calls Tryz.prog 112 #[v, .int .i64 lo, .int .i64 hi] w fun e w' => ∃ v', e = .returned v' ∧ OwnR w' B v' (growL l lo hi) ∧ w.grownBy w' v.ownBlock := by
  have hown0 := hown
  unfold OwnR at hown
  by_cases hne : l = []
  · subst hne
    rcases hown.2 with ⟨rfl, h0⟩ | ⟨g, cap, cur, rfl, _⟩
    · exact grow_put B none 0 0 [] lo hi w rfl hown hB (by omega) (Or.inl rfl)
    · exact grow_put B _ 0 cap [] lo hi w rfl hown hB (by omega) (Or.inl rfl)
  · have hpos := List.length_pos_iff.2 hne
    obtain ⟨m, hm⟩ : ∃ m, l.length = m + 1 := ⟨l.length - 1, by omega⟩
    have hm1 : l.length - 1 = m := by omega
    rcases hown.2 with ⟨rfl, h0⟩ | ⟨g, cap, cur, rfl, hbg, hg, _⟩
    · omega
    · have hc := (cellsR_get l m (by omega)).2
      have hcell := hown.cellAt (m * 2 + 1) (by omega)
      rw [hc] at hcell
      have hmem : l.getD m (0, 0) ∈ l := by have : m < l.length := by omega
                                            simp [this]
      have hb := hbd _ hmem
      have hfz : w.frozen? ⟨g, m * 2 + 1, none⟩ = false := by simp [World.frozen?, hg]
      by_cases he : (l.getD m (0, 0)).2 + 1 = lo
      · have e1 := growL_in (l := l) (lo := lo) (hi := hi) hne (by rw [hm1]; exact he)
        rw [e1, hm1]
        have := own_last (hi := hi) hown0 hne
        rw [hm1] at this
        rw [hm] at this ⊢
        refine (grow_last g m cap lo hi _ 0 w (by omega) hcell hfz (by omega) (by omega) (by rw [beq_iff_eq]; exact he)).mono ?_
        rintro e w' ⟨rfl, rfl⟩
        exact ⟨_, rfl, this, grown_set⟩
      · rw [growL_out hne (by rw [hm1]; exact he)]
        exact grow_put B _ _ cap l lo hi w rfl hown hB hlen (Or.inr ⟨g, m, rfl, hm, _, hcell, by omega, by omega, by rw [beq_eq_false_iff_ne]; exact he⟩)

end Go.Proofs.YtbjohedenfindaaGreatDoor

namespace Go.Proofs.YtbjohedenfindaaGreatDoor
open Go.RowKit
set_option linter.unusedVariables false
set_option maxRecDepth 100000

theorem wrap_k64' (n : Int) (h0 : -9223372036854775808 ≤ n) (h1 : n ≤ 9223372036854775807) : IntKind.i64.wrap n = n := by
  simp [IntKind.wrap, IntKind.bits, IntKind.signed]
  split <;> omega

theorem add_off' (g o j : Nat) : (⟨g, o, none⟩ : Addr).add j = ⟨g, o + j, none⟩ := by
  unfold Addr.add
  split <;> simp_all
theorem new_cell (W : World) (cs : Array Value) (e n j : Nat) (h : W.heap.size = n) : (W.alloc (.cells cs e)).cell? ⟨n, j, none⟩ = cs[j]? := by
  rw [World.cell?_alloc_at _ _ _ _ h.symm]

set_option maxHeartbeats 1000000 in
theorem extend_zero (B : Nat) (a : Option Addr) (c : Nat) (lo hi : Int) (w : World) (hown : w.ownsRow B 101 2 (.slice a 0 c) 0 (cellsR [])) (hB : B ≤ w.heap.size) :
    Calls Tryz.prog 135 #[.slice a 0 c, .agg #[.int .i64 lo, .int .i64 hi]] w fun e w' => ∃ v', e = .returned v' ∧ OwnR w' B v' [(lo, hi)] ∧ w.grownBy w' (Value.slice a 0 c).ownBlock := by
  obtain ⟨i0, hi0, hz0, hz1, hz2⟩ := info_parts Tryz.infoRange
  go_enter Tryz.func135, Tryz.ntmps135
  go_wp2
  go_quiet (fail)
  go_wp2_with (at_builtin; refine wpList_append_own _ rfl _ _ 33 rfl B 101 i0 (.agg #[.int .i64 0, .int .i64 0]) 2 16 Tryz.underlying33 hi0 hz0 hz1 hz2 rfl (by decide) _ 0 (cellsR []) rfl ?c0 ⟨w.heap.size + 1, 0, none⟩ 1 1 [.int .i64 lo, .int .i64 hi] rfl rfl ?c1 ?c2 ?c3 ?c4 ?c5 ?_)
  case c0 => exact (hown.alloc _).alloc _
  case c1 =>
    intro j u hj
    match j, hj with
    | 0, hj => simp at hj; subst hj; rw [add_off', new_cell _ _ _ _ _ (by show (w.alloc _).heap.size = _; simp)]; rfl
    | 1, hj => simp at hj; subst hj; rw [add_off', new_cell _ _ _ _ _ (by show (w.alloc _).heap.size = _; simp)]; rfl
  case c2 => intro u hu; simp at hu; rcases hu with rfl | rfl <;> rfl
  case c3 => unfold maxLen; omega
  case c4 => omega
  case c5 => simp; omega
  · intro v' w1 hown' hgrow _
    have hown3 := own_snoc (l := []) rfl hown'
    have hg3 := ((World.grownBy_alloc w _ _).trans (World.grownBy_alloc _ _ _)).trans (row := (Value.slice a 0 c).ownBlock) (c := w1) ⟨hgrow.os, hgrow.tape, hgrow.output, hgrow.size, hgrow.block⟩
    clear hown' hgrow
    go_wp2
    go_ret
    exact ⟨_, rfl, hown3, hg3⟩

set_option maxHeartbeats 1000000 in
theorem extend_put (B g m c : Nat) (l : List Rg) (lo hi z : Int) (w : World) (hn : l.length = m + 1) (hown : w.ownsRow B 101 2 (.slice (some ⟨g, 0, none⟩) (m + 1) c) (m + 1) (cellsR l)) (hB : B ≤ w.heap.size) (hlen : m ≤ 1000000) (hg : g < w.heap.size)
    (hz : w.cell? ⟨g, m * 2 + 1, none⟩ = some (.int .i64 z)) (z0 : -1 ≤ z) (z1 : z ≤ 1114112) (hne : (z + 1 == lo) = false) :
    Calls Tryz.prog 135 #[.slice (some ⟨g, 0, none⟩) (m + 1) c, .agg #[.int .i64 lo, .int .i64 hi]] w fun e w' => ∃ v', e = .returned v' ∧ OwnR w' B v' (l ++ [(lo, hi)]) ∧ w.grownBy w' (some g) := by
  obtain ⟨i0, hi0, hz0, hz1, hz2⟩ := info_parts Tryz.infoRange
  have hwr : IntKind.i64.wrap (z + 1) = z + 1 := wrap_k64' _ (by omega) (by omega)
  have hcb : (w.alloc (.cells #[.int .i64 lo, .int .i64 hi] 101)).cell? ⟨g, m * 2 + 1, none⟩ = some (.int .i64 z) := by
    rw [World.cell?_alloc_past _ _ _ hg]; exact hz
  go_enter Tryz.func135, Tryz.ntmps135
  go_wp2
  go_quiet (fail)
  go_wp2_with (at_builtin; refine wpList_append_own _ rfl _ _ 33 rfl B 101 i0 (.agg #[.int .i64 0, .int .i64 0]) 2 16 Tryz.underlying33 hi0 hz0 hz1 hz2 rfl (by decide) _ (m + 1) (cellsR l) rfl ?c0 ⟨w.heap.size + 1, 0, none⟩ 1 1 [.int .i64 lo, .int .i64 hi] rfl rfl ?c1 ?c2 ?c3 ?c4 ?c5 ?_)
  case c0 => exact (hown.alloc _).alloc _
  case c1 =>
    intro j u hj
    match j, hj with
    | 0, hj => simp at hj; subst hj; rw [add_off', new_cell _ _ _ _ _ (by show (w.alloc _).heap.size = _; simp)]; rfl
    | 1, hj => simp at hj; subst hj; rw [add_off', new_cell _ _ _ _ _ (by show (w.alloc _).heap.size = _; simp)]; rfl
  case c2 => intro u hu; simp at hu; rcases hu with rfl | rfl <;> rfl
  case c3 => unfold maxLen; omega
  case c4 => omega
  case c5 => simp; omega
  · intro v' w1 hown' hgrow _
    have hown3 := own_snoc hn hown'
    have hg3 := ((World.grownBy_alloc w _ _).trans (World.grownBy_alloc _ _ _)).trans (row := some g) (c := w1) ⟨hgrow.os, hgrow.tape, hgrow.output, hgrow.size, hgrow.block⟩
    clear hown' hgrow
    go_wp2
    go_ret
    exact ⟨_, rfl, hown3, hg3⟩

set_option maxHeartbeats 1000000 in
theorem extend_last (g m c : Nat) (lo hi z : Int) (w : World) (hlen : m ≤ 1000000) (hg : g < w.heap.size) (hz : w.cell? ⟨g, m * 2 + 1, none⟩ = some (.int .i64 z)) (hf : w.frozen? ⟨g, m * 2 + 1, none⟩ = false) (z0 : -1 ≤ z) (z1 : z ≤ 1114112) (he : (z + 1 == lo) = true) :
    Calls Tryz.prog 135 #[.slice (some ⟨g, 0, none⟩) (m + 1) c, .agg #[.int .i64 lo, .int .i64 hi]] w fun e w' => e = .returned (.slice (some ⟨g, 0, none⟩) (m + 1) c) ∧ ∃ n, w' = ((w.alloc (.cells #[.int .i64 lo, .int .i64 hi] 101)).drewN n).setCell ⟨g, m * 2 + 1, none⟩ (.int .i64 hi) := by
  have hwr : IntKind.i64.wrap (z + 1) = z + 1 := wrap_k64' _ (by omega) (by omega)
  have hcb : (w.alloc (.cells #[.int .i64 lo, .int .i64 hi] 101)).cell? ⟨g, m * 2 + 1, none⟩ = some (.int .i64 z) := by
    rw [World.cell?_alloc_past _ _ _ hg]; exact hz
  have hfb : (w.alloc (.cells #[.int .i64 lo, .int .i64 hi] 101)).frozen? ⟨g, m * 2 + 1, none⟩ = false := by
    rw [World.frozen?_alloc_old _ _ _ (Nat.ne_of_lt hg)]; exact hf
  go_enter Tryz.func135, Tryz.ntmps135
  go_wp2
  go_quiet (fail)
  go_wp2
  go_ret
  exact ⟨rfl, _, rfl⟩

theorem extend_any (B : Nat) (v : Value) (l : List Rg) (lo hi : Int) (w : World) (hown : OwnR w B v l) (hB : B ≤ w.heap.size) (hlen : l.length ≤ 1000000) (hbd : ∀ r ∈ l, 0 ≤ r.2 ∧ r.2 ≤ 1114111) :
    Calls Tryz.prog 135 #[v, .agg #[.int .i64 lo, .int .i64 hi]] w fun e w' => ∃ v', e = .returned v' ∧ OwnR w' B v' (growL l lo hi) ∧ w.grownBy w' v.ownBlock := by
  have hown0 := hown
  unfold OwnR at hown
  by_cases hne : l = []
  · subst hne
    rcases hown.2 with ⟨rfl, h0⟩ | ⟨g, cap, cur, rfl, _⟩
    · exact extend_zero B none 0 lo hi w hown hB
    · exact extend_zero B _ cap lo hi w hown hB
  · have hpos := List.length_pos_iff.2 hne
    obtain ⟨m, hm⟩ : ∃ m, l.length = m + 1 := ⟨l.length - 1, by omega⟩
    have hm1 : l.length - 1 = m := by omega
    have hlt := hown.lt
    rcases hown.2 with ⟨rfl, h0⟩ | ⟨g, cap, cur, rfl, hbg, hg, _⟩
    · omega
    · have hc := (cellsR_get l m (by omega)).2
      have hcell := hown.cellAt (m * 2 + 1) (by omega)
      rw [hc] at hcell
      have hgs := (hlt g rfl).2
      have hmem : l.getD m (0, 0) ∈ l := by have : m < l.length := by omega
                                            simp [this]
      have hb := hbd _ hmem
      have hfz : w.frozen? ⟨g, m * 2 + 1, none⟩ = false := by simp [World.frozen?, hg]
      by_cases he : (l.getD m (0, 0)).2 + 1 = lo
      · have e1 := growL_in (l := l) (lo := lo) (hi := hi) hne (by rw [hm1]; exact he)
        rw [e1, hm1, hm]
        refine (extend_last g m cap lo hi _ w (by omega) hgs hcell hfz (by omega) (by omega) (by rw [beq_iff_eq]; exact he)).mono ?_
        rintro e w' ⟨rfl, n, rfl⟩
        have hO : OwnR ((w.alloc (.cells #[.int .i64 lo, .int .i64 hi] 101)).drewN n) B (.slice (some ⟨g, 0, none⟩) l.length cap) l := World.ownsRow.alloc hown0 _
        have := own_last (hi := hi) hO hne
        rw [hm1] at this
        rw [hm] at this
        refine ⟨_, rfl, this, ?_⟩
        have g1 := World.grownBy_alloc w (.cells #[.int .i64 lo, .int .i64 hi] 101) (some g)
        have g2 := grown_set (w := (w.alloc (.cells #[.int .i64 lo, .int .i64 hi] 101)).drewN n) (g := g) (j := m * 2 + 1) (u := .int .i64 hi)
        exact g1.trans (row := some g) ⟨g2.os, g2.tape, g2.output, g2.size, g2.block⟩
      · rw [growL_out hne (by rw [hm1]; exact he), hm]
        rw [hm] at hown
        exact extend_put B g m cap l lo hi _ w hm hown hB (by omega) hgs hcell (by omega) (by omega) (by rw [beq_eq_false_iff_ne]; exact he)

end Go.Proofs.YtbjohedenfindaaGreatDoor
