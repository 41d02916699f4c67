/- Texts of the proof, put together: SetsC, PSort, RHas. -/
import Derived.Test.YtbjohedenfindaaGreatDoorPw01
import Derived.WalkKit
import Derived.WalkSpells
import Derived.WalkLawsBesides
import Derived.Test.YtbjohedenfindaaGreatDoorProg
import Derived.BigQuiet
import Derived.Deep.QuietTactic
namespace Go.Proofs.YtbjohedenfindaaGreatDoor
set_option linter.unusedVariables false

def insL : List Int → Int → List Int
  | [], n => [n]
  | x :: t, n => if x < n then x :: insL t n else if x = n then x :: t else n :: x :: t

theorem insL_mem : ∀ (l : List Int) (n x : Int), x ∈ insL l n ↔ x = n ∨ x ∈ l
  | [], n, x => by simp [insL]
  | y :: t, n, x => by
    unfold insL
    split
    · have := insL_mem t n x
      simp only [List.mem_cons, this]
      constructor
      · rintro (h | h | h) <;> simp [h]
      · rintro (h | h | h) <;> simp [h]
    · split
      · rename_i h1 h2
        subst h2
        simp only [List.mem_cons]
        constructor
        · rintro (h | h) <;> simp [h]
        · rintro (h | h | h) <;> simp [h]
      · simp only [List.mem_cons]
theorem insL_len : ∀ (l : List Int) (n : Int), (insL l n).length ≤ l.length + 1 ∧ l.length ≤ (insL l n).length
  | [], n => by simp [insL]
  | y :: t, n => by
    unfold insL
    split
    · have := insL_len t n
      simp only [List.length_cons]; omega
    · split <;> simp only [List.length_cons] <;> omega
theorem insL_sorted : ∀ (l : List Int) (n : Int), l.Pairwise (· < ·) → (insL l n).Pairwise (· < ·)
  | [], n, _ => by simp [insL]
  | y :: t, n, h => by
    have h1 := List.pairwise_cons.1 h
    unfold insL
    split
    · rename_i hlt
      refine List.pairwise_cons.2 ⟨fun x hx => ?_, insL_sorted t n h1.2⟩
      rcases (insL_mem t n x).1 hx with rfl | hx
      · exact hlt
      · exact h1.1 x hx
    · split
      · exact h
      · rename_i hn1 hn2
        refine List.pairwise_cons.2 ⟨fun x hx => ?_, h⟩
        rcases List.mem_cons.1 hx with rfl | hx
        · omega
        · have := h1.1 x hx; omega

/-- the walk's form: the place is told -/
theorem insL_at : ∀ (l : List Int) (n : Int) (k : Nat), k ≤ l.length → (∀ j, j < k → l.getD j 0 < n) → (k < l.length → n ≤ l.getD k 0) →
    insL l n = if k < l.length ∧ l.getD k 0 = n then l else l.take k ++ n :: l.drop k
  | [], n, k, hk, _, _ => by
    have : k = 0 := by simpa using hk
    subst this
    simp [insL]
  | y :: t, n, 0, _, _, h2 => by
    have := h2 (by simp)
    simp at this
    unfold insL
    rw [if_neg (by omega)]
    by_cases e : y = n
    · simp [e]
    · simp [e]
  | y :: t, n, k + 1, hk, h1, h2 => by
    have hy := h1 0 (by omega)
    simp at hy
    have ih := insL_at t n k (by simpa using hk) (fun j hj => by have := h1 (j + 1) (by omega); simpa using this) (fun h => by have := h2 (by simpa using h); simpa using this)
    unfold insL
    rw [if_pos hy, ih]
    simp only [List.length_cons, List.getD_cons_succ, List.take_succ_cons, List.drop_succ_cons, Nat.add_lt_add_iff_right]
    split <;> simp

structure Cuts (e : List Int) : Prop where
  sorted : e.Pairwise (· < ·)
  zero : (0 : Int) ∈ e
  top : (1114112 : Int) ∈ e
  bd : ∀ x ∈ e, 0 ≤ x ∧ x ≤ 1114112

theorem Cuts.ends : Cuts [0, 1114112] := ⟨by simp, by simp, by simp, by simp⟩
theorem Cuts.ins {e : List Int} (h : Cuts e) (n : Int) (h0 : 0 ≤ n) (h1 : n ≤ 1114112) : Cuts (insL e n) :=
  ⟨insL_sorted e n h.sorted, (insL_mem _ _ _).2 (Or.inr h.zero), (insL_mem _ _ _).2 (Or.inr h.top), fun x hx => by
    rcases (insL_mem _ _ _).1 hx with rfl | hx
    · exact ⟨h0, h1⟩
    · exact h.bd x hx⟩

def edgeLo (l : List Int) (r : Rg) : List Int := if 0 < r.1 ∧ r.1 ≤ 1114111 then insL l r.1 else l
def edgeHi (l : List Int) (r : Rg) : List Int := if 0 ≤ r.2 ∧ r.2 < 1114111 then insL l (r.2 + 1) else l
def edgesL : List Int → List Rg → List Int
  | l, [] => l
  | l, r :: t => edgesL (edgeHi (edgeLo l r) r) t
theorem edgesL_snoc : ∀ (s : List Rg) (l : List Int) (r : Rg), edgesL l (s ++ [r]) = edgeHi (edgeLo (edgesL l s) r) r
  | [], l, r => rfl
  | x :: t, l, r => by
    show edgesL _ (t ++ [r]) = _
    rw [edgesL_snoc t]; rfl
theorem edgeLo_cuts {l : List Int} (h : Cuts l) (r : Rg) : Cuts (edgeLo l r) := by
  unfold edgeLo; split
  · exact h.ins _ (by omega) (by omega)
  · exact h
theorem edgeHi_cuts {l : List Int} (h : Cuts l) (r : Rg) : Cuts (edgeHi l r) := by
  unfold edgeHi; split
  · exact h.ins _ (by omega) (by omega)
  · exact h
theorem edgesL_cuts : ∀ (s : List Rg) {l : List Int}, Cuts l → Cuts (edgesL l s)
  | [], _, h => h
  | r :: t, _, h => edgesL_cuts t (edgeHi_cuts (edgeLo_cuts h r) r)
theorem edgeLo_sub (l : List Int) (r : Rg) : ∀ x ∈ l, x ∈ edgeLo l r := fun x hx => by
  unfold edgeLo; split
  · exact (insL_mem _ _ _).2 (Or.inr hx)
  · exact hx
theorem edgeHi_sub (l : List Int) (r : Rg) : ∀ x ∈ l, x ∈ edgeHi l r := fun x hx => by
  unfold edgeHi; split
  · exact (insL_mem _ _ _).2 (Or.inr hx)
  · exact hx
theorem edgesL_sub : ∀ (s : List Rg) (l : List Int), ∀ x ∈ l, x ∈ edgesL l s
  | [], _, _, h => h
  | r :: t, l, x, h => edgesL_sub t _ x (edgeHi_sub _ r x (edgeLo_sub l r x h))
theorem edgesL_len : ∀ (s : List Rg) (l : List Int), (edgesL l s).length ≤ l.length + 2 * s.length
  | [], _ => by simp [edgesL]
  | r :: t, l => by
    have ih := edgesL_len t (edgeHi (edgeLo l r) r)
    have h1 : (edgeLo l r).length ≤ l.length + 1 := by
      unfold edgeLo; split
      · exact (insL_len _ _).1
      · omega
    have h2 : (edgeHi (edgeLo l r) r).length ≤ (edgeLo l r).length + 1 := by
      unfold edgeHi; split
      · exact (insL_len _ _).1
      · omega
    simp only [edgesL, List.length_cons]
    omega

def Covers (e : List Int) (s : List Rg) : Prop := ∀ r ∈ s, (0 < r.1 → r.1 ≤ 1114111 → r.1 ∈ e) ∧ (0 ≤ r.2 → r.2 < 1114111 → r.2 + 1 ∈ e)
theorem Covers.sub {e e' : List Int} {s : List Rg} (h : Covers e s) (hs : ∀ x ∈ e, x ∈ e') : Covers e' s :=
  fun r hr => ⟨fun a b => hs _ ((h r hr).1 a b), fun a b => hs _ ((h r hr).2 a b)⟩
theorem edgesL_covers : ∀ (s : List Rg) (l : List Int), Covers (edgesL l s) s
  | [], _ => by intro r hr; simp at hr
  | r :: t, l => by
    intro x hx
    rcases List.mem_cons.1 hx with rfl | hx
    · refine ⟨fun a b => edgesL_sub t _ _ (edgeHi_sub _ _ _ ?_), fun a b => edgesL_sub t _ _ ?_⟩
      · unfold edgeLo; rw [if_pos ⟨a, b⟩]; exact (insL_mem _ _ _).2 (Or.inl rfl)
      · unfold edgeHi; rw [if_pos ⟨a, b⟩]; exact (insL_mem _ _ _).2 (Or.inl rfl)
    · exact edgesL_covers t _ x hx

theorem sorted_get : ∀ {e : List Int}, e.Pairwise (· < ·) → ∀ i j, i < j → j < e.length → e.getD i 0 < e.getD j 0
  | [], _, _, _, _, h => by simp at h
  | x :: t, hs, 0, j + 1, _, h => by
    have := (List.pairwise_cons.1 hs).1 (t.getD j 0) (by simp at h; simp [h])
    simpa using this
  | x :: t, hs, i + 1, j + 1, hij, h => by
    have := sorted_get (List.pairwise_cons.1 hs).2 i j (by omega) (by simpa using h)
    simpa using this
theorem mem_get {e : List Int} {x : Int} (h : x ∈ e) : ∃ i, i < e.length ∧ e.getD i 0 = x := by
  obtain ⟨i, hi, e1⟩ := List.mem_iff_getElem.1 h
  exact ⟨i, hi, by simp [hi, e1]⟩
theorem next_le {e : List Int} (hs : e.Pairwise (· < ·)) {k : Nat} (hk : k + 1 < e.length) {x : Int} (hx : x ∈ e) (hlt : e.getD k 0 < x) : e.getD (k + 1) 0 ≤ x := by
  obtain ⟨i, hi, rfl⟩ := mem_get hx
  rcases (show i ≤ k ∨ i = k + 1 ∨ k + 1 < i from by omega) with h | h | h
  · rcases (show i < k ∨ i = k from by omega) with h | h
    · have := sorted_get hs i k h (by omega); omega
    · subst h; omega
  · subst h; exact Int.le_refl _
  · have := sorted_get hs (k + 1) i h hi; omega

theorem cut_const {e : List Int} (hc : Cuts e) {s : List Rg} (hv : Covers e s) {k : Nat} (hk : k + 1 < e.length) (p : Int) (h1 : e.getD k 0 ≤ p) (h2 : p ≤ e.getD (k + 1) 0 - 1) : hasL s p = hasL s (e.getD k 0) := by
  have hm : ∀ i, i < e.length → e.getD i 0 ∈ e := fun i hi => by simp [hi]
  have b0 := hc.bd _ (hm k (by omega))
  have b1 := hc.bd _ (hm (k + 1) hk)
  rw [Bool.eq_iff_iff, hasL_iff, hasL_iff]
  constructor
  · rintro ⟨r, hr, a1, a2⟩
    refine ⟨r, hr, ?_, by omega⟩
    rcases (show r.1 ≤ e.getD k 0 ∨ e.getD k 0 < r.1 from by omega) with h | h
    · exact h
    · exfalso
      have := next_le hc.sorted hk ((hv r hr).1 (by omega) (by omega)) h
      omega
  · rintro ⟨r, hr, a1, a2⟩
    refine ⟨r, hr, by omega, ?_⟩
    rcases (show p ≤ r.2 ∨ r.2 < p from by omega) with h | h
    · exact h
    · exfalso
      have := next_le hc.sorted hk ((hv r hr).2 (by omega) (by omega)) (by omega)
      omega

theorem cuts_len {e : List Int} (hc : Cuts e) : 2 ≤ e.length := by
  obtain ⟨i, hi, h1⟩ := mem_get hc.zero
  obtain ⟨j, hj, h2⟩ := mem_get hc.top
  have : i ≠ j := by rintro rfl; omega
  omega
theorem cuts_first {e : List Int} (hc : Cuts e) : e.getD 0 0 = 0 := by
  obtain ⟨i, hi, h1⟩ := mem_get hc.zero
  have hm : e.getD 0 0 ∈ e := by have : 0 < e.length := by omega
                                 simp [this]
  have hb := hc.bd _ hm
  rcases Nat.eq_zero_or_pos i with h | h
  · subst h; exact h1
  · have := sorted_get hc.sorted 0 i h hi; omega
theorem cuts_last {e : List Int} (hc : Cuts e) (k : Nat) (hk : k + 1 = e.length) : e.getD k 0 = 1114112 := by
  obtain ⟨i, hi, h1⟩ := mem_get hc.top
  have hm : e.getD k 0 ∈ e := by have : k < e.length := by omega
                                 simp [this]
  have hb := hc.bd _ hm
  rcases (show i < k ∨ i = k from by omega) with h | h
  · have := sorted_get hc.sorted i k h (by omega); omega
  · subst h; exact h1

theorem cut_step {e : List Int} (hc : Cuts e) {k : Nat} (hk : k + 1 < e.length) {out : List Rg} {f : Int → Bool} (hu : Upto out (e.getD k 0) f) (hf : ∀ p, e.getD k 0 ≤ p → p ≤ e.getD (k + 1) 0 - 1 → f p = f (e.getD k 0)) :
    Upto (if f (e.getD k 0) then growL out (e.getD k 0) (e.getD (k + 1) 0 - 1) else out) (e.getD (k + 1) 0) f := by
  have hlt := sorted_get hc.sorted k (k + 1) (by omega) hk
  have hb := hc.bd (e.getD k 0) (by have : k < e.length := by omega
                                    simp [this])
  have e1 : e.getD (k + 1) 0 - 1 + 1 = e.getD (k + 1) 0 := by omega
  split
  · rename_i hw
    have := hu.grow hb.1 (hi := e.getD (k + 1) 0 - 1) (by omega) (fun p h1 h2 => by rw [hf p h1 h2, hw])
    rw [e1] at this; exact this
  · rename_i hw
    have := hu.skip (hi := e.getD (k + 1) 0 - 1) (by omega) (fun p h1 h2 => by rw [hf p h1 h2]; simpa using hw)
    rw [e1] at this; exact this

theorem hasB_in (l : List Rg) (p : Int) (h0 : 0 ≤ p) (h1 : p ≤ 1114111) : hasB l p = hasL l p := by simp [hasB, h0, h1]

end Go.Proofs.YtbjohedenfindaaGreatDoor

namespace Go.Proofs.YtbjohedenfindaaGreatDoor
open Go.Shelf Go.RowKit Go.Lib Go.Sort
set_option linter.unusedVariables false
set_option maxRecDepth 100000

def encE (x : Eg) : List Value := [.int .i64 x.1, .int .i64 x.2.1, .int .i64 x.2.2]
def cellsE (E : List Eg) : List Value := E.flatMap encE
theorem cellsE_append (a b : List Eg) : cellsE (a ++ b) = cellsE a ++ cellsE b := by simp [cellsE]
theorem cellsE_get : ∀ (l : List Eg) (j c : Nat), j < l.length → c < 3 → (cellsE l)[j * 3 + c]? = (encE (l.getD j (0, 0, 0)))[c]?
  | [], j, c, h, _ => by simp at h
  | r :: t, 0, c, _, hc => by
    have e : cellsE (r :: t) = encE r ++ cellsE t := by simp [cellsE]
    rw [e, List.getElem?_append_left (by simp [encE]; omega)]
    simp
  | r :: t, j + 1, c, h, hc => by
    have ih := cellsE_get t j c (by simpa using h) hc
    have e : cellsE (r :: t) = encE r ++ cellsE t := by simp [cellsE]
    rw [e, List.getElem?_append_right (by simp [encE]; omega)]
    have e2 : (j + 1) * 3 + c - (encE r).length = j * 3 + c := by simp [encE]; omega
    rw [e2, ih]
    simp

def OwnE (w : World) (B : Nat) (v : Value) (E : List Eg) : Prop := w.ownsRow B 207 3 v E.length (cellsE E)

/-- edges that lie in a row of the call's own, to be read -/
def EdgesAt (w : World) (B : Nat) (v : Value) (E : List Eg) : Prop :=
  (E = [] ∧ ∃ a c, v = .slice a 0 c) ∨ ∃ g c, v = .slice (some ⟨g, 0, none⟩) E.length c ∧ B ≤ g ∧ (∃ cur, w.heap[g]? = some (.cells cur 207 (0, 0))) ∧ ∀ j, j < E.length → ∀ c, c < 3 → w.cell? ⟨g, j * 3 + c, none⟩ = (encE (E.getD j (0, 0, 0)))[c]?

theorem ltAt (x y : Eg) : ltOf (fun x y : Eg => Lib.compareInt x.1 y.1) x y = decide (x.1 < y.1) := by
  unfold ltOf Lib.compareInt
  by_cases h1 : x.1 < y.1
  · simp [h1]
  · by_cases h2 : y.1 < x.1 <;> simp [h1, h2]
theorem swoAt : SWO (ltOf fun x y : Eg => Lib.compareInt x.1 y.1) := {
  irrefl := fun x => by rw [ltAt]; simp
  trans := fun x y z h1 h2 => by rw [ltAt] at *; simp at *; omega
  ntrans := fun x y z h1 h2 => by rw [ltAt] at *; simp at *; omega }

set_option maxHeartbeats 1000000 in
theorem cmp_edges (x y : Eg) (W : World) : Calls Tryz.prog 167 #[.agg #[.int .i64 x.1, .int .i64 x.2.1, .int .i64 x.2.2], .agg #[.int .i64 y.1, .int .i64 y.2.1, .int .i64 y.2.2]] W fun e w' => e = .returned (.int .i64 (Lib.compareInt x.1 y.1)) ∧ ∃ q os', w' = grow (W.drewN q) os' := by
  have hcon := fun W' => Tryz.cmp_Compare_int x.1 y.1 W'
  generalize Lib.compareInt x.1 y.1 = r at hcon ⊢
  go_enter Tryz.func167, Tryz.ntmps167
  go_wp2_with (go_at_call 168; refine (hcon _).mono ?_; rintro e w' ⟨rfl, rfl⟩)
  go_ret
  exact ⟨rfl, 0, _, by rw [alloc_eq_grow, alloc_eq_grow, grow_grow]; rfl⟩

theorem cmpLays (blk off size : Nat) (w : World) : CmpLays Tryz.prog 167 #[] encE 3 (fun x y => Lib.compareInt x.1 y.1) blk off size w :=
  fun _ _ _ _ x y => cmp_edges x y _

theorem sort_some (g cap : Nat) (d : Array Eg) (w : World) (hH : HoldsK encE 3 w g 0 d) (hblk : g < w.heap.size) (hsz : d.size < 4611686018427387904) :
    Calls Tryz.prog 166 #[.slice (some ⟨g, 0, none⟩) d.size cap, .func (.func 167) #[] #[]] w fun e w' => e = .returned (.tuple #[]) ∧ ∃ d' n os, PermIn 0 d.size d d' ∧ SortedIn (ltOf fun x y : Eg => Lib.compareInt x.1 y.1) 0 d.size d' ∧ w' = sortWorldK encE 3 w g 0 n d' os := by
  have eg : ∀ args w, (callFunc 167 args).run Tryz.prog w = .ok (.enter 167 args) w := enters_of Tryz.func167 (by kernel_rfl) rfl
  have hcon := AnyQ.slices_SortFunc Tryz.sortEdge 3 Tryz.isAgg207 Tryz.sizeOf207 encE (fun _ => rfl) (fun x v hv => by simp [encE] at hv; rcases hv with rfl | rfl | rfl <;> rfl) (fun x y => Lib.compareInt x.1 y.1) swoAt 167 #[] g 0 cap d w eg (cmpLays g 0 d.size w) hH hblk hsz
  change Calls Tryz.prog 166 _ _ _ at hcon
  exact hcon

end Go.Proofs.YtbjohedenfindaaGreatDoor

namespace Go.Proofs.YtbjohedenfindaaGreatDoor
open Go.RowKit
set_option linter.unusedVariables false
set_option maxRecDepth 100000

/-- what the walk is told of a slice of ranges -/
def Rngs (w : World) (v : Value) (l : List Rg) : Prop :=
  (l = [] ∧ ∃ a c, v = .slice a 0 c) ∨ ∃ b off c, v = .slice (some ⟨b, off, none⟩) l.length c ∧ b < w.heap.size ∧ ∀ j, j < l.length → w.cell? ⟨b, off + j * 2, none⟩ = some (.int .i64 (l.getD j (0, 0)).1) ∧ w.cell? ⟨b, off + j * 2 + 1, none⟩ = some (.int .i64 (l.getD j (0, 0)).2)

theorem hasL_take (l : List Rg) (k : Nat) (p : Int) (h : k < l.length) : hasL (l.take (k + 1)) p = (hasL (l.take k) p || inR p (l.getD k (0, 0))) := by
  rw [List.take_succ_eq_append_getElem h, hasL_append]
  simp [hasL, h]
theorem hasL_of_take (l : List Rg) (k : Nat) (p : Int) (h : hasL (l.take k) p = true) : hasL l p = true := by
  obtain ⟨r, hr, h1⟩ := (hasL_iff _ _).1 h
  exact (hasL_iff _ _).2 ⟨r, List.mem_of_mem_take hr, h1⟩

set_option maxHeartbeats 400000 in
theorem rhas_out (v : Value) (p : Int) (l : List Rg) (w : World) (h : p < 0 ∨ 1114111 < p) :
    Calls Tryz.prog 67 #[v, .int .i64 p] w fun e w' => e = .returned (.bool (hasB l p)) ∧ w' = w := by
  have HB : Hid (hasB l p = false) := by
    show _ = _
    unfold hasB
    rcases h with h | h
    · have : decide (0 ≤ p) = false := by simp; omega
      simp [this]
    · have : decide (p ≤ 1114111) = false := by simp; omega
      simp [this]
  rcases h with h | h
  · go_enter Tryz.func67, Tryz.ntmps67
    go_wp2
    go_ret
    exact ⟨by rw [HB.out]; rfl, rfl⟩
  · have h0 : ¬ p < 0 := by omega
    go_enter Tryz.func67, Tryz.ntmps67
    go_wp2
    go_ret
    exact ⟨by rw [HB.out]; rfl, rfl⟩

set_option maxHeartbeats 1000000 in
theorem rhas_row (b off c : Nat) (p : Int) (l : List Rg) (w : World) (hl : l.length ≤ 1000000) (h0 : 0 ≤ p) (h1 : p ≤ 1114111) (hb : b < w.heap.size) (hc : ∀ j, j < l.length → w.cell? ⟨b, off + j * 2, none⟩ = some (.int .i64 (l.getD j (0, 0)).1) ∧ w.cell? ⟨b, off + j * 2 + 1, none⟩ = some (.int .i64 (l.getD j (0, 0)).2)) :
    Calls Tryz.prog 67 #[.slice (some ⟨b, off, none⟩) l.length c, .int .i64 p] w fun e w' => e = .returned (.bool (hasB l p)) ∧ w' = w := by
  have HB : Hid (hasB l p = hasL l p) := hasB_in l p h0 h1
  have hn0 : ¬ p < 0 := by omega
  have hn1 : ¬ 1114111 < p := by omega
  go_enter Tryz.func67, Tryz.ntmps67
  go_wp2
  go_loop [5] (fun i => ∃ k : Nat, k ≤ l.length ∧ i = .int .i64 k ∧ hasL (l.take k) p = false) (fun i => l.length - (intOf i).toNat)
  case atStart => exact ⟨0, Nat.zero_le _, rfl, rfl⟩
  case round =>
    obtain ⟨k, hk, rfl, hno0⟩ := hrel
    have HN : Hid (hasL (l.take k) p = false) := hno0
    clear hno0
    by_cases hlt : k < l.length
    · obtain ⟨c0, c1⟩ := hc k hlt
      clear hc
      have ht := hasL_take l k p hlt
      generalize hr : l.getD k (0, 0) = r at *
      have HR : Hid (l.getD k (0, 0) = r) := hr
      clear hr
      by_cases g1 : r.1 ≤ p
      · by_cases g2 : p ≤ r.2
        · have HS : Hid (hasL l p = true) := by
            refine hasL_of_take l (k + 1) p ?_
            rw [ht]; simp [inR, g1, g2]
          clear ht
          go_wp2
          go_ret
          exact ⟨by rw [HB.out, HS.out]; rfl, rfl⟩
        · have HS : Hid (hasL (l.take (k + 1)) p = false) := by
            show _ = _
            rw [ht, HN.out]; simp [inR]; omega
          clear ht
          go_wp2
          go_round
          case rel => exact ⟨k + 1, by omega, by go_num, HS.out⟩
          case measure => simp [intOf]; omega
      · have HS : Hid (hasL (l.take (k + 1)) p = false) := by
          show _ = _
          rw [ht, HN.out]; simp [inR]; omega
        clear ht
        go_wp2
        go_round
        case rel => exact ⟨k + 1, by omega, by go_num, HS.out⟩
        case measure => simp [intOf]; omega
    · have HS : Hid (hasL l p = false) := by
        have := HN.out; rw [List.take_of_length_le (by omega)] at this; exact this
      go_wp2
      go_ret
      exact ⟨by rw [HB.out, HS.out]; rfl, rfl⟩

set_option maxHeartbeats 400000 in
theorem rhas_empty (a : Option Addr) (c : Nat) (p : Int) (w : World) (h0 : 0 ≤ p) (h1 : p ≤ 1114111) :
    Calls Tryz.prog 67 #[.slice a 0 c, .int .i64 p] w fun e w' => e = .returned (.bool (hasB [] p)) ∧ w' = w := by
  have HB : Hid (hasB [] p = false) := by show _ = _; simp [hasB, hasL]
  have hn0 : ¬ p < 0 := by omega
  have hn1 : ¬ 1114111 < p := by omega
  go_enter Tryz.func67, Tryz.ntmps67
  go_wp2
  refine wp_loop_rounds 1 ?_
  rw [rounds_succ]
  go_wp2
  go_ret
  exact ⟨by rw [HB.out]; rfl, rfl⟩

theorem rhas_any (v : Value) (p : Int) (l : List Rg) (w : World) (hl : l.length ≤ 1000000) (hv : Rngs w v l) :
    Calls Tryz.prog 67 #[v, .int .i64 p] w fun e w' => e = .returned (.bool (hasB l p)) ∧ w' = w := by
  by_cases hp : p < 0 ∨ 1114111 < p
  · exact rhas_out v p l w hp
  · rcases hv with ⟨rfl, a, c, rfl⟩ | ⟨b, off, c, rfl, hb, hc⟩
    · exact rhas_empty a c p w (by omega) (by omega)
    · exact rhas_row b off c p l w hl (by omega) (by omega) hb hc

end Go.Proofs.YtbjohedenfindaaGreatDoor
