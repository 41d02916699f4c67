/- Texts of the proof, put together: GLiv, GRow, GLvR, GRwB, GHav. -/
import Derived.Test.YtmkimaceioacgaaDoorGk04
import Derived.Test.YtmkimaceioacgaaDoorGk01
import Derived.Laws.MakeOwn
import Derived.Test.YtmkimaceioacgaaDoorGk03
namespace Go.Proofs.YtmkimaceioacgaaDoor
set_option linter.unusedVariables false

/-- each symbol of a row has a tree -/
def hasB (leaf : Bool) (f : Nat → Bool) (r : List Int) : Bool := r.all fun s => if s < 0 then f (-1 - s).toNat else leaf
theorem hasB_mono {leaf : Bool} {f g : Nat → Bool} (h : ∀ n, f n = true → g n = true) (r : List Int) (hf : hasB leaf f r = true) : hasB leaf g r = true := by
  unfold hasB at *
  rw [List.all_eq_true] at *
  intro s hs
  have := hf s hs
  by_cases h0 : s < 0
  · rw [if_pos h0] at this ⊢; exact h _ this
  · rw [if_neg h0] at this ⊢; exact this
/-- what the productions of a name say -/
def saysB (leaf : Bool) (ps : List PrS) (f : Nat → Bool) (n : Nat) : Bool := ps.any fun p => decide (p.left = n) && hasB leaf f p.right
theorem saysB_iff (leaf : Bool) (ps : List PrS) (f : Nat → Bool) (n : Nat) : saysB leaf ps f n = true ↔ ∃ p ∈ ps, p.left = n ∧ hasB leaf f p.right = true := by
  unfold saysB
  rw [List.any_eq_true]
  constructor
  · rintro ⟨p, hp, h⟩
    rw [Bool.and_eq_true, decide_eq_true_eq] at h
    exact ⟨p, hp, h.1, h.2⟩
  · rintro ⟨p, hp, h1, h2⟩
    exact ⟨p, hp, by rw [Bool.and_eq_true, decide_eq_true_eq]; exact ⟨h1, h2⟩⟩
theorem saysB_mono {leaf : Bool} {ps : List PrS} {f g : Nat → Bool} (h : ∀ n, f n = true → g n = true) (n : Nat) (hf : saysB leaf ps f n = true) : saysB leaf ps g n = true := by
  rw [saysB_iff] at *
  obtain ⟨p, hp, h1, h2⟩ := hf
  exact ⟨p, hp, h1, hasB_mono h _ h2⟩
/-- .. by trees of so great a height -/
def hgtB (leaf : Bool) (ps : List PrS) : Nat → Nat → Bool
  | 0, _ => false
  | h + 1, n => saysB leaf ps (hgtB leaf ps h) n
theorem hgtB_up (leaf : Bool) (ps : List PrS) : ∀ (h n : Nat), hgtB leaf ps h n = true → hgtB leaf ps (h + 1) n = true
  | 0, n, h => by simp [hgtB] at h
  | h + 1, n, hh => saysB_mono (fun m hm => hgtB_up leaf ps h m hm) n hh
theorem hgtB_le (leaf : Bool) (ps : List PrS) {h k : Nat} (hk : h ≤ k) (n : Nat) (hh : hgtB leaf ps h n = true) : hgtB leaf ps k n = true := by
  induction k with
  | zero => obtain rfl : h = 0 := by omega
            exact hh
  | succ k ih =>
    by_cases e : h = k + 1
    · subst e; exact hh
    · exact hgtB_up leaf ps k n (ih (by omega))
/-- facts that follow from trees, and facts from which nothing more follows -/
def SoundB (leaf : Bool) (ps : List PrS) (f : Nat → Bool) : Prop := ∀ n, f n = true → ∃ h, hgtB leaf ps h n = true
def ClosedB (leaf : Bool) (ps : List PrS) (f : Nat → Bool) : Prop := ∀ p ∈ ps, hasB leaf f p.right = true → f p.left = true
theorem ClosedB.le {leaf : Bool} {ps : List PrS} {f : Nat → Bool} (hc : ClosedB leaf ps f) : ∀ h n, hgtB leaf ps h n = true → f n = true
  | 0, n, h => by simp [hgtB] at h
  | h + 1, n, hh => by
    have hh' : saysB leaf ps (hgtB leaf ps h) n = true := hh
    rw [saysB_iff] at hh'
    obtain ⟨p, hp, rfl, h2⟩ := hh'
    exact hc p hp (hasB_mono (hc.le h) _ h2)
theorem bools_unique {leaf : Bool} {ps : List PrS} {f g : Nat → Bool} (cf : ClosedB leaf ps f) (sf : SoundB leaf ps f) (cg : ClosedB leaf ps g) (sg : SoundB leaf ps g) : ∀ n, f n = g n := fun n => by
  rw [Bool.eq_iff_iff]
  constructor
  · intro h
    obtain ⟨k, hk⟩ := sf n h
    exact cg.le k n hk
  · intro h
    obtain ⟨k, hk⟩ := sg n h
    exact cf.le k n hk
theorem SoundB.step {leaf : Bool} {ps : List PrS} {f : Nat → Bool} (hs : SoundB leaf ps f) {p : PrS} (hp : p ∈ ps) (h : hasB leaf f p.right = true) : ∃ k, hgtB leaf ps k p.left = true := by
  have hrow : ∀ r : List Int, hasB leaf f r = true → ∃ k, hasB leaf (hgtB leaf ps k) r = true := by
    intro r
    induction r with
    | nil => intro _; exact ⟨0, rfl⟩
    | cons s r ih =>
      intro hr
      have hr' : ((if s < 0 then f (-1 - s).toNat else leaf) && hasB leaf f r) = true := by simpa [hasB] using hr
      rw [Bool.and_eq_true] at hr'
      obtain ⟨k1, h1⟩ := ih hr'.2
      by_cases h0 : s < 0
      · have h2 := hr'.1
        rw [if_pos h0] at h2
        obtain ⟨k2, h2⟩ := hs _ h2
        refine ⟨max k1 k2, ?_⟩
        show (s :: r).all _ = true
        rw [List.all_cons, Bool.and_eq_true, if_pos h0]
        exact ⟨hgtB_le leaf ps (Nat.le_max_right k1 k2) _ h2, hasB_mono (fun m hm => hgtB_le leaf ps (Nat.le_max_left k1 k2) m hm) r h1⟩
      · have h2 := hr'.1
        rw [if_neg h0] at h2
        refine ⟨k1, ?_⟩
        show (s :: r).all _ = true
        rw [List.all_cons, Bool.and_eq_true, if_neg h0]
        exact ⟨h2, h1⟩
  obtain ⟨k, hk⟩ := hrow p.right h
  exact ⟨k + 1, (saysB_iff _ _ _ _).2 ⟨p, hp, rfl, hk⟩⟩
/-- the productions that matter -/
def leafP (leaf : Bool) (ps : List PrS) : List PrS := ps.filter fun p => leaf || p.right.all fun s => decide (s < 0)
theorem rowL_has (f : Nat → Option Nat) : ∀ (r : List Int), (rowL f r).isSome = r.all fun s => if s < 0 then (f (-1 - s).toNat).isSome else true
  | [] => rfl
  | s :: r => by
    rw [List.all_cons, ← rowL_has f r]
    have e : rowL f (s :: r) = (match (if s < 0 then f (-1 - s).toNat else some 1), rowL f r with
      | some a, some b => some (a + b)
      | _, _ => none) := rfl
    rw [e]
    generalize rowL f r = c
    by_cases h0 : s < 0
    · simp only [if_pos h0]
      generalize f (-1 - s).toNat = d
      cases d <;> cases c <;> rfl
    · simp only [if_neg h0]
      cases c <;> rfl
/-- trees by heights, told by lengths -/
theorem hgtB_best (leaf : Bool) (ps : List PrS) : ∀ (h n : Nat), hgtB leaf ps h n = (bestH (leafP leaf ps) h n).isSome
  | 0, n => rfl
  | h + 1, n => by
    have ih := hgtB_best leaf ps h
    rw [Bool.eq_iff_iff]
    show saysB leaf ps (hgtB leaf ps h) n = true ↔ (saysL (leafP leaf ps) (bestH (leafP leaf ps) h) n).isSome = true
    have hcap : ∀ a : Option Nat, (capO a).isSome = a.isSome := fun a => by cases a <;> rfl
    have hrow : ∀ p : PrS, (hasB leaf (hgtB leaf ps h) p.right = true) ↔ ((leaf || p.right.all fun s => decide (s < 0)) = true ∧ (rowL (bestH (leafP leaf ps) h) p.right).isSome = true) := fun p => by
      rw [rowL_has]
      unfold hasB
      simp only [Bool.or_eq_true, List.all_eq_true, decide_eq_true_eq]
      constructor
      · intro hh
        refine ⟨?_, fun s hs => ?_⟩
        · cases leaf with
          | true => exact .inl rfl
          | false =>
            refine .inr fun s hs => ?_
            have := hh s hs
            by_cases h0 : s < 0
            · exact h0
            · rw [if_neg h0] at this; cases this
        · have := hh s hs
          by_cases h0 : s < 0
          · rw [if_pos h0] at this ⊢; rw [← ih]; exact this
          · rw [if_neg h0]
      · rintro ⟨h1, h2⟩ s hs
        have := h2 s hs
        by_cases h0 : s < 0
        · rw [if_pos h0] at this ⊢; rw [ih]; exact this
        · rw [if_neg h0]
          rcases h1 with h1 | h1
          · exact h1
          · exact absurd (h1 s hs) h0
    rw [saysB_iff]
    constructor
    · rintro ⟨p, hp, rfl, h2⟩
      have h3 := (hrow p).1 h2
      have hm : p ∈ leafP leaf ps := List.mem_filter.2 ⟨hp, h3.1⟩
      have hle := saysL_le (f := bestH (leafP leaf ps) h) hm
      cases e : saysL (leafP leaf ps) (bestH (leafP leaf ps) h) p.left with
      | some x => rfl
      | none =>
        rw [e] at hle
        cases e2 : rowL (bestH (leafP leaf ps) h) p.right with
        | none => rw [e2] at h3; simp at h3
        | some y => rw [e2] at hle; exact hle.elim
    · intro hh
      rcases saysL_of (leafP leaf ps) (bestH (leafP leaf ps) h) n with e | ⟨p, hp, hl, e⟩
      · rw [e] at hh; simp at hh
      · obtain ⟨hp1, hp2⟩ := List.mem_filter.1 hp
        refine ⟨p, hp1, hl, (hrow p).2 ⟨hp2, ?_⟩⟩
        rw [e, hcap] at hh
        exact hh
/-- as many rounds as there are names are enough -/
theorem hgtB_fin (leaf : Bool) (ps : List PrS) (N : Nat) (hN : ∀ p ∈ ps, p.left < N) (k n : Nat) (hk : N ≤ k) : hgtB leaf ps k n = hgtB leaf ps N n := by
  rw [hgtB_best, hgtB_best, fin_all (leafP leaf ps) N (fun p hp => hN p (List.mem_filter.1 hp).1) n k hk]
theorem hgtB_closed (leaf : Bool) (ps : List PrS) (N : Nat) (hN : ∀ p ∈ ps, p.left < N) : ClosedB leaf ps (hgtB leaf ps N) := fun p hp h => by
  rw [← hgtB_fin leaf ps N hN (N + 1) p.left (by omega)]
  exact (saysB_iff _ _ _ _).2 ⟨p, hp, rfl, h⟩

end Go.Proofs.YtmkimaceioacgaaDoor

namespace Go.Proofs.YtmkimaceioacgaaDoor
open Go.RowKit
set_option linter.unusedVariables false
set_option maxRecDepth 100000

theorem Tryd.infoInt : (Tryd.prog.info? 3).map (fun i => (i.zero, i.size, i.bytes)) = some (some (.int .i64 0), 1, 8) := by kernel_rfl
theorem infoParts {o : Option TypeInfo} {z : Option Value} {n b : Nat} (h : o.map (fun i => (i.zero, i.size, i.bytes)) = some (z, n, b)) : ∃ i, o = some i ∧ i.zero = z ∧ i.size = n ∧ i.bytes = b := by
  cases o with
  | none => simp at h
  | some i => simp at h; exact ⟨i, rfl, h.1, h.2.1, h.2.2⟩
def intsA (l : List Int) : Array Value := (l.map fun z => Value.int .i64 z).toArray
theorem intsA_get (l : List Int) (j : Nat) (h : j < l.length) : (intsA l)[j]? = some (.int .i64 (l.getD j 0)) := by simp [intsA, h]
theorem intsA_set (l : List Int) (j : Nat) (x : Int) : (intsA l).setIfInBounds j (.int .i64 x) = intsA (l.set j x) := by simp [intsA, List.map_set]
theorem zerosA (m : Nat) : madeCells (Value.int .i64 0).cells m = intsA (List.replicate m 0) := by
  apply Array.ext
  · simp [madeCells, intsA]
  · intro i h1 h2
    simp [madeCells, intsA, Value.cells, Nat.mod_one]
theorem makeInts (m : Nat) (hm : m ≤ 1000000) (W : World) : (Instr.makeSlice 23 (.int .i64 m) (.int .i64 m)).run Tryd.prog W = .ok (.slice (some ⟨W.heap.size, 0, none⟩) m m) (W.alloc (.cells (intsA (List.replicate m 0)) 3)) := by
  obtain ⟨i0, hi, hz0, hz1, hz2⟩ := infoParts Tryd.infoInt
  have := run_make W 23 3 i0 (.int .i64 0) Tryd.underlying23 hi hz0 .i64 .i64 m m (by omega) (by omega) (by rw [hz2]; omega) (by omega)
  rw [this, hz1, zerosA]
  simp
/-- a row of numbers that fills a block -/
def Row (w : World) (D : Nat) (L : List Int) : Prop := w.heap[D]? = some (.cells (intsA L) 3 (0, 0))
theorem Row.cell {w : World} {D : Nat} {L : List Int} (h : Row w D L) {j : Nat} (hj : j < L.length) : w.cell? ⟨D, j, none⟩ = some (.int .i64 (L.getD j 0)) := by
  unfold Row at h
  simp only [World.cell?, h]
  exact intsA_get L j hj
theorem Row.lt {w : World} {D : Nat} {L : List Int} (h : Row w D L) : D < w.heap.size := (Array.getElem?_eq_some_iff.1 h).1
theorem Row.fz {w : World} {D : Nat} {L : List Int} (h : Row w D L) (j : Nat) : w.frozen? ⟨D, j, none⟩ = false := by
  unfold Row at h
  simp [World.frozen?, h]
theorem heap_setC (w : World) (b o : Nat) (cs : Array Value) (t : TypeId) (u : Value) (h : w.heap[b]? = some (.cells cs t (0, 0))) : (w.setCell ⟨b, o, none⟩ u).heap[b]? = some (.cells (cs.setIfInBounds o u) t (0, 0)) := by
  simp [World.setCell, Array.getElem?_modify, h]
theorem Row.set {w : World} {D : Nat} {L : List Int} (h : Row w D L) (j : Nat) (x : Int) : Row (w.setCell ⟨D, j, none⟩ (.int .i64 x)) D (L.set j x) := by
  unfold Row at *
  rw [heap_setC _ _ _ _ _ _ h, intsA_set]
theorem below_set {B : Nat} {w w' : World} (h : Below B w w') {D : Nat} (hD : B ≤ D) (o : Nat) (v : Value) : Below B w (w'.setCell ⟨D, o, none⟩ v) :=
  ⟨h.os, h.tape, h.output, by simpa using h.size, fun k hk => (Below.heap_setCell _ _ _ _ (by simp; omega)).trans (h.block k hk)⟩
theorem Row.ints {w : World} {D : Nat} {L : List Int} (h : Row w D L) : IntsR w (.slice (some ⟨D, 0, none⟩) L.length L.length) L :=
  ⟨_, _, rfl, Nat.le_refl _, .inr ⟨D, 0, rfl, h.lt, fun j hj => by rw [Nat.zero_add]; exact h.cell hj⟩⟩

/-- the productions of a name -/
def ownL (ps : List PdR) (n : Nat) : List PdR := ps.filter fun p => decide (p.left = (n : Int))
def PdOk (N : Nat) (p : PdR) : Prop := 0 ≤ p.left ∧ p.left < N ∧ p.right.length ≤ 20 ∧ ∀ j, j < p.right.length → -(N : Int) ≤ p.right.getD j 0

/-- the productions of each name in memory, by a variable -/
def OwnM (w : World) (O N : Nat) (own : Nat → List PdR) : Prop :=
  ∃ D, O < w.heap.size ∧ D < w.heap.size ∧ w.cell? ⟨O, 0, none⟩ = some (.slice (some ⟨D, 0, none⟩) N N) ∧ ∀ n, n < N → ∃ v, w.cell? ⟨D, n, none⟩ = some v ∧ PdsM w v (own n)
theorem OwnM.below {w w' : World} {O N : Nat} {own : Nat → List PdR} (h : OwnM w O N own) (hb : Below w.heap.size w w') : OwnM w' O N own := by
  obtain ⟨D, h1, h2, h3, h4⟩ := h
  refine ⟨D, Nat.lt_of_lt_of_le h1 hb.size, Nat.lt_of_lt_of_le h2 hb.size, (hb.cell (p := ⟨O, 0, none⟩) h1).trans h3, fun n hn => ?_⟩
  obtain ⟨v, h5, h6⟩ := h4 n hn
  exact ⟨v, (hb.cell (p := ⟨D, n, none⟩) h2).trans h5, h6.below hb⟩

end Go.Proofs.YtmkimaceioacgaaDoor

namespace Go.Proofs.YtmkimaceioacgaaDoor
open Go.RowKit
set_option linter.unusedVariables false
set_option maxRecDepth 100000

def factB (L : List Bool) (n : Nat) : Bool := L.getD n false
theorem factB_set {N : Nat} {L : List Bool} (hl : L.length = N) {n : Nat} (hn : n < N) (a : Bool) (m : Nat) : factB (L.set n a) m = if m = n then a else factB L m := by
  unfold factB
  by_cases e : m = n
  · rw [if_pos e, e]; simp [List.getD, hl, hn]
  · rw [if_neg e]
    simp only [List.getD]
    rw [List.getElem?_set_ne (Ne.symm e)]
/-- what holds within a round -/
structure LvI (leaf : Bool) (ps : List PrS) (N r i : Nat) (L : List Bool) : Prop where
  len : L.length = N
  sound : SoundB leaf ps (factB L)
  le : ∀ n, hgtB leaf ps r n = true → factB L n = true
  done : ∀ p ∈ ps.take i, hasB leaf (hgtB leaf ps r) p.right = true → factB L p.left = true
theorem LvI.start (leaf : Bool) (ps : List PrS) (N : Nat) : LvI leaf ps N 0 0 (List.replicate N false) := by
  have hf : ∀ n, factB (List.replicate N false) n = false := fun n => by
    unfold factB
    by_cases hn : n < N
    · simp [List.getD, hn]
    · simp [List.getD, List.getElem?_eq_none (show (List.replicate N false).length ≤ n by simp; omega)]
  refine ⟨by simp, fun n h => ?_, fun n h => ?_, fun p hp => ?_⟩
  · rw [hf] at h; cases h
  · simp [hgtB] at h
  · simp at hp
theorem LvI.next {leaf : Bool} {ps : List PrS} {N r : Nat} {L : List Bool} (h : LvI leaf ps N r ps.length L) : LvI leaf ps N (r + 1) 0 L := by
  refine ⟨h.len, h.sound, fun n hn => ?_, fun p hp => by simp at hp⟩
  have hn' : saysB leaf ps (hgtB leaf ps r) n = true := hn
  rw [saysB_iff] at hn'
  obtain ⟨p, hp, rfl, h2⟩ := hn'
  exact h.done p (by rw [List.take_length]; exact hp) h2
theorem LvI.step {leaf : Bool} {ps : List PrS} {N r i : Nat} {L : List Bool} (h : LvI leaf ps N r i L) {p : PrS} (hp : ps[i]? = some p) (hl : p.left < N) : LvI leaf ps N r (i + 1) (L.set p.left (factB L p.left || hasB leaf (factB L) p.right)) := by
  have hi : i < ps.length := (List.getElem?_eq_some_iff.1 hp).1
  have hpm : p ∈ ps := List.mem_of_getElem? hp
  have hf := factB_set h.len hl (factB L p.left || hasB leaf (factB L) p.right)
  have hge : ∀ n, factB L n = true → factB (L.set p.left (factB L p.left || hasB leaf (factB L) p.right)) n = true := fun n hn => by
    rw [hf]; split
    · rename_i e; rw [← e, hn]; rfl
    · exact hn
  refine ⟨by rw [List.length_set]; exact h.len, fun n hn => ?_, fun n hn => hge n (h.le n hn), fun q hq h2 => ?_⟩
  · rw [hf] at hn
    split at hn
    · rename_i e
      rw [Bool.or_eq_true] at hn
      rcases hn with hn | hn
      · rw [e]; exact h.sound _ hn
      · rw [e]; exact h.sound.step hpm hn
    · exact h.sound n hn
  · rw [List.take_succ_eq_append_getElem hi] at hq
    rcases List.mem_append.1 hq with hq | hq
    · exact hge _ (h.done q hq h2)
    · have e : q = p := by
        have h1 := (List.getElem?_eq_some_iff.1 hp).2
        simp at hq; rw [hq, h1]
      subst e
      rw [hf, if_pos rfl, hasB_mono h.le _ h2, Bool.or_true]
theorem LvI.final {leaf : Bool} {ps : List PrS} {N : Nat} {L : List Bool} (h : LvI leaf ps N N 0 L) (hN : ∀ p ∈ ps, p.left < N) (n : Nat) : factB L n = hgtB leaf ps N n := by
  rw [Bool.eq_iff_iff]
  constructor
  · intro hn
    obtain ⟨k, hk⟩ := h.sound n hn
    have := hgtB_le leaf ps (Nat.le_max_left k N) n hk
    rw [hgtB_fin leaf ps N hN (max k N) n (Nat.le_max_right _ _)] at this
    exact this
  · exact h.le n
theorem hasB_take (leaf : Bool) (f : Nat → Bool) (r : List Int) (k : Nat) (hk : k < r.length) : hasB leaf f (r.take (k + 1)) = (hasB leaf f (r.take k) && (if r.getD k 0 < 0 then f (-1 - r.getD k 0).toNat else leaf)) := by
  unfold hasB
  rw [List.take_succ_eq_append_getElem hk, List.all_append]
  simp [List.getD, hk]

end Go.Proofs.YtmkimaceioacgaaDoor

namespace Go.Proofs.YtmkimaceioacgaaDoor
open Go.RowKit
set_option linter.unusedVariables false
set_option maxRecDepth 100000

def boolsA (l : List Bool) : Array Value := (l.map fun z => Value.bool z).toArray
/-- a row of bools that fills a block -/
def RowB (w : World) (D : Nat) (L : List Bool) : Prop := w.heap[D]? = some (.cells (boolsA L) 4 (0, 0))
theorem RowB.cell {w : World} {D : Nat} {L : List Bool} (h : RowB w D L) {j : Nat} (hj : j < L.length) : w.cell? ⟨D, j, none⟩ = some (.bool (factB L j)) := by
  unfold RowB at h
  simp [World.cell?, h, boolsA, factB, List.getD, hj]
theorem RowB.lt {w : World} {D : Nat} {L : List Bool} (h : RowB w D L) : D < w.heap.size := (Array.getElem?_eq_some_iff.1 h).1
theorem RowB.fz {w : World} {D : Nat} {L : List Bool} (h : RowB w D L) (j : Nat) : w.frozen? ⟨D, j, none⟩ = false := by
  unfold RowB at h
  simp [World.frozen?, h]
theorem RowB.set {w : World} {D : Nat} {L : List Bool} (h : RowB w D L) (j : Nat) (x : Bool) : RowB (w.setCell ⟨D, j, none⟩ (.bool x)) D (L.set j x) := by
  unfold RowB at *
  rw [heap_setC _ _ _ _ _ _ h]
  simp [boolsA, List.map_set]
theorem Tryd.infoBoolT : (Tryd.prog.info? 4).map (fun i => (i.zero, i.size, i.bytes)) = some (some (.bool false), 1, 1) := by kernel_rfl
theorem falsesT (m : Nat) : madeCells (Value.bool false).cells m = boolsA (List.replicate m false) := by
  apply Array.ext
  · simp [madeCells, Value.cells, boolsA]
  · intro i h1 h2
    simp [madeCells, Value.cells, Nat.mod_one, boolsA]
theorem makeBoolsT (m : Nat) (hm : m ≤ 1000000) (W : World) : (Instr.makeSlice 31 (.int .i64 m) (.int .i64 m)).run Tryd.prog W = .ok (.slice (some ⟨W.heap.size, 0, none⟩) m m) (W.alloc (.cells (boolsA (List.replicate m false)) 4)) := by
  obtain ⟨i0, hi, hz0, hz1, hz2⟩ := infoParts Tryd.infoBoolT
  have := run_make W 31 4 i0 (.bool false) Tryd.underlying31 hi hz0 .i64 .i64 m m (by omega) (by omega) (by rw [hz2]; omega) (by omega)
  rw [this, hz1, falsesT]
  simp

end Go.Proofs.YtmkimaceioacgaaDoor

namespace Go.Proofs.YtmkimaceioacgaaDoor
open Go.RowKit
set_option linter.unusedVariables false
set_option maxRecDepth 100000

theorem hasB_drop (leaf : Bool) (f : Nat → Bool) (r : List Int) (k : Nat) (hk : k < r.length) : hasB leaf f (r.drop k) = ((if r.getD k 0 < 0 then f (-1 - r.getD k 0).toNat else leaf) && hasB leaf f (r.drop (k + 1))) := by
  have e : r.getD k 0 = r[k] := by simp [List.getD, hk]
  rw [e, List.drop_eq_getElem_cons hk]
  rfl

set_option maxHeartbeats 4000000 in
theorem rowHas_any (N : Nat) (hN : N ≤ 300) (r : List Int) (L : List Bool) (leaf : Bool) (rv : Value) (B : Nat) (w : World) (hr : SymsL N r) (hL : L.length = N) (hrv : IntsR w rv r) (hv : RowB w B L) :
    Calls Tryd.prog 42 #[rv, .slice (some ⟨B, 0, none⟩) N N, .bool leaf] w fun e w' => e = .returned (.bool (hasB leaf (factB L) r)) ∧ w' = w := by
  obtain ⟨ra, rc, rfl⟩ := hrv.slice
  have HRV : Hid (IntsR w (.slice ra r.length rc) r) := hrv
  have HV : Hid (RowB w B L) := hv
  have HL : Hid (L.length = N) := hL
  have HSY : Hid (SymsL N r) := hr
  have hrl := hr.1
  have hBl := hv.lt
  clear hrv hv hL hr
  generalize hR : hasB leaf (factB L) r = R at *
  have HR : Hid (hasB leaf (factB L) r = R) := hR
  clear hR
  have hN0 := nameOf_any
  go_enter Tryd.func42, Tryd.ntmps42
  go_wp2
  go_loopw [13] (fun i wr => ∃ (k : Nat), k ≤ r.length ∧ i = .int .i64 k ∧ Hid (R = hasB leaf (factB L) (r.drop k)) ∧ wr = w) (fun i _ => r.length - (intOf i).toNat)
  case atStart => exact ⟨0, Nat.zero_le _, rfl, (by show _ = _; rw [List.drop_zero, HR.out]), rfl⟩
  case round =>
    obtain ⟨k, hk, rfl, HZ, hwe⟩ := hrel
    subst hwe
    by_cases hlt : k < r.length
    · obtain ⟨b, off, rfl, hb, hc⟩ := HRV.out.at hlt
      obtain ⟨hs1, hs2⟩ := HSY.out.2 k hlt
      have HT : Hid (R = _) := HZ.out.trans (hasB_drop leaf (factB L) r k hlt)
      generalize r.getD k 0 = sy at *
      have hC := hN0 sy hs2
      clear hN0
      by_cases hs : sy < 0
      · obtain ⟨q, hq⟩ : ∃ q : Nat, -1 - sy = (q : Int) := ⟨(-1 - sy).toNat, by omega⟩
        have hqN : q < N := by omega
        have d1 : decide (sy < 0) = true := decide_eq_true hs
        rw [d1, hq] at hC
        have hqn : (-1 - sy).toNat = q := by omega
        rw [if_pos hs, hqn] at HT
        have hc2 := HV.out.cell (j := q) (by rw [HL.out]; exact hqN)
        clear hq hqn hs d1 hs1 hs2
        generalize factB L q = x at *
        cases x with
        | false =>
          have HE : Hid (R = false) := by rw [Bool.false_and] at HT; exact HT.out
          go_wp2_with fail
          refine (hC _).mono ?_
          rintro e w1 ⟨rfl, rfl⟩
          go_wp2
          go_ret
          exact ⟨by rw [HE.out]; rfl, rfl⟩
        | true =>
          have HE : Hid (R = hasB leaf (factB L) (r.drop (k + 1))) := by rw [Bool.true_and] at HT; exact HT.out
          clear HT
          go_wp2_with fail
          refine (hC _).mono ?_
          rintro e w1 ⟨rfl, rfl⟩
          go_wp2
          go_roundw
          case rel => exact ⟨k + 1, by omega, by go_num, HE, trivial⟩
          case measure => simp [intOf]; omega
      · have d1 : decide (sy < 0) = false := decide_eq_false hs
        rw [d1] at hC
        rw [if_neg hs] at HT
        clear hs hs1 hs2 d1
        cases leaf with
        | false =>
          have HE : Hid (R = false) := by rw [Bool.false_and] at HT; exact HT.out
          go_wp2_with fail
          refine (hC _).mono ?_
          rintro e w1 ⟨rfl, rfl⟩
          go_wp2
          go_ret
          exact ⟨by rw [HE.out]; rfl, rfl⟩
        | true =>
          have HE : Hid (R = hasB true (factB L) (r.drop (k + 1))) := by rw [Bool.true_and] at HT; exact HT.out
          clear HT
          go_wp2_with fail
          refine (hC _).mono ?_
          rintro e w1 ⟨rfl, rfl⟩
          go_wp2
          go_roundw
          case rel => exact ⟨k + 1, by omega, by go_num, HE, trivial⟩
          case measure => simp [intOf]; omega
    · have HE : Hid (R = true) := by
        show _ = _
        rw [HZ.out, List.drop_eq_nil_of_le (by omega)]; rfl
      clear hN0
      go_wp2
      go_ret
      exact ⟨by rw [HE.out]; rfl, rfl⟩

end Go.Proofs.YtmkimaceioacgaaDoor
