/- Texts of the proof, put together: GLsM, GLpC. -/
import Derived.Test.YtmkimaceioacgaaDoorGk09
import Derived.Test.YtmkimaceioacgaaDoorGk14
import Derived.Test.YtmkimaceioacgaaDoorGk12
import Derived.Deep.RegionHeld3
namespace Go.Proofs.YtmkimaceioacgaaDoor
open Go.RowKit
set_option linter.unusedVariables false
set_option maxRecDepth 100000

theorem mksL_len (L : List Nat) : (mksL L).length = L.length * 5 := by
  induction L with
  | nil => rfl
  | cons m L ih => unfold mksL at *; rw [List.flatMap_cons, List.length_append, ih]; simp [mkC]; omega
theorem mksL_get : ∀ (L : List Nat) (j k : Nat), j < L.length → k < 5 → (mksL L)[j * 5 + k]? = (mkC (L.getD j 0))[k]?
  | [], j, k, h, _ => by simp at h
  | m :: L, 0, k, _, hk => by
    unfold mksL
    rw [List.flatMap_cons, Nat.zero_mul, Nat.zero_add, List.getElem?_append_left (by simpa [mkC] using hk)]
    rfl
  | m :: L, j + 1, k, h, hk => by
    have ih := mksL_get L j k (by simpa using h) hk
    unfold mksL at *
    rw [List.flatMap_cons, List.getElem?_append_right (by simp [mkC]; omega)]
    rw [show (j + 1) * 5 + k - (mkC m).length = j * 5 + k by simp [mkC]; omega, ih]
    rfl
theorem mksL_set : ∀ (L : List Nat) (j m : Nat), j < L.length → mksL (L.set j m) = (((((mksL L).set (j * 5) (.int .u64 m)).set (j * 5 + 1) (.int .u64 0)).set (j * 5 + 2) (.int .u64 0)).set (j * 5 + 3) (.int .u64 0)).set (j * 5 + 4) (.int .u64 0)
  | [], j, m, h => by simp at h
  | x :: L, 0, m, _ => by
    unfold mksL
    rw [List.set_cons_zero, List.flatMap_cons, List.flatMap_cons]
    rfl
  | x :: L, j + 1, m, h => by
    have ih := mksL_set L j m (by simpa using h)
    unfold mksL at *
    rw [List.set_cons_succ, List.flatMap_cons, List.flatMap_cons, ih]
    have e : ∀ (l : List Value) (k : Nat) (v : Value), (mkC x ++ l).set ((j + 1) * 5 + k) v = mkC x ++ l.set (j * 5 + k) v := fun l k v => by
      rw [List.set_append_right _ _ (by simp [mkC]; omega)]
      congr 2
      simp [mkC]
      omega
    have e0 := e (L.flatMap mkC) 0 (.int .u64 m)
    simp only [Nat.add_zero] at e0
    rw [e0, e, e, e, e]
def factM (L : List Nat) (n : Nat) : Nat := L.getD n 0
theorem factM_set {N : Nat} {L : List Nat} (hl : L.length = N) {n : Nat} (hn : n < N) (a : Nat) (m : Nat) : factM (L.set n a) m = if m = n then a else factM L m := by
  unfold factM
  by_cases e : m = n
  · rw [if_pos e, e]; simp [List.getD, hl, hn]
  · rw [if_neg e]
    simp only [List.getD]
    rw [List.getElem?_set_ne (Ne.symm e)]
theorem RowM.lt {w : World} {D : Nat} {L : List Nat} (h : RowM w D L) : D < w.heap.size := (Array.getElem?_eq_some_iff.1 h).1
theorem RowM.cell {w : World} {D : Nat} {L : List Nat} (h : RowM w D L) {j k : Nat} (hj : j < L.length) (hk : k < 5) : w.cell? ⟨D, j * 5 + k, none⟩ = (mkC (factM L j))[k]? := by
  unfold RowM at h
  have := mksL_get L j k hj hk
  simp only [World.cell?, h]
  rw [show factM L j = L.getD j 0 from rfl, ← this]
  simp
theorem RowM.c0 {w : World} {D : Nat} {L : List Nat} (h : RowM w D L) {j : Nat} (hj : j < L.length) : w.cell? ⟨D, j * 5, none⟩ = some (.int .u64 (factM L j)) := by
  have := h.cell hj (k := 0) (by omega)
  rw [Nat.add_zero] at this
  exact this
theorem RowM.ck {w : World} {D : Nat} {L : List Nat} (h : RowM w D L) {j k : Nat} (hj : j < L.length) (hk : 1 ≤ k) (hk5 : k < 5) : w.cell? ⟨D, j * 5 + k, none⟩ = some (.int .u64 0) := by
  have := h.cell hj hk5
  rcases k with _ | _ | _ | _ | _ | k
  · omega
  · exact this
  · exact this
  · exact this
  · exact this
  · omega
theorem RowM.fz {w : World} {D : Nat} {L : List Nat} (h : RowM w D L) (j : Nat) : w.frozen? ⟨D, j, none⟩ = false := by
  unfold RowM at h
  simp [World.frozen?, h]
/-- five words written in a row -/
def fillO (w : World) (B o m' : Nat) : World := ((((w.setCell ⟨B, o, none⟩ (.int .u64 m')).setCell ⟨B, o + 1, none⟩ (.int .u64 0)).setCell ⟨B, o + 2, none⟩ (.int .u64 0)).setCell ⟨B, o + 3, none⟩ (.int .u64 0)).setCell ⟨B, o + 4, none⟩ (.int .u64 0)
theorem RowM.fill {w : World} {D : Nat} {L : List Nat} (h : RowM w D L) {j : Nat} (hj : j < L.length) (m : Nat) : RowM (fillO w D (j * 5) m) D (L.set j m) := by
  unfold RowM at *
  unfold fillO
  rw [heap_setC _ _ _ _ _ _ (heap_setC _ _ _ _ _ _ (heap_setC _ _ _ _ _ _ (heap_setC _ _ _ _ _ _ (heap_setC _ _ _ _ _ _ h)))), mksL_set L j m hj]
  simp
theorem fillO_grown (w : World) (B o m : Nat) : w.grownBy (fillO w B o m) (some B) := by
  unfold fillO
  exact grown_more (grown_more (grown_more (grown_more (set_grown w B o _) (set_grown _ B _ _) (fun g e => .inr (by simpa using e.symm))) (set_grown _ B _ _) (fun g e => .inr (by simpa using e.symm))) (set_grown _ B _ _) (fun g e => .inr (by simpa using e.symm))) (set_grown _ B _ _) (fun g e => .inr (by simpa using e.symm))
theorem fillO_below {K : Nat} {w w' : World} (h : Below K w w') {B : Nat} (hB : K ≤ B) (o m' : Nat) : Below K w (fillO w' B o m') :=
  below_set (below_set (below_set (below_set (below_set h hB o _) hB (o + 1) _) hB (o + 2) _) hB (o + 3) _) hB (o + 4) _
theorem RowM.grown {w w' : World} {D : Nat} {L : List Nat} {row : Option Nat} (h : RowM w D L) (hg : w.grownBy w' row) (hne : row ≠ some D) : RowM w' D L := (hg.block D h.lt (fun e => hne e.symm)).trans h
theorem RowM.below {w w' : World} {D : Nat} {L : List Nat} (h : RowM w D L) (hb : Below w.heap.size w w') : RowM w' D L := (hb.block D h.lt).trans h
/-- all of one set are in the other -/
def subM (a b : Nat) : Prop := ∀ i, a.testBit i = true → b.testBit i = true
theorem sub_le {a b : Nat} (h : subM a b) : a ≤ b := by
  have e : a ||| b = b := by
    apply Nat.eq_of_testBit_eq
    intro i
    rw [Nat.testBit_or]
    cases e : a.testBit i
    · rfl
    · rw [h i e]; rfl
  rw [← e]
  exact Nat.left_le_or
theorem subM.refl (a : Nat) : subM a a := fun _ h => h
theorem sub_anti {a b : Nat} (h1 : subM a b) (h2 : subM b a) : a = b := Nat.le_antisymm (sub_le h1) (sub_le h2)
theorem sub_zero (a : Nat) : subM 0 a := fun i h => by simp at h
abbrev SayM := (Nat → Nat) → Nat → Nat
/-- facts follow from facts: from more, more; from those of the names on which a name rests; and what follows is so -/
structure SayOkM (N : Nat) (say : SayM) (R : Nat → Nat → Prop) (P : Nat → Nat → Prop) : Prop where
  lt : ∀ f : Nat → Nat, (∀ n, f n < 512) → ∀ n, say f n < 512
  mono : ∀ f g : Nat → Nat, (∀ n, subM (f n) (g n)) → ∀ n, subM (say f n) (say g n)
  dep : ∀ (f g : Nat → Nat) (n : Nat), n < N → (∀ k, R n k → f k = g k) → say f n = say g n
  sound : ∀ f : Nat → Nat, (∀ n i, (f n).testBit i = true → P n i) → ∀ n i, n < N → (say f n).testBit i = true → P n i
/-- what holds while names wait -/
structure WkM (say : SayM) (P : Nat → Nat → Prop) (N : Nat) (L : List Nat) (opn : Nat → Prop) : Prop where
  len : L.length = N
  lt : ∀ n, factM L n < 512
  sound : ∀ n i, (factM L n).testBit i = true → P n i
  mono : ∀ n, n < N → subM (factM L n) (say (factM L) n)
  closed : ∀ n, n < N → ¬ opn n → factM L n = say (factM L) n
theorem WkM.weaken {say : SayM} {P : Nat → Nat → Prop} {N : Nat} {L : List Nat} {o o' : Nat → Prop} (h : WkM say P N L o) (hw : ∀ n, n < N → o n → o' n) : WkM say P N L o' :=
  ⟨h.len, h.lt, h.sound, h.mono, fun n hn ho => h.closed n hn fun h' => ho (hw n hn h')⟩
theorem factM_none (N n : Nat) : factM (List.replicate N 0) n = 0 := by
  unfold factM
  by_cases hn : n < N
  · simp [List.getD, hn]
  · simp [List.getD, List.getElem?_eq_none (show (List.replicate N 0).length ≤ n by simp; omega)]
theorem WkM.start (say : SayM) (P : Nat → Nat → Prop) (N : Nat) (o : Nat → Prop) (ho : ∀ n, n < N → o n) : WkM say P N (List.replicate N 0) o :=
  ⟨by simp, fun n => by rw [factM_none]; omega, fun n i h => (by rw [factM_none] at h; simp at h), fun n _ => (by rw [factM_none]; exact sub_zero _), fun n hn hno => absurd (ho n hn) hno⟩
/-- a name that says nothing new -/
theorem WkM.same {say : SayM} {P : Nat → Nat → Prop} {N : Nat} {L : List Nat} {o o' : Nat → Prop} (h : WkM say P N L o) {n : Nat} (he : factM L n = say (factM L) n) (hw : ∀ m, m < N → o m → m ≠ n → o' m) : WkM say P N L o' :=
  ⟨h.len, h.lt, h.sound, h.mono, fun m hm ho => by
    by_cases e : m = n
    · rw [e]; exact he
    · exact h.closed m hm fun h' => ho (hw m hm h' e)⟩
/-- a name that says something new -/
theorem WkM.set {say : SayM} {P : Nat → Nat → Prop} {R : Nat → Nat → Prop} {N : Nat} {L : List Nat} {o o' : Nat → Prop} (h : WkM say P N L o) (hk : SayOkM N say R P) {n : Nat} (hn : n < N) (hw : ∀ m, m < N → o m → m ≠ n → o' m) (hd : ∀ m, m < N → R m n → o' m) : WkM say P N (L.set n (say (factM L) n)) o' := by
  have hf := factM_set h.len hn (say (factM L) n)
  have hle : ∀ m, subM (factM L m) (factM (L.set n (say (factM L) n)) m) := fun m => by
    rw [hf]; split
    · rename_i e; rw [e]; exact h.mono n hn
    · exact subM.refl _
  refine ⟨by rw [List.length_set]; exact h.len, fun m => ?_, fun m i hm => ?_, fun m hm => ?_, fun m hm ho => ?_⟩
  · rw [hf]; split
    · exact hk.lt _ h.lt n
    · exact h.lt m
  · rw [hf] at hm
    by_cases e : m = n
    · rw [if_pos e] at hm; rw [e]; exact hk.sound _ h.sound n i hn hm
    · rw [if_neg e] at hm; exact h.sound m i hm
  · have h1 := hk.mono _ _ hle m
    rw [hf]
    split
    · rename_i e; rw [e] at h1 ⊢; exact h1
    · exact fun i hi => h1 i (h.mono m hm i hi)
  · have hsame : say (factM (L.set n (say (factM L) n))) m = say (factM L) m := by
      refine hk.dep _ _ m hm fun k hr => ?_
      rw [hf, if_neg]
      intro e
      exact ho (hd m hm (e ▸ hr))
    rw [hsame, hf]
    by_cases e : m = n
    · rw [if_pos e, e]
    · rw [if_neg e]
      exact h.closed m hm fun h' => ho (hw m hm h' e)
/-- how much may still be found -/
def rkM (L : List Nat) : Nat := (L.map fun m => 512 - m).sum
theorem rkM_set : ∀ (L : List Nat) (n z : Nat), n < L.length → factM L n < z → z ≤ 512 → rkM (L.set n z) < rkM L
  | [], n, z, hn, _, _ => by simp at hn
  | x :: L, 0, z, _, h, hz => by
    have h' : x < z := by simpa [factM] using h
    show (512 - z) + rkM L < (512 - x) + rkM L
    omega
  | x :: L, n + 1, z, hn, h, hz => by
    have := rkM_set L n z (by simpa using hn) (by simpa [factM] using h) hz
    show (512 - x) + rkM (L.set n z) < (512 - x) + rkM L
    omega
/-- what tells a name's fact -/
def SaysM (w : World) (F : Nat) (c1 c2 : Value) (N : Nat) (say : SayM) : Prop := ∀ (w' : World) (L : List Nat) (B n : Nat), n < N → L.length = N → (∀ m, factM L m < 512) → RowM w' B L → Below w.heap.size w w' → Calls Tryd.prog F #[.slice (some ⟨B, 0, none⟩) N N, .int .i64 n, c1, c2] w' fun e w'' => e = .returned (mkV (say (factM L) n)) ∧ Below w'.heap.size w' w''
/-- .. with one captured variable -/
def SaysM1 (w : World) (F : Nat) (c1 : Value) (N : Nat) (say : SayM) : Prop := ∀ (w' : World) (L : List Nat) (B n : Nat), n < N → L.length = N → (∀ m, factM L m < 512) → RowM w' B L → Below w.heap.size w w' → Calls Tryd.prog F #[.slice (some ⟨B, 0, none⟩) N N, .int .i64 n, c1] w' fun e w'' => e = .returned (mkV (say (factM L) n)) ∧ Below w'.heap.size w' w''
def natOf : Value → Nat
  | .int _ z => z.toNat
  | _ => 0
def rdM (w : World) (D : Nat) : List Nat :=
  match w.heap[D]? with
  | some (.cells cs _ _) => (List.range (cs.size / 5)).map fun j => natOf (cs.getD (j * 5) .nilFunc)
  | _ => []
theorem RowM.rd {w : World} {D : Nat} {L : List Nat} (h : RowM w D L) : rdM w D = L := by
  unfold RowM at h
  unfold rdM
  rw [h]
  simp only [List.size_toArray, mksL_len]
  apply List.ext_getElem
  · simp
  · intro j h1 h2
    have := mksL_get L j 0 h2 (by omega)
    rw [Nat.add_zero] at this
    simp only [List.getElem_map, List.getElem_range, Array.getD_eq_getD_getElem?, List.getElem?_toArray, this]
    simp [mkC, natOf, h2]
/-- between rounds -/
structure MsI (w wr : World) (FB TB N : Nat) (cn : Nat → Nat) (say : SayM) (P : Nat → Nat → Prop) (R : Nat → Nat → Prop) (K : Nat) (av : Value) (L : List Nat) (qs : List Int) : Prop where
  row : RowM wr FB L
  wk : WkM say P N L fun n => (n : Int) ∈ qs
  ask : AskM wr FB av qs
  nms : ∀ x ∈ qs, 0 ≤ x ∧ x < N
  lnk : LinksM wr TB N (fun n => TB + 1 + n) cn (fun n k => k < N ∧ R k n)
/-- within a round -/
structure MrI (wo wr : World) (FB N : Nat) (say : SayM) (P : Nat → Nat → Prop) (R : Nat → Nat → Prop) (K : Nat) (qs : List Int) (L0 : List Nat) (j : Nat) (gv : Value) (L : List Nat) (zs : List Int) : Prop where
  row : RowM wr FB L
  wk : WkM say P N L fun n => (n : Int) ∈ qs.drop j ∨ (n : Int) ∈ zs
  own : OwnI wr wo.heap.size gv zs
  mem : ∀ x ∈ zs, 0 ≤ x ∧ x < N
  len : zs.length ≤ j * K
  dec : zs = [] ∨ rkM L < rkM L0
  le : rkM L ≤ rkM L0
  gr : wo.grownBy wr (some FB)
/-- while the names that rest on one are gone through -/
structure MmI (wo wr : World) (FB N : Nat) (say : SayM) (P : Nat → Nat → Prop) (R : Nat → Nat → Prop) (K : Nat) (qs : List Int) (j : Nat) (gv : Value) (L : List Nat) (zs : List Int) (left : Lit → Bool) (rr m : Nat) : Prop where
  row : RowM wr FB L
  wk : WkM say P N L fun n => (n : Int) ∈ qs.drop (j + 1) ∨ (n : Int) ∈ zs ∨ left (.int .i64 (n : Int)) = true
  own : OwnI wr wo.heap.size gv zs
  ne : gv.ownBlock ≠ some rr
  mem : ∀ x ∈ zs, 0 ≤ x ∧ x < N
  len : zs.length ≤ j * K + m
  gr : wo.grownBy wr (some FB)
theorem MsI.start {w wr : World} {FB TB N : Nat} {cn : Nat → Nat} {say : SayM} {P : Nat → Nat → Prop} {R : Nat → Nat → Prop} {K : Nat} {av : Value} {L : List Nat} {qs : List Int} (h : MsI w wr FB TB N cn say P R K av L qs) : MrI wr wr FB N say P R K qs L 0 (.slice none 0 0) L [] :=
  ⟨h.row, h.wk.weaken fun n _ hn => .inl (by simpa using hn), ⟨rfl, .inl ⟨rfl, rfl⟩⟩, fun x hx => by simp at hx, by simp, .inl rfl, Nat.le_refl _, grown_refl _ _⟩
/-- a name that says nothing new -/
theorem MrI.same {wo wr w5 : World} {FB N : Nat} {say : SayM} {P : Nat → Nat → Prop} {R : Nat → Nat → Prop} {K : Nat} {qs : List Int} {L0 : List Nat} {j : Nat} {gv : Value} {L : List Nat} {zs : List Int} (h : MrI wo wr FB N say P R K qs L0 j gv L zs) (hFB : FB < wo.heap.size) (hj : j < qs.length) {n : Nat} (hn : n < N) (hx : qs.getD j 0 = (n : Int)) (hb : Below wr.heap.size wr w5) (he : say (factM L) n = factM L n) : MrI wo w5 FB N say P R K qs L0 (j + 1) gv L zs := by
  have hg := below_grownN hb
  refine ⟨h.row.grown hg (by simp), ?_, h.own.kept hg (by cases hq : gv.ownBlock <;> simp), h.mem, Nat.le_trans h.len (Nat.mul_le_mul_right _ (Nat.le_succ _)), h.dec, h.le, grown_more h.gr hg (fun g e => by simp at e)⟩
  refine h.wk.same (n := n) he.symm ?_
  intro m hm ho hne
  rcases ho with ho | ho
  · rcases mem_drop_cons hj ho with e | e
    · rw [hx] at e; exact absurd (by omega) hne
    · exact .inl e
  · exact .inr ho
theorem MrI.news {wo wr : World} {FB N : Nat} {say : SayM} {P : Nat → Nat → Prop} {R : Nat → Nat → Prop} {K : Nat} {qs : List Int} {L0 : List Nat} {j : Nat} {gv : Value} {L : List Nat} {zs : List Int} (h : MrI wo wr FB N say P R K qs L0 j gv L zs) {n : Nat} (hn : n < N) (hne : say (factM L) n ≠ factM L n) : factM L n < say (factM L) n := by
  have := sub_le (h.wk.mono n hn)
  omega
/-- a name that says something new -/
theorem MrI.set {wo wr w5 w7 : World} {FB N : Nat} {say : SayM} {P : Nat → Nat → Prop} {R : Nat → Nat → Prop} {K : Nat} {qs : List Int} {L0 : List Nat} {j : Nat} {gv : Value} {L : List Nat} {zs : List Int} (h : MrI wo wr FB N say P R K qs L0 j gv L zs) (hk : SayOkM N say R P) (hFB : FB < wo.heap.size) (hj : j < qs.length) {n : Nat} (hn : n < N) (hx : qs.getD j 0 = (n : Int)) (hb : Below wr.heap.size wr w5) (hne : say (factM L) n ≠ factM L n)
    (left : Lit → Bool) (hleft : ∀ k : Nat, k < N → R k n → left (.int .i64 (k : Int)) = true) (hg7 : (fillO w5 FB (n * 5) (say (factM L) n)).grownBy w7 none) (rr : Nat) (hrr : wr.heap.size ≤ rr) :
    MmI wo w7 FB N say P R K qs j gv (L.set n (say (factM L) n)) zs left rr 0 ∧ rkM (L.set n (say (factM L) n)) < rkM L0 := by
  have hf := h.news hn hne
  have hz := hk.lt _ h.wk.lt n
  have hg := below_grownN hb
  have hrow5 : RowM w5 FB L := h.row.grown hg (by simp)
  have hs6 := fillO_grown w5 FB (n * 5) (say (factM L) n)
  have hol : ∀ b, gv.ownBlock = some b → wo.heap.size ≤ b ∧ b < wr.heap.size := fun b hb => h.own.lt b hb
  have hown5 : OwnI w5 wo.heap.size gv zs := h.own.kept hg (by cases hq : gv.ownBlock <;> simp)
  have hown6 : OwnI (fillO w5 FB (n * 5) (say (factM L) n)) wo.heap.size gv zs := hown5.kept hs6 (.inr fun e => by have := hol FB e; omega)
  refine ⟨⟨(hrow5.fill (by rw [h.wk.len]; exact hn) _).grown hg7 (by simp), ?_, hown6.kept hg7 (by cases hq : gv.ownBlock <;> simp), fun e => by have := hol _ e; omega, h.mem, Nat.le_trans h.len (Nat.le_add_right _ _), ?_⟩, ?_⟩
  · refine h.wk.set hk hn ?_ ?_
    · intro m hm ho hne
      rcases ho with ho | ho
      · rcases mem_drop_cons hj ho with e | e
        · rw [hx] at e; exact absurd (by omega) hne
        · exact .inl e
      · exact .inr (.inl ho)
    · intro m hm hd
      exact .inr (.inr (hleft m hm hd))
  · exact grown_more (grown_more (grown_more h.gr hg (fun g e => by simp at e)) hs6 (fun g e => .inr (by simpa using e.symm))) hg7 (fun g e => by simp at e)
  · have := rkM_set L n (say (factM L) n) (by rw [h.wk.len]; exact hn) hf (by omega)
    have := h.le
    omega
/-- one of the names that rest on it -/
theorem MmI.step {wo wr w3 w9 : World} {FB N : Nat} {say : SayM} {P : Nat → Nat → Prop} {R : Nat → Nat → Prop} {K : Nat} {qs : List Int} {j : Nat} {gv : Value} {L : List Nat} {zs : List Int} {left : Lit → Bool} {rr m q g cap : Nat} {o : Obj} (h : MmI wo wr FB N say P R K qs j gv L zs left rr m) (hFB : FB < wo.heap.size) (hrr : wo.heap.size ≤ rr) (hrl : rr < wr.heap.size) (hq : q < N) (hg3 : wr.grownBy w3 (some rr))
    (hown : w9.ownsRow wo.heap.size 3 1 (.slice (some ⟨g, 0, none⟩) (zs.length + 1) cap) (zs.length + 1) (zs.map (Value.int .i64) ++ [.int .i64 (q : Int)])) (hg9 : (w3.alloc o).grownBy w9 gv.ownBlock) (hat : gv.ownBlock = some g ∨ g = w3.heap.size + 1) :
    MmI wo w9 FB N say P R K qs j (.slice (some ⟨g, 0, none⟩) (zs.length + 1) cap) L (zs ++ [(q : Int)]) (fun z => left z && !z.sameKey (.int .i64 (q : Int))) rr (m + 1) := by
  have hol : ∀ b, gv.ownBlock = some b → wo.heap.size ≤ b ∧ b < wr.heap.size := fun b hb => h.own.lt b hb
  have hgA : w3.grownBy (w3.alloc o) none := World.grownBy_alloc w3 o none
  have hs3 := hg3.size
  have g3 : wo.grownBy w3 (some FB) := grown_more h.gr hg3 (fun g e => .inl (by have h1 : rr = g := (by simpa using e); omega))
  have gA : wo.grownBy (w3.alloc o) (some FB) := grown_more g3 hgA (fun g e => by simp at e)
  have g9 : wo.grownBy w9 (some FB) := grown_more gA hg9 (fun g e => .inl (hol g e).1)
  refine ⟨?_, ?_, ?_, ?_, ?_, ?_, g9⟩
  · have r3 : RowM w3 FB L := h.row.grown hg3 (fun e => by
      have : rr = FB := by simpa using e
      omega)
    have rA : RowM (w3.alloc o) FB L := r3.grown hgA (by simp)
    exact rA.grown hg9 (fun e => by have := hol FB e; omega)
  · refine h.wk.weaken fun n hn ho => ?_
    rcases ho with ho | ho | ho
    · exact .inl ho
    · exact .inr (.inl (by simp [ho]))
    · by_cases e : n = q
      · subst e; exact .inr (.inl (by simp))
      · refine .inr (.inr ?_)
        have : ¬ (n : Int) = (q : Int) := by omega
        simp [ho, Lit.sameKey, this]
  · show w9.ownsRow _ _ _ _ _ _
    simpa using hown
  · intro e
    have e' : g = rr := by simpa [Value.ownBlock] using e
    rcases hat with h1 | h1
    · exact h.ne (by rw [h1, e'])
    · omega
  · intro x hx
    rcases List.mem_append.1 hx with hx | hx
    · exact h.mem x hx
    · obtain rfl : x = (q : Int) := by simpa using hx
      omega
  · rw [List.length_append]; exact Nat.succ_le_succ h.len
theorem MmI.more {wo wr : World} {FB N : Nat} {say : SayM} {P : Nat → Nat → Prop} {R : Nat → Nat → Prop} {K : Nat} {qs : List Int} {j : Nat} {gv : Value} {L : List Nat} {zs : List Int} {left : Lit → Bool} {rr m m' : Nat} (h : MmI wo wr FB N say P R K qs j gv L zs left rr m) (hm : m ≤ m') : MmI wo wr FB N say P R K qs j gv L zs left rr m' := ⟨h.row, h.wk, h.own, h.ne, h.mem, Nat.le_trans h.len (Nat.add_le_add_left hm _), h.gr⟩
/-- they are all gone through -/
theorem MmI.done {wo wr : World} {FB N : Nat} {say : SayM} {P : Nat → Nat → Prop} {R : Nat → Nat → Prop} {K : Nat} {qs : List Int} {L0 : List Nat} {j : Nat} {gv : Value} {L : List Nat} {zs : List Int} {left : Lit → Bool} {rr m : Nat} (h : MmI wo wr FB N say P R K qs j gv L zs left rr m) (hl : ∀ k, left k = false) (hm : m ≤ K) (hrk : rkM L < rkM L0) : MrI wo wr FB N say P R K qs L0 (j + 1) gv L zs := by
  refine ⟨h.row, h.wk.weaken fun n hn ho => ?_, h.own, h.mem, Nat.le_trans h.len (by rw [Nat.succ_mul]; exact Nat.add_le_add_left hm _), .inr hrk, Nat.le_of_lt hrk, h.gr⟩
  rcases ho with ho | ho | ho
  · exact .inl ho
  · exact .inr ho
  · rw [hl] at ho; cases ho
/-- the next round -/
theorem MrI.next {w wo wr w8 w9 : World} {FB TB N : Nat} {cn : Nat → Nat} {say : SayM} {P : Nat → Nat → Prop} {R : Nat → Nat → Prop} {K : Nat} {av gv v' : Value} {qs zs : List Int} {L0 L : List Nat} (h : MrI wo wr FB N say P R K qs L0 qs.length gv L zs) (h0 : MsI w wo FB TB N cn say P R K av L0 qs) (hFT : FB < TB) (hg8 : wr.grownBy w8 gv.ownBlock) (hg9 : w8.grownBy w9 gv.ownBlock)
    (hask : AskM w9 FB v' (Lib.compact (zs.mergeSort fun x y => decide (x ≤ y)))) :
    MsI w w9 FB TB N cn say P R K v' L (Lib.compact (zs.mergeSort fun x y => decide (x ≤ y))) ∧ (Lib.compact (zs.mergeSort fun x y => decide (x ≤ y))).length ≤ N ∧ wo.grownBy w9 (some FB) ∧ 2 * rkM L + anyV v' < 2 * rkM L0 + 1 := by
  have hol : ∀ b, gv.ownBlock = some b → wo.heap.size ≤ b ∧ b < wr.heap.size := fun b hb => h.own.lt b hb
  have hFl := h0.row.lt
  have hmem : ∀ x, x ∈ Lib.compact (zs.mergeSort fun x y => decide (x ≤ y)) ↔ x ∈ zs := fun x => (mem_compact _ x).trans (mem_sortI zs x)
  have hne : gv.ownBlock ≠ some FB := fun e => by have := hol FB e; omega
  have hg : wo.grownBy w9 (some FB) := grown_more (grown_more h.gr hg8 (fun g e => .inl (hol g e).1)) hg9 (fun g e => .inl (hol g e).1)
  have hnm : ∀ x ∈ Lib.compact (zs.mergeSort fun x y => decide (x ≤ y)), 0 ≤ x ∧ x < N := fun x hx => h.mem x ((hmem x).1 hx)
  refine ⟨⟨(h.row.grown hg8 hne).grown hg9 hne, ?_, hask, hnm, h0.lnk.grown hg (by omega) (fun n hn => by show TB + 1 + n ≠ FB; omega)⟩, ?_, hg, ?_⟩
  · refine h.wk.weaken fun n hn ho => ?_
    rcases ho with ho | ho
    · simp at ho
    · exact (hmem _).2 ho
  · have := strict_len _ 0 N (strict_compact _ (sorted_sortI zs)) hnm (by omega)
    omega
  · have hle := h.le
    rcases h.dec with e | e
    · obtain ⟨a, c, hv⟩ := hask.slice
      have : Lib.compact (zs.mergeSort fun x y => decide (x ≤ y)) = [] := by
        apply List.eq_nil_iff_forall_not_mem.2
        intro x hx
        have := (hmem x).1 hx
        rw [e] at this; simp at this
      rw [this] at hv
      rw [hv]
      show 2 * rkM L + 0 < _
      omega
    · have : anyV v' ≤ 1 := by unfold anyV; split <;> omega
      omega

end Go.Proofs.YtmkimaceioacgaaDoor

namespace Go.Proofs.YtmkimaceioacgaaDoor
open Go.RowKit
open Go.Maps (Keyed)
set_option linter.unusedVariables false
set_option maxRecDepth 100000

/-- a set on its way: these of the parts are gone through -/
structure PtI (r : Nat → Nat → Prop) (f : Nat → Nat) (n : Nat) (left : Lit → Bool) (m : Nat) : Prop where
  lt : m < 512
  sound : ∀ i, m.testBit i = true → ∃ k, r n k ∧ (i = k ∨ (f k).testBit i = true)
  done : ∀ k, r n k → left (.int .i64 (k : Int)) = false → m.testBit k = true ∧ ∀ i, (f k).testBit i = true → m.testBit i = true
theorem PtI.start (r : Nat → Nat → Prop) (f : Nat → Nat) (n : Nat) (left : Lit → Bool) (hl : ∀ k, r n k → left (.int .i64 (k : Int)) = true) : PtI r f n left 0 :=
  ⟨by omega, fun i h => by simp at h, fun k hk h => by rw [hl k hk] at h; cases h⟩
theorem PtI.step {r : Nat → Nat → Prop} {f : Nat → Nat} {n : Nat} {left : Lit → Bool} {m : Nat} (h : PtI r f n left m) {q : Nat} (hq : r n q) (hq8 : q ≤ 8) (hf : f q < 512) : PtI r f n (fun z => left z && !z.sameKey (.int .i64 (q : Int))) ((m ||| 2 ^ q) ||| f q) := by
  refine ⟨mk_join (mk_or h.lt hq8) hf, fun i hi => ?_, fun k hk hl => ?_⟩
  · rw [Nat.testBit_or, Bool.or_eq_true, Nat.testBit_or, Bool.or_eq_true] at hi
    rcases hi with (hi | hi) | hi
    · exact h.sound i hi
    · have e : q = i := by simpa [Nat.testBit_two_pow] using hi
      exact ⟨q, hq, .inl e.symm⟩
    · exact ⟨q, hq, .inr hi⟩
  · by_cases e : k = q
    · subst e
      refine ⟨?_, fun i hi => ?_⟩
      · rw [Nat.testBit_or, Nat.testBit_or, Nat.testBit_two_pow]; simp
      · rw [Nat.testBit_or, hi, Bool.or_true]
    · have h3 : ¬ (k : Int) = (q : Int) := by omega
      have h4 : left (.int .i64 (k : Int)) = false := by simpa [Lit.sameKey, h3] using hl
      obtain ⟨h5, h6⟩ := h.done k hk h4
      refine ⟨?_, fun i hi => ?_⟩
      · rw [Nat.testBit_or, Nat.testBit_or, h5]; simp
      · rw [Nat.testBit_or, Nat.testBit_or, h6 i hi]; simp
theorem PtI.final {r : Nat → Nat → Prop} {f : Nat → Nat} {n : Nat} {left : Lit → Bool} {m : Nat} (h : PtI r f n left m) (hl : ∀ k, left k = false) {R : Nat} (hR : ∀ i, R.testBit i = true ↔ ∃ k, r n k ∧ (i = k ∨ (f k).testBit i = true)) : m = R := by
  apply Nat.eq_of_testBit_eq
  intro i
  rw [Bool.eq_iff_iff, hR]
  constructor
  · exact h.sound i
  · rintro ⟨k, hk, h1 | h1⟩
    · rw [h1]; exact (h.done k hk (hl _)).1
    · exact (h.done k hk (hl _)).2 i h1

theorem fillM_grown (w : World) (B m : Nat) : w.grownBy (fillM w B m) (some B) := by
  unfold fillM
  exact grown_more (grown_more (grown_more (grown_more (set_grown w B 0 _) (set_grown _ B _ _) (fun g e => .inr (by simpa using e.symm))) (set_grown _ B _ _) (fun g e => .inr (by simpa using e.symm))) (set_grown _ B _ _) (fun g e => .inr (by simpa using e.symm))) (set_grown _ B _ _) (fun g e => .inr (by simpa using e.symm))
def wx_facts (wx : World) (B q fq : Nat) : Prop := wx.cell? ⟨B, q * 5, none⟩ = some (.int .u64 fq) ∧ wx.cell? ⟨B, q * 5 + 1, none⟩ = some (.int .u64 0) ∧ wx.cell? ⟨B, q * 5 + 2, none⟩ = some (.int .u64 0) ∧ wx.cell? ⟨B, q * 5 + 3, none⟩ = some (.int .u64 0) ∧ wx.cell? ⟨B, q * 5 + 4, none⟩ = some (.int .u64 0) ∧ B < wx.heap.size

end Go.Proofs.YtmkimaceioacgaaDoor
