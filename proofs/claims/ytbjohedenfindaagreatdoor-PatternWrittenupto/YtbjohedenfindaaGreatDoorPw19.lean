/- Texts of the proof, put together: RRow, RRowB. -/
import Derived.Test.YtbjohedenfindaaGreatDoorPw18
namespace Go.Proofs.YtbjohedenfindaaGreatDoor
open Go.RowKit
set_option linter.unusedVariables false
set_option maxRecDepth 100000

/-- a list that is being read: Z says of a list and a place what is still to be read from there -/
structure LI (W0 w0 w : World) (R : Nat) (s : ByteArray) (i o : Nat) (Z : List Re → Nat → Prop) (v : Value) (vs : List Value) (j : Nat) : Prop where
  own : w.ownsRow w0.heap.size 22 1 v vs.length vs
  ptr : ∀ k, k < vs.length → ∃ p, vs.getD k .nilFunc = .pointer p
  hist : BR W0 w R s ∨ (SR W0 w0 R s i o ∧ ∃ l : List Re, vs.length = l.length ∧ (∀ k, k < l.length → ∃ t, l[k]? = some t ∧ Tree (fun b => w0.heap.size ≤ b ∧ v.ownBlock ≠ some b) w (vs.getD k .nilFunc) t) ∧ Z l j)

theorem LI.keep {W0 w0 w w' : World} {R i o j : Nat} {s : ByteArray} {Z : List Re → Nat → Prop} {v : Value} {vs : List Value} (h : LI W0 w0 w R s i o Z v vs j) (hR : R < w0.heap.size) (hg : w.grownBy w' (some R)) (hS : BR W0 w' R s ∨ SR W0 w R s j o) : LI W0 w0 w' R s i o Z v vs j := by
  refine ⟨h.own.kept hg ?_, h.ptr, ?_⟩
  · cases hb : v.ownBlock with
    | none => exact .inl rfl
    | some k => right; intro e; cases e; have := (h.own.lt R hb).1; omega
  · rcases hS with hB | hS
    · exact .inl hB
    · rcases h.hist with hB | ⟨h1, l, h2, h3, h4⟩
      · exact (hS.not_br hB).elim
      · refine .inr ⟨h1, l, h2, fun k hk => ?_, h4⟩
        obtain ⟨t, q1, q2⟩ := h3 k hk
        exact ⟨t, q1, Tree.grown q2 hg fun b hb e => by simp at e; omega⟩
theorem LI.slice {W0 w0 w : World} {R i o j : Nat} {s : ByteArray} {Z : List Re → Nat → Prop} {v : Value} {vs : List Value} (h : LI W0 w0 w R s i o Z v vs j) : ∃ a c, v = .slice a vs.length c := by
  rcases h.own.2 with ⟨rfl, h0⟩ | ⟨g, cap, cur, rfl, _⟩
  · exact ⟨none, 0, by rw [h0]⟩
  · exact ⟨_, _, rfl⟩

set_option maxHeartbeats 1000000 in
theorem rsev_first (kind : Int) (g cap : Nat) (p : Option Addr) (w : World) (hc : w.cell? ⟨g, 0, none⟩ = some (.pointer p)) :
    Calls Tryz.prog 46 #[.int .i64 kind, .slice (some ⟨g, 0, none⟩) 1 cap] w fun e w' => e = .returned (.pointer p) ∧ w' = w := by
  go_enter Tryz.func46, Tryz.ntmps46
  go_wp2
  go_ret
  exact ⟨rfl, rfl⟩

/-- several, whatever the state -/
theorem LI.several {W0 w0 w : World} {R i o j : Nat} {s : ByteArray} {Z : List Re → Nat → Prop} {v : Value} {vs : List Value} (kind : Int) (h : LI W0 w0 w R s i o Z v vs j) (hsz : w0.heap.size ≤ w.heap.size) :
    Calls Tryz.prog 46 #[.int .i64 kind, v] w fun e w' => ∃ p, e = .returned (.pointer p) ∧ (∀ row, w.grownBy w' row) ∧ (BR W0 w' R s ∨ (SR W0 w0 R s i o ∧ ∃ l, Z l j ∧ RT' w0.heap.size w' (.pointer p) (gatherS kind l))) := by
  rcases h.hist with hB | ⟨h1, l, h2, h3, h4⟩
  · by_cases hn : vs.length = 1
    · have hc := fun (g cap : Nat) (e : v = .slice (some ⟨g, 0, none⟩) vs.length cap) => World.ownsRow.cellAt (e ▸ h.own) 0 (by omega)
      rcases h.own.2 with ⟨_, h0⟩ | ⟨g, cap, cur, e, _⟩
      · omega
      · obtain ⟨p, hp⟩ := h.ptr 0 (by omega)
        have hc' : w.cell? ⟨g, 0, none⟩ = some (.pointer p) := by
          rw [hc g cap e, ← hp]
          simp [List.getD_eq_getElem?_getD, List.getElem?_eq_getElem (show 0 < vs.length by omega)]
        rw [e, hn]
        refine (rsev_first kind g cap p w hc').mono ?_
        rintro e w' ⟨rfl, rfl⟩
        exact ⟨p, rfl, fun row => grown_self _ _, .inl hB⟩
    · obtain ⟨a, c, rfl⟩ := h.slice
      refine (rsev_more kind a vs.length c w hn).mono ?_
      rintro e w' ⟨rfl, rfl⟩
      exact ⟨_, rfl, fun row => World.grownBy_alloc w _ row, .inl (hB.kept (World.grownBy_alloc w _ none))⟩
  · refine (rsev_any (B := w0.heap.size) kind v l w hsz ⟨vs, h2, h.own, h3⟩).mono ?_
    rintro e w' ⟨x, rfl, hT, hg⟩
    obtain ⟨b, rfl, _⟩ := hT.ptr
    exact ⟨_, rfl, hg, .inr ⟨h1, l, h4, hT⟩⟩

/-- one more -/
theorem LI.snoc {W0 w0 w2 w3 w5 : World} {R i o j j3 : Nat} {s : ByteArray} {Z Z' : List Re → Nat → Prop} {v v' : Value} {vs : List Value} {p : Option Addr} {r : Option (Re × Nat)} {ob : Obj} (h : LI W0 w0 w2 R s i o Z v vs j) (hR : R < w0.heap.size) (hs2 : w0.heap.size ≤ w2.heap.size) (hg3 : w2.grownBy w3 (some R)) (hx3 : XR W0 w3 R s j3 o) (hh3 : BR W0 w3 R s ∨ (SR W0 w2 R s j o ∧ ∃ t, r = some (t, j3) ∧ RT' w2.heap.size w3 (.pointer p) t))
    (hown : w5.ownsRow w0.heap.size 22 1 v' (vs.length + 1) (vs ++ [.pointer p])) (hg : (w3.alloc ob).grownBy w5 v.ownBlock) (hat : v'.ownBlock = v.ownBlock ∨ v'.ownBlock = some (w3.alloc ob).heap.size) (hZ : ∀ l t, r = some (t, j3) → Z l j → Z' (l ++ [t]) j3) :
    LI W0 w0 w5 R s i o Z' v' (vs ++ [.pointer p]) j3 ∧ XR W0 w5 R s j3 o ∧ w3.grownBy w5 v.ownBlock ∧ (BR W0 w3 R s → BR W0 w5 R s) ∧ (BR W0 w5 R s → BR W0 w3 R s) := by
  have hlt : ∀ q, v.ownBlock = some q → w0.heap.size ≤ q ∧ q < w2.heap.size := fun q hq => h.own.lt q hq
  have hs3 := hg3.size
  have h16 := hx3.r16
  have hb5 : ∀ b, b < w3.heap.size → v.ownBlock ≠ some b → w5.heap[b]? = w3.heap[b]? := fun b hb hn => (hg.block b (by simp; omega) (fun e => hn e.symm)).trans (Below.heap_alloc w3 ob b hb)
  have hsz5 : w3.heap.size ≤ w5.heap.size := Nat.le_trans (by simp) hg.size
  have hRlt := hx3.lt
  have hkeep : ∀ b, b = R ∨ b < 16 → w5.heap[b]? = w3.heap[b]? := fun b hb => hb5 b (by omega) (fun e => by have := hlt b e; omega)
  have hx5 := hx3.other hsz5 hkeep
  have hbr : BR W0 w3 R s → BR W0 w5 R s := fun hB => by
    obtain ⟨i1, o1, te, pe, z, h1, h2, hz⟩ := hB.at_
    exact ⟨⟨Nat.le_trans hB.env.1 hsz5, fun k hk => (hkeep k (.inr hk)).trans (hB.env.2 k hk)⟩, ⟨i1, o1, te, pe, z, h1, h2, (hkeep R (.inl rfl)).trans hz⟩, hB.r16, hB.text⟩
  refine ⟨⟨by simpa using hown, fun k hk => ?_, ?_⟩, hx5, ⟨hg.os, hg.tape, hg.output, hsz5, fun b hb hn => hb5 b hb (fun e => hn e.symm)⟩, hbr, fun hB => ?_⟩
  · by_cases hkv : k < vs.length
    · obtain ⟨q, hq⟩ := h.ptr k hkv
      exact ⟨q, by rw [← hq]; simp [List.getD_eq_getElem?_getD, List.getElem?_append_left hkv]⟩
    · have : k = vs.length := by simp at hk; omega
      subst this
      exact ⟨p, by simp [List.getD_eq_getElem?_getD]⟩
  · rcases hh3 with hB | ⟨hS2, t, hr, hT⟩
    · exact .inl (hbr hB)
    · rcases h.hist with hB | ⟨h1, l, h2, h3, h4⟩
      · exact (hS2.not_br hB).elim
      · have hall3 : ∀ k, k < l.length → ∃ t, l[k]? = some t ∧ Tree (fun b => w0.heap.size ≤ b ∧ v.ownBlock ≠ some b) w3 (vs.getD k .nilFunc) t := fun k hk => by
          obtain ⟨t', q1, q2⟩ := h3 k hk
          exact ⟨t', q1, Tree.grown q2 hg3 fun b hb e => by simp at e; omega⟩
        have hT3 : Tree (fun b => w0.heap.size ≤ b ∧ v.ownBlock ≠ some b) w3 (.pointer p) t := Tree.imp hT fun b _ hb => ⟨by omega, fun e => by have := (hlt b e).2; omega⟩
        have hmv : ∀ {x : Value} {t : Re}, Tree (fun b => w0.heap.size ≤ b ∧ v.ownBlock ≠ some b) w3 x t → Tree (fun b => w0.heap.size ≤ b ∧ v'.ownBlock ≠ some b) w5 x t := fun hx => Tree.moved hx hsz5 fun b hb hok => ⟨⟨hok.1, by
          rcases hat with e | e
          · rw [e]; exact hok.2
          · rw [e]; simp; omega⟩, hb5 b hb hok.2⟩
        refine .inr ⟨h1, l ++ [t], by simp [h2], fun k hk => ?_, hZ l t hr h4⟩
        by_cases hkl : k < l.length
        · obtain ⟨t', q1, q2⟩ := hall3 k hkl
          refine ⟨t', by rw [List.getElem?_append_left hkl]; exact q1, ?_⟩
          have e : (vs ++ [Value.pointer p]).getD k .nilFunc = vs.getD k .nilFunc := by
            simp [List.getD_eq_getElem?_getD, List.getElem?_append_left (show k < vs.length by omega)]
          rw [e]
          exact hmv q2
        · have hkk : k = l.length := by simp at hk; omega
          subst hkk
          refine ⟨t, by simp, ?_⟩
          have e : (vs ++ [Value.pointer p]).getD l.length .nilFunc = .pointer p := by
            simp [List.getD_eq_getElem?_getD, ← h2]
          rw [e]
          exact hmv hT3
  · rcases hx3 with ⟨hS3, _⟩ | hB3
    · obtain ⟨z, hz⟩ := hS3.at_
      exact (sr_not_br (i := j3) (o := o) ⟨⟨Nat.le_trans hS3.env.1 hsz5, fun k hk => (hkeep k (.inr hk)).trans (hS3.env.2 k hk)⟩, ⟨z, (hkeep R (.inl rfl)).trans hz⟩, hS3.r16, hS3.text, hS3.inn⟩ hB).elim
    · exact hB3

/-- what is to be read of a row from here on -/
def RowZ (s : ByteArray) (u : Nat → Option (Re × Nat)) (res : Option (List Re × Nat)) (l : List Re) (j : Nat) : Prop := ∃ f, res = rowS s u f l j ∧ s.size + 1 ≤ f + j
theorem RowZ.stop {s : ByteArray} {u : Nat → Option (Re × Nat)} {res : Option (List Re × Nat)} {l : List Re} {j : Nat} (h : RowZ s u res l j) (hj : j ≤ s.size) (he : rowEndS (cpAt s j) = true) : res = some (l, j) := by
  obtain ⟨f, h1, h2⟩ := h
  obtain ⟨f', rfl⟩ : ∃ f', f = f' + 1 := ⟨f - 1, by omega⟩
  rw [h1, rowS_eq, he]
  rfl
theorem RowZ.next {s : ByteArray} {u : Nat → Option (Re × Nat)} {res : Option (List Re × Nat)} {l : List Re} {j j3 : Nat} {t : Re} (h : RowZ s u res l j) (hj : j ≤ s.size) (he : rowEndS (cpAt s j) = false) (hr : ((u j).bind fun x => partS s (s.size + 1) x.1 x.2) = some (t, j3)) (hlt : j < j3) : RowZ s u res (l ++ [t]) j3 := by
  obtain ⟨f, h1, h2⟩ := h
  obtain ⟨f', rfl⟩ : ∃ f', f = f' + 1 := ⟨f - 1, by omega⟩
  refine ⟨f', ?_, by omega⟩
  rw [h1, rowS_eq, he, hr]
  rfl

/-- where a byte that belongs to no point stands, no row goes on -/
theorem rowS_broken {s : ByteArray} {u : Nat → Option (Re × Nat)} {j : Nat} (hu : u j = none) (h2 : cpAt s j = -2) : ∀ (f : Nat) (l : List Re), rowS s u f l j = none
  | 0, l => rfl
  | f + 1, l => by
    have he : rowEndS (cpAt s j) = false := by rw [h2]; rfl
    rw [rowS_eq, he, hu]
    rfl
theorem RowZ.bad {s : ByteArray} {u : Nat → Option (Re × Nat)} {res : Option (List Re × Nat)} {l : List Re} {j : Nat} (h : RowZ s u res l j) (hu : u j = none) (h2 : cpAt s j = -2) : res = none := by
  obtain ⟨f, h1, _⟩ := h
  rw [h1, rowS_broken hu h2]
theorem RowZ.bad2 {s : ByteArray} {u : Nat → Option (Re × Nat)} {res : Option (List Re × Nat)} {l : List Re} {j : Nat} (h : RowZ s u res l j) (hj : j ≤ s.size) (he : rowEndS (cpAt s j) = false) (hu : ∀ k, cpAt s k = -2 → u k = none) (hr : BadR s ((u j).bind fun x => partS s (s.size + 1) x.1 x.2)) : res = none := by
  obtain ⟨f, h1, h2⟩ := h
  obtain ⟨f', rfl⟩ : ∃ f', f = f' + 1 := ⟨f - 1, by omega⟩
  rw [h1, rowS_eq, he]
  rcases hr with hr | ⟨t, k, hr, hk⟩
  · rw [hr]; rfl
  · rw [hr]
    exact rowS_broken (hu k hk) hk f' _
theorem rowS_end {s : ByteArray} {u : Nat → Option (Re × Nat)} : ∀ (f : Nat) {acc out : List Re} {i j : Nat}, rowS s u f acc i = some (out, j) → rowEndS (cpAt s j) = true
  | 0, _, _, _, _, h => by cases h
  | f + 1, acc, out, i, j, h => by
    rw [rowS_eq] at h
    cases he : rowEndS (cpAt s i) with
    | true =>
      rw [he] at h
      simp only [Option.some.injEq, Prod.mk.injEq, if_true] at h
      rw [← h.2, he]
    | false =>
      rw [he] at h
      cases hr : (u i).bind fun x => partS s (s.size + 1) x.1 x.2 with
      | none => rw [hr] at h; cases h
      | some x =>
        rw [hr] at h
        exact rowS_end f h

theorem LI.turn {W0 w0 w : World} {R i o j j' : Nat} {s : ByteArray} {Z Z' : List Re → Nat → Prop} {v : Value} {vs : List Value} (h : LI W0 w0 w R s i o Z v vs j) (hZ : ∀ l, Z l j → Z' l j') : LI W0 w0 w R s i o Z' v vs j' :=
  ⟨h.own, h.ptr, h.hist.elim .inl fun ⟨h1, l, h2, h3, h4⟩ => .inr ⟨h1, l, h2, h3, hZ l h4⟩⟩
/-- what is to be read from here on, where a sign stands between each two -/
def SevZ (s : ByteArray) (sign : Int) (r : Nat → Option (Re × Nat)) (res : Option (List Re × Nat)) (l : List Re) (j : Nat) : Prop := (∃ f, res = sevS s sign r f l j ∧ s.size + 1 ≤ f + j) ∧ cpAt s j ≠ -2
/-- .. behind a sign -/
def SevY (s : ByteArray) (sign : Int) (r : Nat → Option (Re × Nat)) (res : Option (List Re × Nat)) (l : List Re) (j : Nat) : Prop := ∃ f, (∀ t k, r j = some (t, k) → res = sevS s sign r f (l ++ [t]) k) ∧ s.size + 1 ≤ f + j ∧ (r j = none → res = none)
theorem SevZ.stop {s : ByteArray} {sign : Int} {r : Nat → Option (Re × Nat)} {res : Option (List Re × Nat)} {l : List Re} {j : Nat} (h : SevZ s sign r res l j) (hj : j ≤ s.size) (he : cpAt s j ≠ sign) : res = some (l, j) := by
  obtain ⟨⟨f, h1, h2⟩, _⟩ := h
  obtain ⟨f', rfl⟩ : ∃ f', f = f' + 1 := ⟨f - 1, by omega⟩
  rw [h1, sevS, if_neg he]
theorem SevZ.sign {s : ByteArray} {sign : Int} {r : Nat → Option (Re × Nat)} {res : Option (List Re × Nat)} {l : List Re} {j : Nat} (h : SevZ s sign r res l j) (hj : j ≤ s.size) (he : cpAt s j = sign) : SevY s sign r res l (j + 1) := by
  obtain ⟨⟨f, h1, h2⟩, _⟩ := h
  obtain ⟨f', rfl⟩ : ∃ f', f = f' + 1 := ⟨f - 1, by omega⟩
  exact ⟨f', fun t k hr => by rw [h1, sevS, if_pos he, hr], by omega, fun hr => by rw [h1, sevS, if_pos he, hr]⟩
theorem SevY.next {s : ByteArray} {sign : Int} {r : Nat → Option (Re × Nat)} {res : Option (List Re × Nat)} {l : List Re} {j k : Nat} {t : Re} (h : SevY s sign r res l j) (hr : r j = some (t, k)) (hk : j ≤ k) (hE : cpAt s k ≠ -2) : SevZ s sign r res (l ++ [t]) k := by
  obtain ⟨f, h1, h2, _⟩ := h
  exact ⟨⟨f, h1 t k hr, by omega⟩, hE⟩
theorem sevS_end {s : ByteArray} {sign : Int} {r : Nat → Option (Re × Nat)} (hE : ∀ i t j, r i = some (t, j) → cpAt s j ≠ -2) : ∀ (f : Nat) {acc out : List Re} {i j : Nat}, cpAt s i ≠ -2 → sevS s sign r f acc i = some (out, j) → cpAt s j ≠ -2
  | 0, _, _, _, _, _, h => by cases h
  | f + 1, acc, out, i, j, hi, h => by
    rw [sevS] at h
    split at h
    · split at h
      · cases h
      · rename_i p k hr
        exact sevS_end hE f (hE _ _ _ hr) h
    · simp only [Option.some.injEq, Prod.mk.injEq] at h
      rw [← h.2]; exact hi
/-- the first one -/
theorem LI.first {W0 w w1 : World} {R i o j : Nat} {s : ByteArray} {Z : List Re → Nat → Prop} {p : Option Addr} {r : Option (Re × Nat)} (hR : R < w.heap.size) (hg : w.grownBy w1 (some R)) (hx : XR W0 w1 R s j o) (hh : BR W0 w1 R s ∨ (SR W0 w R s i o ∧ ∃ t, r = some (t, j) ∧ RT' w.heap.size w1 (.pointer p) t)) (hZ : ∀ t, r = some (t, j) → Z [t] j) :
    LI W0 w (w1.alloc (.cells #[.pointer p] 22)) R s i o Z (.slice (some ⟨w1.heap.size, 0, none⟩) 1 1) [.pointer p] j ∧ XR W0 (w1.alloc (.cells #[.pointer p] 22)) R s j o ∧ w.grownBy (w1.alloc (.cells #[.pointer p] 22)) (some R) := by
  have hga : ∀ row, w1.grownBy (w1.alloc (.cells #[.pointer p] 22)) row := fun row => World.grownBy_alloc w1 _ row
  refine ⟨⟨⟨rfl, .inr ⟨w1.heap.size, 1, #[.pointer p], rfl, hg.size, heap_alloc_new w1 _, by simp, by unfold maxLen; omega, rfl, rfl⟩⟩, fun k hk => ⟨p, by have : k = 0 := by { simp at hk; exact hk }; subst this; rfl⟩, ?_⟩, hx.kept (hga none), Lib.grownBy_trans hg (hga _)⟩
  rcases hh with hB | ⟨h1, t, h2, h3⟩
  · exact .inl (hB.kept (hga none))
  · refine .inr ⟨h1, [t], rfl, fun k hk => ?_, hZ t h2⟩
    have : k = 0 := by simp at hk; exact hk
    subst this
    refine ⟨t, rfl, Tree.moved h3 (by simp) fun b hb hok => ⟨⟨hok, ?_⟩, Below.heap_alloc w1 _ b hb⟩⟩
    simp [Value.ownBlock]
    omega

end Go.Proofs.YtbjohedenfindaaGreatDoor

namespace Go.Proofs.YtbjohedenfindaaGreatDoor
open Go.RowKit
set_option linter.unusedVariables false
set_option maxRecDepth 100000

theorem rowEnd_iff (c : Int) : rowEndS c = true ↔ (c = 124 ∨ c = 38 ∨ c = 41 ∨ c = -1) := by
  simp [rowEndS]

set_option maxHeartbeats 4000000 in
theorem rrow_any {W0 : World} (L : LibR W0) {R o : Nat} {s : ByteArray} {u : Nat → Option (Re × Nat)} (U : RUnitC W0 R s o u) (hG : Goes s fun i => (u i).bind fun x => partS s (s.size + 1) x.1 x.2) (hUB : ∀ k, cpAt s k = -2 → u k = none) {w : World} {i : Nat} (h : XR W0 w R s i o) :
    Calls Tryz.prog 73 #[.pointer (some ⟨R, 0, none⟩)] w fun e w' => GotT W0 w R s i o (rowReS s u i) e w' := by
  obtain ⟨i0, hi0, hz0, hz1, hz2⟩ := info_parts Tryz.infoPRe
  have hRB := h.lt
  have htx := h.text
  have HU : Hid (RUnitC W0 R s o u) := U
  have HGo : Hid (Goes s fun i => (u i).bind fun x => partS s (s.size + 1) x.1 x.2) := hG
  have hini : XR W0 w R s i o ∧ LI W0 w w R s i o (RowZ s u (rowS s u (s.size + 1) [] i)) (.slice none 0 0) [] i := by
    refine ⟨h, ⟨rfl, .inl ⟨rfl, rfl⟩⟩, fun k hk => by simp at hk, ?_⟩
    rcases h with ⟨h, _⟩ | h
    · exact .inr ⟨h, [], rfl, fun k hk => by simp at hk, s.size + 1, rfl, by omega⟩
    · exact .inl h
  have HI : Hid (XR W0 w R s i o ∧ LI W0 w w R s i o (RowZ s u (rowS s u (s.size + 1) [] i)) (.slice none 0 0) [] i) := hini
  have HRes : Hid (rowReS s u i = (rowS s u (s.size + 1) [] i).map fun x => (gatherS 2 x.1, x.2)) := rfl
  have HUB : Hid (∀ k, cpAt s k = -2 → u k = none) := hUB
  have HB0 : Hid (SR W0 w R s i o → BR W0 w R s → rowS s u (s.size + 1) [] i = none) := fun hS hB => (sr_not_br hS hB).elim
  clear U hG h hini hUB
  generalize rowS s u (s.size + 1) [] i = res at *
  go_enter Tryz.func73, Tryz.ntmps73
  go_wp2
  go_loopw [3] (fun x wr => ∃ (v : Value) (vs : List Value) (j : Nat), x = v ∧ Hid (XR W0 wr R s j o) ∧ Hid (w.grownBy wr (some R)) ∧ Hid (LI W0 w wr R s i o (RowZ s u res) v vs j) ∧ vs.length ≤ s.size + 1 ∧ Hid (BR W0 wr R s ∨ vs.length ≤ j) ∧ Hid (SR W0 w R s i o → BR W0 wr R s → res = none)) (fun _ wr => mea s R wr)
  case atStart => exact ⟨_, [], i, rfl, HI.out.1, grown_self _ _, HI.out.2, by simp, .inr (by simp), HB0⟩
  case round =>
    clear HI HB0
    obtain ⟨v, vs, j, rfl, HX, HG, HL, hvl, HN, HBr⟩ := hrel
    obtain ⟨va, vc, rfl⟩ := HL.out.slice
    go_wp2_with fail
    go_at_call 74
    refine (now_x L HX.out).mono ?_
    rintro e w2 ⟨c, rfl, c0, c1, hg2, hx2, hh2, hh2n⟩
    have hL2 : LI W0 w w2 R s i o (RowZ s u res) (.slice va vs.length vc) vs j := HL.out.keep hRB hg2 (hh2.elim (fun h => .inl h.1) fun h => .inr h.1)
    have hgr2 := Lib.grownBy_trans HG.out hg2
    have hsz2 := hgr2.size
    by_cases hend : c < 0 ∨ c = 124 ∨ c = 38 ∨ c = 41
    · have HSev : Hid (Calls Tryz.prog 46 #[.int .i64 2, .slice va vs.length vc] w2 fun e w' => GotT W0 w R s i o (rowReS s u i) e w') := by
        refine (hL2.several 2 hsz2).mono ?_
        rintro e w3 ⟨p, rfl, hg3, hh3⟩
        refine ⟨p, j, rfl, Lib.grownBy_trans hgr2 (hg3 _), hx2.kept (hg3 none), ?_, fun hS0 hB3 => ?_⟩
        · rcases hh3 with hB | ⟨q1, l, q2, q3⟩
          · exact .inl hB
          · rcases hh2 with ⟨hB, _⟩ | ⟨k1, k2, k3⟩
            · exact .inl (hB.kept (hg3 none))
            · refine .inr ⟨q1, _, ?_, q3⟩
              rw [HRes.out, q2.stop k1.inn ((rowEnd_iff _).2 (by omega))]
              rfl
        · have hB2 := hx2.back (hg3 none) hB3
          have hrn : res = none := by
            rcases HX.out with ⟨hSr, _⟩ | hBr
            · have h2 := hh2n hSr hB2
              rcases HL.out.hist with hB | ⟨_, l, _, _, hZ⟩
              · exact (sr_not_br hSr hB).elim
              · exact hZ.bad (HUB.out j h2) h2
            · exact HBr.out hS0 hBr
          rw [HRes.out, hrn]
          rfl
      have hcc : decide (c < 0) = true ∨ c = 124 ∨ c = 38 ∨ c = 41 := hend.elim (fun h => .inl (by simp; omega)) .inr
      clear hend hh2 hh2n hx2 hg2 hL2 HX HG HL HN HBr
      rcases hcc with hcc | rfl | rfl | rfl
      all_goals
        go_wp2_with fail
        go_at_call 46
        refine HSev.out.mono ?_
        intro e w3 hGt
        obtain ⟨p, j3, rfl, q1, q2, q3, q4⟩ := hGt
        have HQ : Hid (GotT W0 w R s i o (rowReS s u i) (.returned (.pointer p)) w3) := ⟨p, j3, rfl, q1, q2, q3, q4⟩
        clear q1 q2 q3 q4
        go_wp2
        go_ret
        exact HQ.out
    · obtain ⟨k1, k2, k3⟩ : SR W0 wr R s j o ∧ c = cpAt s j ∧ SR W0 w2 R s j o := by
        rcases hh2 with ⟨_, e⟩ | h
        · omega
        · exact h
      have m1 : ¬ c < 0 := by omega
      have m2 : (c == 124) = false := by rw [beq_eq_false_iff_ne]; omega
      have m3 : (c == 38) = false := by rw [beq_eq_false_iff_ne]; omega
      have m4 : (c == 41) = false := by rw [beq_eq_false_iff_ne]; omega
      have HEnd : Hid (rowEndS (cpAt s j) = false) := by
        show _ = _
        rw [← Bool.not_eq_true, rowEnd_iff]
        omega
      have hvj : vs.length ≤ j := HN.out.elim (fun hB => (k1.not_br hB).elim) id
      have hjs := k1.inn
      have HL2 : Hid (LI W0 w w2 R s i o (RowZ s u res) (.slice va vs.length vc) vs j) := hL2
      have HX2 : Hid (XR W0 w2 R s j o) := hx2
      have HK1 : Hid (SR W0 wr R s j o) := k1
      have HK3 : Hid (SR W0 w2 R s j o) := k3
      have HG2 : Hid (w.grownBy w2 (some R)) := hgr2
      clear hend hh2 hh2n hx2 hg2 hL2 HX HG HL HN k1 k2 k3 hgr2 HBr
      go_wp2_with fail
      go_at_call 106
      refine (rpart_any L HU.out HX2.out).mono ?_
      rintro e w3 ⟨p, j3, rfl, hg3, hx3, hh3, hh3n⟩
      have HS : Hid (∀ v' w5 ob, w5.ownsRow w.heap.size 22 1 v' (vs.length + 1) (vs ++ [.pointer p]) → (w3.alloc ob).grownBy w5 (Value.slice va vs.length vc).ownBlock → (v'.ownBlock = (Value.slice va vs.length vc).ownBlock ∨ v'.ownBlock = some (w3.alloc ob).heap.size) → XR W0 w5 R s j3 o ∧ w.grownBy w5 (some R) ∧ LI W0 w w5 R s i o (RowZ s u res) v' (vs ++ [.pointer p]) j3 ∧ mea s R w5 < mea s R wr ∧ (BR W0 w5 R s ∨ vs.length + 1 ≤ j3) ∧ (SR W0 w R s i o → BR W0 w5 R s → res = none)) := by
        intro v' w5 ob hown hg5 hat
        have hlt : BR W0 w3 R s ∨ j < j3 := by
          rcases hh3 with hB | ⟨q1, t, q2, q3⟩
          · exact .inl hB
          · exact .inr (HGo.out j t j3 hjs q2).1
        obtain ⟨a1, a2, a3, a4, a5⟩ := HL2.out.snoc hRB hsz2 hg3 hx3 hh3 hown hg5 hat (fun l t hr hZ => by
          have := (HGo.out j t j3 hjs hr).1
          exact hZ.next hjs HEnd.out hr this)
        have hg35 := Lib.grownBy_trans HG2.out hg3
        refine ⟨a2, grownBy_own (Lib.grownBy_allocR hg35 ob) hg5 (fun q hq => (HL2.out.own.lt q hq).1), a1, mea_x HK1.out a2 (hlt.imp a4 id), hlt.imp a4 (fun h => by omega), fun hS0 hB5 => ?_⟩
        rcases HL2.out.hist with hB | ⟨_, l, _, _, hZ⟩
        · exact (sr_not_br HK3.out hB).elim
        · exact hZ.bad2 hjs HEnd.out HUB.out (hh3n HK3.out (a5 hB5))
      have hown3 : w3.ownsRow w.heap.size 22 1 (.slice va vs.length vc) vs.length vs := HL2.out.own.kept hg3 (by
        cases hb : (Value.slice va vs.length vc).ownBlock with
        | none => exact .inl rfl
        | some k => right; intro e; cases e; have := (HL2.out.own.lt R hb).1; omega)
      have hsz3 : w.heap.size ≤ w3.heap.size := Nat.le_trans hsz2 hg3.size
      clear hh3 hh3n hx3 hg3 HL2 HX2 HK1 HK3 HG2
      go_wp2_with (at_builtin; refine wpList_append_own_at _ rfl _ _ 46 rfl w.heap.size 22 i0 (.pointer none) 1 8 Tryz.underlying46 hi0 hz0 hz1 hz2 rfl (by decide) _ _ _ rfl (World.ownsRow.alloc hown3 _) ⟨w3.heap.size, 0, none⟩ 1 1 [.pointer p] rfl rfl ?c1 ?c2 ?c3 ?c4 ?c5 ?_)
      case c1 => exact cell_one_new w3 _ _
      case c2 => intro u hu; simp at hu; subst hu; rfl
      case c3 => unfold maxLen; omega
      case c4 => omega
      case c5 => simp; omega
      · intro v' w5 hown' hgrow _ hat
        obtain ⟨b1, b2, b3, b4, b5, b6⟩ := HS.out v' w5 _ hown' hgrow (by simpa using hat)
        have B1 : Hid (XR W0 w5 R s j3 o) := b1
        have B2 : Hid (w.grownBy w5 (some R)) := b2
        have B3 : Hid (LI W0 w w5 R s i o (RowZ s u res) v' (vs ++ [.pointer p]) j3) := b3
        have B4 : Hid (mea s R w5 < mea s R wr) := b4
        have B5 : Hid (BR W0 w5 R s ∨ vs.length + 1 ≤ j3) := b5
        have B6 : Hid (SR W0 w R s i o → BR W0 w5 R s → res = none) := b6
        clear b1 b2 b3 b4 b5 b6 hown' hgrow hat HS hown3
        go_wp2
        go_roundw
        case rel => exact ⟨v', vs ++ [.pointer p], j3, rfl, B1, B2, B3, by simp; omega, by show _ ∨ _; simpa using B5.out, B6⟩
        case measure => exact B4.out

end Go.Proofs.YtbjohedenfindaaGreatDoor
