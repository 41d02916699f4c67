/- Texts of the proof, put together: RRow, RRowB, RBoA. -/
import Derived.Test.YtbjohedenfindaaGreatDoorPb14
import Derived.Test.YtbjohedenfindaaGreatDoorPb16
namespace Go.Proofs.YtbjohedenfindaaGreatDoor
open Go.RowKit
set_option linter.unusedVariables false
set_option maxRecDepth 100000

/-- a list that is being read: Z says of a list and a place what is still to be read from there -/
structure LI (W0 w0 w : World) (R : Nat) (s : ByteArray) (i o : Nat) (Z : List Re → Nat → Prop) (v : Value) (vs : List Value) (j : Nat) : Prop where
  own : w.ownsRow w0.heap.size 22 1 v vs.length vs
  ptr : ∀ k, k < vs.length → ∃ p, vs.getD k .nilFunc = .pointer p
  hist : BR W0 w R s ∨ (SR W0 w0 R s i o ∧ ∃ l : List Re, vs.length = l.length ∧ (∀ k, k < l.length → ∃ t, l[k]? = some t ∧ Tree (fun b => w0.heap.size ≤ b ∧ v.ownBlock ≠ some b) w (vs.getD k .nilFunc) t) ∧ Z l j)

theorem LI.keep {W0 w0 w w' : World} {R i o j : Nat} {s : ByteArray} {Z : List Re → Nat → Prop} {v : Value} {vs : List Value} (h : LI W0 w0 w R s i o Z v vs j) (hR : R < w0.heap.size) (hg : w.grownBy w' (some R)) (hS : BR W0 w' R s ∨ SR W0 w R s j o) : LI W0 w0 w' R s i o Z v vs j := by
  refine ⟨h.own.kept hg ?_, h.ptr, ?_⟩
  · cases hb : v.ownBlock with
    | none => exact .inl rfl
    | some k => right; intro e; cases e; have := (h.own.lt R hb).1; omega
  · rcases hS with hB | hS
    · exact .inl hB
    · rcases h.hist with hB | ⟨h1, l, h2, h3, h4⟩
      · exact (hS.not_br hB).elim
      · refine .inr ⟨h1, l, h2, fun k hk => ?_, h4⟩
        obtain ⟨t, q1, q2⟩ := h3 k hk
        exact ⟨t, q1, Tree.grown q2 hg fun b hb e => by simp at e; omega⟩
theorem LI.slice {W0 w0 w : World} {R i o j : Nat} {s : ByteArray} {Z : List Re → Nat → Prop} {v : Value} {vs : List Value} (h : LI W0 w0 w R s i o Z v vs j) : ∃ a c, v = .slice a vs.length c := by
  rcases h.own.2 with ⟨rfl, h0⟩ | ⟨g, cap, cur, rfl, _⟩
  · exact ⟨none, 0, by rw [h0]⟩
  · exact ⟨_, _, rfl⟩

set_option maxHeartbeats 1000000 in
theorem rsev_first (kind : Int) (g cap : Nat) (p : Option Addr) (w : World) (hc : w.cell? ⟨g, 0, none⟩ = some (.pointer p)) :
    Calls Tryz.prog 46 #[.int .i64 kind, .slice (some ⟨g, 0, none⟩) 1 cap] w fun e w' => e = .returned (.pointer p) ∧ w' = w := by
  go_enter Tryz.func46, Tryz.ntmps46
  go_wp2
  go_ret
  exact ⟨rfl, rfl⟩

/-- several, whatever the state -/
theorem LI.several {W0 w0 w : World} {R i o j : Nat} {s : ByteArray} {Z : List Re → Nat → Prop} {v : Value} {vs : List Value} (kind : Int) (h : LI W0 w0 w R s i o Z v vs j) (hsz : w0.heap.size ≤ w.heap.size) :
    Calls Tryz.prog 46 #[.int .i64 kind, v] w fun e w' => ∃ p, e = .returned (.pointer p) ∧ (∀ row, w.grownBy w' row) ∧ (BR W0 w' R s ∨ (SR W0 w0 R s i o ∧ ∃ l, Z l j ∧ RT' w0.heap.size w' (.pointer p) (gatherS kind l))) := by
  rcases h.hist with hB | ⟨h1, l, h2, h3, h4⟩
  · by_cases hn : vs.length = 1
    · have hc := fun (g cap : Nat) (e : v = .slice (some ⟨g, 0, none⟩) vs.length cap) => World.ownsRow.cellAt (e ▸ h.own) 0 (by omega)
      rcases h.own.2 with ⟨_, h0⟩ | ⟨g, cap, cur, e, _⟩
      · omega
      · obtain ⟨p, hp⟩ := h.ptr 0 (by omega)
        have hc' : w.cell? ⟨g, 0, none⟩ = some (.pointer p) := by
          rw [hc g cap e, ← hp]
          simp [List.getD_eq_getElem?_getD, List.getElem?_eq_getElem (show 0 < vs.length by omega)]
        rw [e, hn]
        refine (rsev_first kind g cap p w hc').mono ?_
        rintro e w' ⟨rfl, rfl⟩
        exact ⟨p, rfl, fun row => grown_self _ _, .inl hB⟩
    · obtain ⟨a, c, rfl⟩ := h.slice
      refine (rsev_more kind a vs.length c w hn).mono ?_
      rintro e w' ⟨rfl, rfl⟩
      exact ⟨_, rfl, fun row => World.grownBy_alloc w _ row, .inl (hB.kept (World.grownBy_alloc w _ none))⟩
  · refine (rsev_any (B := w0.heap.size) kind v l w hsz ⟨vs, h2, h.own, h3⟩).mono ?_
    rintro e w' ⟨x, rfl, hT, hg⟩
    obtain ⟨b, rfl, _⟩ := hT.ptr
    exact ⟨_, rfl, hg, .inr ⟨h1, l, h4, hT⟩⟩

/-- one more -/
theorem LI.snoc {W0 w0 w2 w3 w5 : World} {R i o j j3 : Nat} {s : ByteArray} {Z Z' : List Re → Nat → Prop} {v v' : Value} {vs : List Value} {p : Option Addr} {r : Option (Re × Nat)} {ob : Obj} (h : LI W0 w0 w2 R s i o Z v vs j) (hR : R < w0.heap.size) (hs2 : w0.heap.size ≤ w2.heap.size) (hg3 : w2.grownBy w3 (some R)) (hx3 : XR W0 w3 R s j3 o) (hh3 : BR W0 w3 R s ∨ (SR W0 w2 R s j o ∧ ∃ t, r = some (t, j3) ∧ RT' w2.heap.size w3 (.pointer p) t))
    (hown : w5.ownsRow w0.heap.size 22 1 v' (vs.length + 1) (vs ++ [.pointer p])) (hg : (w3.alloc ob).grownBy w5 v.ownBlock) (hat : v'.ownBlock = v.ownBlock ∨ v'.ownBlock = some (w3.alloc ob).heap.size) (hZ : ∀ l t, r = some (t, j3) → Z l j → Z' (l ++ [t]) j3) :
    LI W0 w0 w5 R s i o Z' v' (vs ++ [.pointer p]) j3 ∧ XR W0 w5 R s j3 o ∧ w3.grownBy w5 v.ownBlock ∧ (BR W0 w3 R s → BR W0 w5 R s) := by
  have hlt : ∀ q, v.ownBlock = some q → w0.heap.size ≤ q ∧ q < w2.heap.size := fun q hq => h.own.lt q hq
  have hs3 := hg3.size
  have h16 := hx3.r16
  have hb5 : ∀ b, b < w3.heap.size → v.ownBlock ≠ some b → w5.heap[b]? = w3.heap[b]? := fun b hb hn => (hg.block b (by simp; omega) (fun e => hn e.symm)).trans (Below.heap_alloc w3 ob b hb)
  have hsz5 : w3.heap.size ≤ w5.heap.size := Nat.le_trans (by simp) hg.size
  have hRlt := hx3.lt
  have hkeep : ∀ b, b = R ∨ b < 16 → w5.heap[b]? = w3.heap[b]? := fun b hb => hb5 b (by omega) (fun e => by have := hlt b e; omega)
  have hx5 := hx3.other hsz5 hkeep
  have hbr : BR W0 w3 R s → BR W0 w5 R s := fun hB => by
    obtain ⟨i1, o1, te, pe, z, h1, h2, hz⟩ := hB.at_
    exact ⟨⟨Nat.le_trans hB.env.1 hsz5, fun k hk => (hkeep k (.inr hk)).trans (hB.env.2 k hk)⟩, ⟨i1, o1, te, pe, z, h1, h2, (hkeep R (.inl rfl)).trans hz⟩, hB.r16, hB.text⟩
  refine ⟨⟨by simpa using hown, fun k hk => ?_, ?_⟩, hx5, ⟨hg.os, hg.tape, hg.output, hsz5, fun b hb hn => hb5 b hb (fun e => hn e.symm)⟩, hbr⟩
  · by_cases hkv : k < vs.length
    · obtain ⟨q, hq⟩ := h.ptr k hkv
      exact ⟨q, by rw [← hq]; simp [List.getD_eq_getElem?_getD, List.getElem?_append_left hkv]⟩
    · have : k = vs.length := by simp at hk; omega
      subst this
      exact ⟨p, by simp [List.getD_eq_getElem?_getD]⟩
  · rcases hh3 with hB | ⟨hS2, t, hr, hT⟩
    · exact .inl (hbr hB)
    · rcases h.hist with hB | ⟨h1, l, h2, h3, h4⟩
      · exact (hS2.not_br hB).elim
      · have hall3 : ∀ k, k < l.length → ∃ t, l[k]? = some t ∧ Tree (fun b => w0.heap.size ≤ b ∧ v.ownBlock ≠ some b) w3 (vs.getD k .nilFunc) t := fun k hk => by
          obtain ⟨t', q1, q2⟩ := h3 k hk
          exact ⟨t', q1, Tree.grown q2 hg3 fun b hb e => by simp at e; omega⟩
        have hT3 : Tree (fun b => w0.heap.size ≤ b ∧ v.ownBlock ≠ some b) w3 (.pointer p) t := Tree.imp hT fun b _ hb => ⟨by omega, fun e => by have := (hlt b e).2; omega⟩
        have hmv : ∀ {x : Value} {t : Re}, Tree (fun b => w0.heap.size ≤ b ∧ v.ownBlock ≠ some b) w3 x t → Tree (fun b => w0.heap.size ≤ b ∧ v'.ownBlock ≠ some b) w5 x t := fun hx => Tree.moved hx hsz5 fun b hb hok => ⟨⟨hok.1, by
          rcases hat with e | e
          · rw [e]; exact hok.2
          · rw [e]; simp; omega⟩, hb5 b hb hok.2⟩
        refine .inr ⟨h1, l ++ [t], by simp [h2], fun k hk => ?_, hZ l t hr h4⟩
        by_cases hkl : k < l.length
        · obtain ⟨t', q1, q2⟩ := hall3 k hkl
          refine ⟨t', by rw [List.getElem?_append_left hkl]; exact q1, ?_⟩
          have e : (vs ++ [Value.pointer p]).getD k .nilFunc = vs.getD k .nilFunc := by
            simp [List.getD_eq_getElem?_getD, List.getElem?_append_left (show k < vs.length by omega)]
          rw [e]
          exact hmv q2
        · have hkk : k = l.length := by simp at hk; omega
          subst hkk
          refine ⟨t, by simp, ?_⟩
          have e : (vs ++ [Value.pointer p]).getD l.length .nilFunc = .pointer p := by
            simp [List.getD_eq_getElem?_getD, ← h2]
          rw [e]
          exact hmv hT3

/-- what is to be read of a row from here on -/
def RowZ (s : ByteArray) (u : Nat → Option (Re × Nat)) (res : Option (List Re × Nat)) (l : List Re) (j : Nat) : Prop := ∃ f, res = rowS s u f l j ∧ s.size + 1 ≤ f + j
theorem RowZ.stop {s : ByteArray} {u : Nat → Option (Re × Nat)} {res : Option (List Re × Nat)} {l : List Re} {j : Nat} (h : RowZ s u res l j) (hj : j ≤ s.size) (he : rowEndS (cpAt s j) = true) : res = some (l, j) := by
  obtain ⟨f, h1, h2⟩ := h
  obtain ⟨f', rfl⟩ : ∃ f', f = f' + 1 := ⟨f - 1, by omega⟩
  rw [h1, rowS_eq, he]
  rfl
theorem RowZ.next {s : ByteArray} {u : Nat → Option (Re × Nat)} {res : Option (List Re × Nat)} {l : List Re} {j j3 : Nat} {t : Re} (h : RowZ s u res l j) (hj : j ≤ s.size) (he : rowEndS (cpAt s j) = false) (hr : ((u j).bind fun x => partS s (s.size + 1) x.1 x.2) = some (t, j3)) (hlt : j < j3) : RowZ s u res (l ++ [t]) j3 := by
  obtain ⟨f, h1, h2⟩ := h
  obtain ⟨f', rfl⟩ : ∃ f', f = f' + 1 := ⟨f - 1, by omega⟩
  refine ⟨f', ?_, by omega⟩
  rw [h1, rowS_eq, he, hr]
  rfl

theorem LI.turn {W0 w0 w : World} {R i o j j' : Nat} {s : ByteArray} {Z Z' : List Re → Nat → Prop} {v : Value} {vs : List Value} (h : LI W0 w0 w R s i o Z v vs j) (hZ : ∀ l, Z l j → Z' l j') : LI W0 w0 w R s i o Z' v vs j' :=
  ⟨h.own, h.ptr, h.hist.elim .inl fun ⟨h1, l, h2, h3, h4⟩ => .inr ⟨h1, l, h2, h3, hZ l h4⟩⟩
/-- what is to be read from here on, where a sign stands between each two -/
def SevZ (s : ByteArray) (sign : Int) (r : Nat → Option (Re × Nat)) (res : Option (List Re × Nat)) (l : List Re) (j : Nat) : Prop := ∃ f, res = sevS s sign r f l j ∧ s.size + 1 ≤ f + j
/-- .. behind a sign -/
def SevY (s : ByteArray) (sign : Int) (r : Nat → Option (Re × Nat)) (res : Option (List Re × Nat)) (l : List Re) (j : Nat) : Prop := ∃ f, (∀ t k, r j = some (t, k) → res = sevS s sign r f (l ++ [t]) k) ∧ s.size + 1 ≤ f + j
theorem SevZ.stop {s : ByteArray} {sign : Int} {r : Nat → Option (Re × Nat)} {res : Option (List Re × Nat)} {l : List Re} {j : Nat} (h : SevZ s sign r res l j) (hj : j ≤ s.size) (he : cpAt s j ≠ sign) : res = some (l, j) := by
  obtain ⟨f, h1, h2⟩ := h
  obtain ⟨f', rfl⟩ : ∃ f', f = f' + 1 := ⟨f - 1, by omega⟩
  rw [h1, sevS, if_neg he]
theorem SevZ.sign {s : ByteArray} {sign : Int} {r : Nat → Option (Re × Nat)} {res : Option (List Re × Nat)} {l : List Re} {j : Nat} (h : SevZ s sign r res l j) (hj : j ≤ s.size) (he : cpAt s j = sign) : SevY s sign r res l (j + 1) := by
  obtain ⟨f, h1, h2⟩ := h
  obtain ⟨f', rfl⟩ : ∃ f', f = f' + 1 := ⟨f - 1, by omega⟩
  exact ⟨f', fun t k hr => by rw [h1, sevS, if_pos he, hr], by omega⟩
theorem SevY.next {s : ByteArray} {sign : Int} {r : Nat → Option (Re × Nat)} {res : Option (List Re × Nat)} {l : List Re} {j k : Nat} {t : Re} (h : SevY s sign r res l j) (hr : r j = some (t, k)) (hk : j ≤ k) : SevZ s sign r res (l ++ [t]) k := by
  obtain ⟨f, h1, h2⟩ := h
  exact ⟨f, h1 t k hr, by omega⟩
/-- the first one -/
theorem LI.first {W0 w w1 : World} {R i o j : Nat} {s : ByteArray} {Z : List Re → Nat → Prop} {p : Option Addr} {r : Option (Re × Nat)} (hR : R < w.heap.size) (hg : w.grownBy w1 (some R)) (hx : XR W0 w1 R s j o) (hh : BR W0 w1 R s ∨ (SR W0 w R s i o ∧ ∃ t, r = some (t, j) ∧ RT' w.heap.size w1 (.pointer p) t)) (hZ : ∀ t, r = some (t, j) → Z [t] j) :
    LI W0 w (w1.alloc (.cells #[.pointer p] 22)) R s i o Z (.slice (some ⟨w1.heap.size, 0, none⟩) 1 1) [.pointer p] j ∧ XR W0 (w1.alloc (.cells #[.pointer p] 22)) R s j o ∧ w.grownBy (w1.alloc (.cells #[.pointer p] 22)) (some R) := by
  have hga : ∀ row, w1.grownBy (w1.alloc (.cells #[.pointer p] 22)) row := fun row => World.grownBy_alloc w1 _ row
  refine ⟨⟨⟨rfl, .inr ⟨w1.heap.size, 1, #[.pointer p], rfl, hg.size, heap_alloc_new w1 _, by simp, by unfold maxLen; omega, rfl, rfl⟩⟩, fun k hk => ⟨p, by have : k = 0 := by { simp at hk; exact hk }; subst this; rfl⟩, ?_⟩, hx.kept (hga none), Lib.grownBy_trans hg (hga _)⟩
  rcases hh with hB | ⟨h1, t, h2, h3⟩
  · exact .inl (hB.kept (hga none))
  · refine .inr ⟨h1, [t], rfl, fun k hk => ?_, hZ t h2⟩
    have : k = 0 := by simp at hk; exact hk
    subst this
    refine ⟨t, rfl, Tree.moved h3 (by simp) fun b hb hok => ⟨⟨hok, ?_⟩, Below.heap_alloc w1 _ b hb⟩⟩
    simp [Value.ownBlock]
    omega

end Go.Proofs.YtbjohedenfindaaGreatDoor

namespace Go.Proofs.YtbjohedenfindaaGreatDoor
open Go.RowKit
set_option linter.unusedVariables false
set_option maxRecDepth 100000

theorem rowEnd_iff (c : Int) : rowEndS c = true ↔ (c = 124 ∨ c = 38 ∨ c = 41 ∨ c = -1) := by
  simp [rowEndS]

set_option maxHeartbeats 4000000 in
theorem rrow_any {W0 : World} (L : LibC W0) {R o : Nat} {s : ByteArray} {u : Nat → Option (Re × Nat)} (U : RUnitC W0 R s o u) (hG : Goes s fun i => (u i).bind fun x => partS s (s.size + 1) x.1 x.2) {w : World} {i : Nat} (h : XR W0 w R s i o) :
    Calls Tryz.prog 73 #[.pointer (some ⟨R, 0, none⟩)] w fun e w' => GotT W0 w R s i o (rowReS s u i) e w' := by
  obtain ⟨i0, hi0, hz0, hz1, hz2⟩ := info_parts Tryz.infoPRe
  have hRB := h.lt
  have htx := h.text
  have HU : Hid (RUnitC W0 R s o u) := U
  have HGo : Hid (Goes s fun i => (u i).bind fun x => partS s (s.size + 1) x.1 x.2) := hG
  have hini : XR W0 w R s i o ∧ LI W0 w w R s i o (RowZ s u (rowS s u (s.size + 1) [] i)) (.slice none 0 0) [] i := by
    refine ⟨h, ⟨rfl, .inl ⟨rfl, rfl⟩⟩, fun k hk => by simp at hk, ?_⟩
    rcases h with ⟨h, _⟩ | h
    · exact .inr ⟨h, [], rfl, fun k hk => by simp at hk, s.size + 1, rfl, by omega⟩
    · exact .inl h
  have HI : Hid (XR W0 w R s i o ∧ LI W0 w w R s i o (RowZ s u (rowS s u (s.size + 1) [] i)) (.slice none 0 0) [] i) := hini
  have HRes : Hid (rowReS s u i = (rowS s u (s.size + 1) [] i).map fun x => (gatherS 2 x.1, x.2)) := rfl
  clear U hG h hini
  generalize rowS s u (s.size + 1) [] i = res at *
  go_enter Tryz.func73, Tryz.ntmps73
  go_wp2
  go_loopw [3] (fun x wr => ∃ (v : Value) (vs : List Value) (j : Nat), x = v ∧ Hid (XR W0 wr R s j o) ∧ Hid (w.grownBy wr (some R)) ∧ Hid (LI W0 w wr R s i o (RowZ s u res) v vs j) ∧ vs.length ≤ s.size + 1 ∧ Hid (BR W0 wr R s ∨ vs.length ≤ j)) (fun _ wr => mea s R wr)
  case atStart => exact ⟨_, [], i, rfl, HI.out.1, grown_self _ _, HI.out.2, by simp, .inr (by simp)⟩
  case round =>
    clear HI
    obtain ⟨v, vs, j, rfl, HX, HG, HL, hvl, HN⟩ := hrel
    obtain ⟨va, vc, rfl⟩ := HL.out.slice
    go_wp2_with fail
    go_at_call 74
    refine (now_x L HX.out).mono ?_
    rintro e w2 ⟨c, rfl, c0, c1, hg2, hx2, hh2⟩
    have hL2 : LI W0 w w2 R s i o (RowZ s u res) (.slice va vs.length vc) vs j := HL.out.keep hRB hg2 (hh2.elim (fun h => .inl h.1) fun h => .inr h.1)
    have hgr2 := Lib.grownBy_trans HG.out hg2
    have hsz2 := hgr2.size
    by_cases hend : c < 0 ∨ c = 124 ∨ c = 38 ∨ c = 41
    · have HSev : Hid (Calls Tryz.prog 46 #[.int .i64 2, .slice va vs.length vc] w2 fun e w' => GotT W0 w R s i o (rowReS s u i) e w') := by
        refine (hL2.several 2 hsz2).mono ?_
        rintro e w3 ⟨p, rfl, hg3, hh3⟩
        refine ⟨p, j, rfl, Lib.grownBy_trans hgr2 (hg3 _), hx2.kept (hg3 none), ?_⟩
        rcases hh3 with hB | ⟨q1, l, q2, q3⟩
        · exact .inl hB
        · rcases hh2 with ⟨hB, _⟩ | ⟨k1, k2, k3⟩
          · exact .inl (hB.kept (hg3 none))
          · refine .inr ⟨q1, _, ?_, q3⟩
            rw [HRes.out, q2.stop k1.inn ((rowEnd_iff _).2 (by omega))]
            rfl
      have hcc : decide (c < 0) = true ∨ c = 124 ∨ c = 38 ∨ c = 41 := hend.elim (fun h => .inl (by simp; omega)) .inr
      clear hend hh2 hx2 hg2 hL2 HX HG HL HN
      rcases hcc with hcc | rfl | rfl | rfl
      all_goals
        go_wp2_with fail
        go_at_call 46
        refine HSev.out.mono ?_
        intro e w3 hGt
        obtain ⟨p, j3, rfl, q1, q2, q3⟩ := hGt
        have HQ : Hid (GotT W0 w R s i o (rowReS s u i) (.returned (.pointer p)) w3) := ⟨p, j3, rfl, q1, q2, q3⟩
        clear q1 q2 q3
        go_wp2
        go_ret
        exact HQ.out
    · obtain ⟨k1, k2, k3⟩ : SR W0 wr R s j o ∧ c = cpAt s j ∧ SR W0 w2 R s j o := by
        rcases hh2 with ⟨_, e⟩ | h
        · omega
        · exact h
      have m1 : ¬ c < 0 := by omega
      have m2 : (c == 124) = false := by rw [beq_eq_false_iff_ne]; omega
      have m3 : (c == 38) = false := by rw [beq_eq_false_iff_ne]; omega
      have m4 : (c == 41) = false := by rw [beq_eq_false_iff_ne]; omega
      have HEnd : Hid (rowEndS (cpAt s j) = false) := by
        show _ = _
        rw [← Bool.not_eq_true, rowEnd_iff]
        omega
      have hvj : vs.length ≤ j := HN.out.elim (fun hB => (k1.not_br hB).elim) id
      have hjs := k1.inn
      have HL2 : Hid (LI W0 w w2 R s i o (RowZ s u res) (.slice va vs.length vc) vs j) := hL2
      have HX2 : Hid (XR W0 w2 R s j o) := hx2
      have HK1 : Hid (SR W0 wr R s j o) := k1
      have HG2 : Hid (w.grownBy w2 (some R)) := hgr2
      clear hend hh2 hx2 hg2 hL2 HX HG HL HN k1 k2 k3 hgr2
      go_wp2_with fail
      go_at_call 106
      refine (rpart_any L HU.out HX2.out).mono ?_
      rintro e w3 ⟨p, j3, rfl, hg3, hx3, hh3⟩
      have HS : Hid (∀ v' w5 ob, w5.ownsRow w.heap.size 22 1 v' (vs.length + 1) (vs ++ [.pointer p]) → (w3.alloc ob).grownBy w5 (Value.slice va vs.length vc).ownBlock → (v'.ownBlock = (Value.slice va vs.length vc).ownBlock ∨ v'.ownBlock = some (w3.alloc ob).heap.size) → XR W0 w5 R s j3 o ∧ w.grownBy w5 (some R) ∧ LI W0 w w5 R s i o (RowZ s u res) v' (vs ++ [.pointer p]) j3 ∧ mea s R w5 < mea s R wr ∧ (BR W0 w5 R s ∨ vs.length + 1 ≤ j3)) := by
        intro v' w5 ob hown hg5 hat
        have hlt : BR W0 w3 R s ∨ j < j3 := by
          rcases hh3 with hB | ⟨q1, t, q2, q3⟩
          · exact .inl hB
          · exact .inr (HGo.out j t j3 hjs q2).1
        obtain ⟨a1, a2, a3, a4⟩ := HL2.out.snoc hRB hsz2 hg3 hx3 hh3 hown hg5 hat (fun l t hr hZ => by
          have := (HGo.out j t j3 hjs hr).1
          exact hZ.next hjs HEnd.out hr this)
        have hg35 := Lib.grownBy_trans HG2.out hg3
        refine ⟨a2, grownBy_own (Lib.grownBy_allocR hg35 ob) hg5 (fun q hq => (HL2.out.own.lt q hq).1), a1, mea_x HK1.out a2 (hlt.imp a4 id), hlt.imp a4 (fun h => by omega)⟩
      have hown3 : w3.ownsRow w.heap.size 22 1 (.slice va vs.length vc) vs.length vs := HL2.out.own.kept hg3 (by
        cases hb : (Value.slice va vs.length vc).ownBlock with
        | none => exact .inl rfl
        | some k => right; intro e; cases e; have := (HL2.out.own.lt R hb).1; omega)
      have hsz3 : w.heap.size ≤ w3.heap.size := Nat.le_trans hsz2 hg3.size
      clear hh3 hx3 hg3 HL2 HX2 HK1 HG2
      go_wp2_with (at_builtin; refine wpList_append_own_at _ rfl _ _ 46 rfl w.heap.size 22 i0 (.pointer none) 1 8 Tryz.underlying46 hi0 hz0 hz1 hz2 rfl (by decide) _ _ _ rfl (World.ownsRow.alloc hown3 _) ⟨w3.heap.size, 0, none⟩ 1 1 [.pointer p] rfl rfl ?c1 ?c2 ?c3 ?c4 ?c5 ?_)
      case c1 => exact cell_one_new w3 _ _
      case c2 => intro u hu; simp at hu; subst hu; rfl
      case c3 => unfold maxLen; omega
      case c4 => omega
      case c5 => simp; omega
      · intro v' w5 hown' hgrow _ hat
        obtain ⟨b1, b2, b3, b4, b5⟩ := HS.out v' w5 _ hown' hgrow (by simpa using hat)
        have B1 : Hid (XR W0 w5 R s j3 o) := b1
        have B2 : Hid (w.grownBy w5 (some R)) := b2
        have B3 : Hid (LI W0 w w5 R s i o (RowZ s u res) v' (vs ++ [.pointer p]) j3) := b3
        have B4 : Hid (mea s R w5 < mea s R wr) := b4
        have B5 : Hid (BR W0 w5 R s ∨ vs.length + 1 ≤ j3) := b5
        clear b1 b2 b3 b4 b5 hown' hgrow hat HS hown3
        go_wp2
        go_roundw
        case rel => exact ⟨v', vs ++ [.pointer p], j3, rfl, B1, B2, B3, by simp; omega, by show _ ∨ _; simpa using B5.out⟩
        case measure => exact B4.out

end Go.Proofs.YtbjohedenfindaaGreatDoor

namespace Go.Proofs.YtbjohedenfindaaGreatDoor
open Go.RowKit
set_option linter.unusedVariables false
set_option maxRecDepth 100000

/-- a function of the reader that reads one -/
def RdC (W0 : World) (R : Nat) (s : ByteArray) (o g : Nat) (r : Nat → Option (Re × Nat)) : Prop := ∀ (w : World) (i : Nat), XR W0 w R s i o → Calls Tryz.prog g #[.pointer (some ⟨R, 0, none⟩)] w fun e w' => GotT W0 w R s i o (r i) e w'

set_option maxHeartbeats 4000000 in
theorem rboth_any {W0 : World} (L : LibC W0) {R o : Nat} {s : ByteArray} {r : Nat → Option (Re × Nat)} (U : RdC W0 R s o 73 r) (hG : Stays s r) {w : World} {i : Nat} (h : XR W0 w R s i o) :
    Calls Tryz.prog 44 #[.pointer (some ⟨R, 0, none⟩)] w fun e w' => GotT W0 w R s i o (severalS s 4 38 r i) e w' := by
  obtain ⟨i0, hi0, hz0, hz1, hz2⟩ := info_parts Tryz.infoPRe
  have hRB := h.lt
  have htx := h.text
  have HU : Hid (∀ (w : World) (i : Nat), XR W0 w R s i o → Calls Tryz.prog 73 #[.pointer (some ⟨R, 0, none⟩)] w fun e w' => GotT W0 w R s i o (r i) e w') := U
  have HGo : Hid (Stays s r) := hG
  have HC1 : Hid (Calls Tryz.prog 73 #[.pointer (some ⟨R, 0, none⟩)] w fun e w' => GotT W0 w R s i o (r i) e w') := U w i h
  have HRes : Hid (severalS s 4 38 r i = (((r i).bind fun x => sevS s 38 r (s.size + 1) [x.1] x.2)).map fun x => (gatherS 4 x.1, x.2)) := by
    show _ = _
    unfold severalS
    cases hri : r i with
    | none => rfl
    | some x => rfl
  have HZ0 : Hid (∀ t j, r i = some (t, j) → SevZ s 38 r ((r i).bind fun x => sevS s 38 r (s.size + 1) [x.1] x.2) [t] j) := fun t j hr => ⟨s.size + 1, by rw [hr]; rfl, by omega⟩
  have HX0 : Hid (XR W0 w R s i o) := h
  clear U hG h
  generalize ((r i).bind fun x => sevS s 38 r (s.size + 1) [x.1] x.2) = res at *
  go_enter Tryz.func44, Tryz.ntmps44
  go_wp2_with fail
  refine HC1.out.mono ?_
  rintro e w1 ⟨p, j, rfl, hg1, hx1, hh1⟩
  obtain ⟨hL1, hX1, hG1⟩ := LI.first (Z := SevZ s 38 r res) hRB hg1 hx1 hh1 (fun t hr => HZ0.out t j hr)
  have hN1 : BR W0 (w1.alloc (.cells #[.pointer p] 22)) R s ∨ (1 : Nat) ≤ j + 1 := .inr (by omega)
  have HL1 : Hid (LI W0 w (w1.alloc (.cells #[.pointer p] 22)) R s i o (SevZ s 38 r res) (.slice (some ⟨w1.heap.size, 0, none⟩) 1 1) [.pointer p] j) := hL1
  have HX1 : Hid (XR W0 (w1.alloc (.cells #[.pointer p] 22)) R s j o) := hX1
  have HG1 : Hid (w.grownBy (w1.alloc (.cells #[.pointer p] 22)) (some R)) := hG1
  clear hg1 hx1 hh1 hL1 hX1 hG1 HC1 HZ0 hN1
  go_wp2
  go_loopw [4] (fun x wr => ∃ (v : Value) (vs : List Value) (j : Nat), x = v ∧ Hid (XR W0 wr R s j o) ∧ Hid (w.grownBy wr (some R)) ∧ Hid (LI W0 w wr R s i o (SevZ s 38 r res) v vs j) ∧ vs.length ≤ s.size + 2 ∧ Hid (BR W0 wr R s ∨ vs.length ≤ j + 1)) (fun _ wr => mea s R wr)
  case atStart => exact ⟨_, [.pointer p], j, rfl, HX1, HG1, HL1, by simp, .inr (by simp)⟩
  case round =>
    clear HL1 HX1 HG1
    obtain ⟨v, vs, j, rfl, HX, HG, HL, hvl, HN⟩ := hrel
    obtain ⟨va, vc, rfl⟩ := HL.out.slice
    go_wp2_with fail
    go_at_call 45
    refine (eat_x L HX.out 38 (by omega) (by omega)).mono ?_
    rintro e w2 ⟨b, rfl, hg2, ⟨rfl, k1, k2, k3, k4⟩ | ⟨rfl, hx2, hh2⟩⟩
    · have hjs := k1.inn
      have hjs2 := k3.inn
      have hgr2 := Lib.grownBy_trans HG.out hg2
      have hsz2 := hgr2.size
      have hL2 : LI W0 w w2 R s i o (SevY s 38 r res) (.slice va vs.length vc) vs (j + 1) := (HL.out.keep hRB hg2 (.inr k1)).turn fun l hZ => hZ.sign hjs k2
      have hvj : vs.length ≤ j + 1 := HN.out.elim (fun hB => (k1.not_br hB).elim) id
      have HL2 : Hid (LI W0 w w2 R s i o (SevY s 38 r res) (.slice va vs.length vc) vs (j + 1)) := hL2
      have HX2 : Hid (XR W0 w2 R s (j + 1) o) := .inl ⟨k3, k4⟩
      have HK1 : Hid (SR W0 wr R s j o) := k1
      have HG2 : Hid (w.grownBy w2 (some R)) := hgr2
      clear hg2 hL2 HX HG HL HN k1 k2 k3 k4 hgr2
      go_wp2_with fail
      go_at_call 73
      refine (HU.out w2 (j + 1) HX2.out).mono ?_
      rintro e w3 ⟨p, j3, rfl, hg3, hx3, hh3⟩
      have HS : Hid (∀ v' w5 ob, w5.ownsRow w.heap.size 22 1 v' (vs.length + 1) (vs ++ [.pointer p]) → (w3.alloc ob).grownBy w5 (Value.slice va vs.length vc).ownBlock → (v'.ownBlock = (Value.slice va vs.length vc).ownBlock ∨ v'.ownBlock = some (w3.alloc ob).heap.size) → XR W0 w5 R s j3 o ∧ w.grownBy w5 (some R) ∧ LI W0 w w5 R s i o (SevZ s 38 r res) v' (vs ++ [.pointer p]) j3 ∧ mea s R w5 < mea s R wr ∧ (BR W0 w5 R s ∨ vs.length + 1 ≤ j3 + 1)) := by
        intro v' w5 ob hown hg5 hat
        have hlt : BR W0 w3 R s ∨ j + 1 ≤ j3 := by
          rcases hh3 with hB | ⟨q1, t, q2, q3⟩
          · exact .inl hB
          · exact .inr (HGo.out (j + 1) t j3 hjs2 q2).1
        obtain ⟨a1, a2, a3, a4⟩ := HL2.out.snoc (Z' := SevZ s 38 r res) hRB hsz2 hg3 hx3 hh3 hown hg5 hat (fun l t hr hZ => hZ.next hr (HGo.out (j + 1) t j3 hjs2 hr).1)
        have hg35 := Lib.grownBy_trans HG2.out hg3
        refine ⟨a2, grownBy_own (Lib.grownBy_allocR hg35 ob) hg5 (fun q hq => (HL2.out.own.lt q hq).1), a1, mea_x HK1.out a2 (hlt.imp a4 (fun h => by omega)), hlt.imp a4 (fun h => by omega)⟩
      have hown3 : w3.ownsRow w.heap.size 22 1 (.slice va vs.length vc) vs.length vs := HL2.out.own.kept hg3 (by
        cases hb : (Value.slice va vs.length vc).ownBlock with
        | none => exact .inl rfl
        | some k => right; intro e; cases e; have := (HL2.out.own.lt R hb).1; omega)
      have hsz3 : w.heap.size ≤ w3.heap.size := Nat.le_trans hsz2 hg3.size
      clear hh3 hx3 hg3 HL2 HX2 HK1 HG2
      go_wp2_with (at_builtin; refine wpList_append_own_at _ rfl _ _ 46 rfl w.heap.size 22 i0 (.pointer none) 1 8 Tryz.underlying46 hi0 hz0 hz1 hz2 rfl (by decide) _ _ _ rfl (World.ownsRow.alloc hown3 _) ⟨w3.heap.size, 0, none⟩ 1 1 [.pointer p] rfl rfl ?c1 ?c2 ?c3 ?c4 ?c5 ?_)
      case c1 => exact cell_one_new w3 _ _
      case c2 => intro u hu; simp at hu; subst hu; rfl
      case c3 => unfold maxLen; omega
      case c4 => omega
      case c5 => simp; omega
      · intro v' w5 hown' hgrow _ hat
        obtain ⟨b1, b2, b3, b4, b5⟩ := HS.out v' w5 _ hown' hgrow (by simpa using hat)
        have B1 : Hid (XR W0 w5 R s j3 o) := b1
        have B2 : Hid (w.grownBy w5 (some R)) := b2
        have B3 : Hid (LI W0 w w5 R s i o (SevZ s 38 r res) v' (vs ++ [.pointer p]) j3) := b3
        have B4 : Hid (mea s R w5 < mea s R wr) := b4
        have B5 : Hid (BR W0 w5 R s ∨ vs.length + 1 ≤ j3 + 1) := b5
        clear b1 b2 b3 b4 b5 hown' hgrow hat HS hown3
        go_wp2
        go_roundw
        case rel => exact ⟨v', vs ++ [.pointer p], j3, rfl, B1, B2, B3, by simp; omega, by show _ ∨ _; simpa using B5.out⟩
        case measure => exact B4.out
    · have hL2 : LI W0 w w2 R s i o (SevZ s 38 r res) (.slice va vs.length vc) vs j := HL.out.keep hRB hg2 (hh2.imp id fun h => h.1)
      have hgr2 := Lib.grownBy_trans HG.out hg2
      have hsz2 := hgr2.size
      have HSev : Hid (Calls Tryz.prog 46 #[.int .i64 4, .slice va vs.length vc] w2 fun e w' => GotT W0 w R s i o (severalS s 4 38 r i) e w') := by
        refine (hL2.several 4 hsz2).mono ?_
        rintro e w3 ⟨p, rfl, hg3, hh3⟩
        refine ⟨p, j, rfl, Lib.grownBy_trans hgr2 (hg3 _), hx2.kept (hg3 none), ?_⟩
        rcases hh3 with hB | ⟨q1, l, q2, q3⟩
        · exact .inl hB
        · rcases hh2 with hB | ⟨k1, k2⟩
          · exact .inl (hB.kept (hg3 none))
          · refine .inr ⟨q1, _, ?_, q3⟩
            rw [HRes.out, q2.stop k1.inn k2]
            rfl
      clear hh2 hx2 hg2 hL2 HX HG HL HN
      go_wp2_with fail
      go_at_call 46
      refine HSev.out.mono ?_
      intro e w3 hGt
      obtain ⟨p, j3, rfl, q1, q2, q3⟩ := hGt
      have HQ : Hid (GotT W0 w R s i o (severalS s 4 38 r i) (.returned (.pointer p)) w3) := ⟨p, j3, rfl, q1, q2, q3⟩
      clear q1 q2 q3
      go_wp2
      go_ret
      exact HQ.out

set_option maxHeartbeats 4000000 in
theorem rany_any {W0 : World} (L : LibC W0) {R o : Nat} {s : ByteArray} {r : Nat → Option (Re × Nat)} (U : RdC W0 R s o 44 r) (hG : Stays s r) {w : World} {i : Nat} (h : XR W0 w R s i o) :
    Calls Tryz.prog 21 #[.pointer (some ⟨R, 0, none⟩)] w fun e w' => GotT W0 w R s i o (severalS s 3 124 r i) e w' := by
  obtain ⟨i0, hi0, hz0, hz1, hz2⟩ := info_parts Tryz.infoPRe
  have hRB := h.lt
  have htx := h.text
  have HU : Hid (∀ (w : World) (i : Nat), XR W0 w R s i o → Calls Tryz.prog 44 #[.pointer (some ⟨R, 0, none⟩)] w fun e w' => GotT W0 w R s i o (r i) e w') := U
  have HGo : Hid (Stays s r) := hG
  have HC1 : Hid (Calls Tryz.prog 44 #[.pointer (some ⟨R, 0, none⟩)] w fun e w' => GotT W0 w R s i o (r i) e w') := U w i h
  have HRes : Hid (severalS s 3 124 r i = (((r i).bind fun x => sevS s 124 r (s.size + 1) [x.1] x.2)).map fun x => (gatherS 3 x.1, x.2)) := by
    show _ = _
    unfold severalS
    cases hri : r i with
    | none => rfl
    | some x => rfl
  have HZ0 : Hid (∀ t j, r i = some (t, j) → SevZ s 124 r ((r i).bind fun x => sevS s 124 r (s.size + 1) [x.1] x.2) [t] j) := fun t j hr => ⟨s.size + 1, by rw [hr]; rfl, by omega⟩
  have HX0 : Hid (XR W0 w R s i o) := h
  clear U hG h
  generalize ((r i).bind fun x => sevS s 124 r (s.size + 1) [x.1] x.2) = res at *
  go_enter Tryz.func21, Tryz.ntmps21
  go_wp2_with fail
  refine HC1.out.mono ?_
  rintro e w1 ⟨p, j, rfl, hg1, hx1, hh1⟩
  obtain ⟨hL1, hX1, hG1⟩ := LI.first (Z := SevZ s 124 r res) hRB hg1 hx1 hh1 (fun t hr => HZ0.out t j hr)
  have hN1 : BR W0 (w1.alloc (.cells #[.pointer p] 22)) R s ∨ (1 : Nat) ≤ j + 1 := .inr (by omega)
  have HL1 : Hid (LI W0 w (w1.alloc (.cells #[.pointer p] 22)) R s i o (SevZ s 124 r res) (.slice (some ⟨w1.heap.size, 0, none⟩) 1 1) [.pointer p] j) := hL1
  have HX1 : Hid (XR W0 (w1.alloc (.cells #[.pointer p] 22)) R s j o) := hX1
  have HG1 : Hid (w.grownBy (w1.alloc (.cells #[.pointer p] 22)) (some R)) := hG1
  clear hg1 hx1 hh1 hL1 hX1 hG1 HC1 HZ0 hN1
  go_wp2
  go_loopw [4] (fun x wr => ∃ (v : Value) (vs : List Value) (j : Nat), x = v ∧ Hid (XR W0 wr R s j o) ∧ Hid (w.grownBy wr (some R)) ∧ Hid (LI W0 w wr R s i o (SevZ s 124 r res) v vs j) ∧ vs.length ≤ s.size + 2 ∧ Hid (BR W0 wr R s ∨ vs.length ≤ j + 1)) (fun _ wr => mea s R wr)
  case atStart => exact ⟨_, [.pointer p], j, rfl, HX1, HG1, HL1, by simp, .inr (by simp)⟩
  case round =>
    clear HL1 HX1 HG1
    obtain ⟨v, vs, j, rfl, HX, HG, HL, hvl, HN⟩ := hrel
    obtain ⟨va, vc, rfl⟩ := HL.out.slice
    go_wp2_with fail
    go_at_call 45
    refine (eat_x L HX.out 124 (by omega) (by omega)).mono ?_
    rintro e w2 ⟨b, rfl, hg2, ⟨rfl, k1, k2, k3, k4⟩ | ⟨rfl, hx2, hh2⟩⟩
    · have hjs := k1.inn
      have hjs2 := k3.inn
      have hgr2 := Lib.grownBy_trans HG.out hg2
      have hsz2 := hgr2.size
      have hL2 : LI W0 w w2 R s i o (SevY s 124 r res) (.slice va vs.length vc) vs (j + 1) := (HL.out.keep hRB hg2 (.inr k1)).turn fun l hZ => hZ.sign hjs k2
      have hvj : vs.length ≤ j + 1 := HN.out.elim (fun hB => (k1.not_br hB).elim) id
      have HL2 : Hid (LI W0 w w2 R s i o (SevY s 124 r res) (.slice va vs.length vc) vs (j + 1)) := hL2
      have HX2 : Hid (XR W0 w2 R s (j + 1) o) := .inl ⟨k3, k4⟩
      have HK1 : Hid (SR W0 wr R s j o) := k1
      have HG2 : Hid (w.grownBy w2 (some R)) := hgr2
      clear hg2 hL2 HX HG HL HN k1 k2 k3 k4 hgr2
      go_wp2_with fail
      go_at_call 44
      refine (HU.out w2 (j + 1) HX2.out).mono ?_
      rintro e w3 ⟨p, j3, rfl, hg3, hx3, hh3⟩
      have HS : Hid (∀ v' w5 ob, w5.ownsRow w.heap.size 22 1 v' (vs.length + 1) (vs ++ [.pointer p]) → (w3.alloc ob).grownBy w5 (Value.slice va vs.length vc).ownBlock → (v'.ownBlock = (Value.slice va vs.length vc).ownBlock ∨ v'.ownBlock = some (w3.alloc ob).heap.size) → XR W0 w5 R s j3 o ∧ w.grownBy w5 (some R) ∧ LI W0 w w5 R s i o (SevZ s 124 r res) v' (vs ++ [.pointer p]) j3 ∧ mea s R w5 < mea s R wr ∧ (BR W0 w5 R s ∨ vs.length + 1 ≤ j3 + 1)) := by
        intro v' w5 ob hown hg5 hat
        have hlt : BR W0 w3 R s ∨ j + 1 ≤ j3 := by
          rcases hh3 with hB | ⟨q1, t, q2, q3⟩
          · exact .inl hB
          · exact .inr (HGo.out (j + 1) t j3 hjs2 q2).1
        obtain ⟨a1, a2, a3, a4⟩ := HL2.out.snoc (Z' := SevZ s 124 r res) hRB hsz2 hg3 hx3 hh3 hown hg5 hat (fun l t hr hZ => hZ.next hr (HGo.out (j + 1) t j3 hjs2 hr).1)
        have hg35 := Lib.grownBy_trans HG2.out hg3
        refine ⟨a2, grownBy_own (Lib.grownBy_allocR hg35 ob) hg5 (fun q hq => (HL2.out.own.lt q hq).1), a1, mea_x HK1.out a2 (hlt.imp a4 (fun h => by omega)), hlt.imp a4 (fun h => by omega)⟩
      have hown3 : w3.ownsRow w.heap.size 22 1 (.slice va vs.length vc) vs.length vs := HL2.out.own.kept hg3 (by
        cases hb : (Value.slice va vs.length vc).ownBlock with
        | none => exact .inl rfl
        | some k => right; intro e; cases e; have := (HL2.out.own.lt R hb).1; omega)
      have hsz3 : w.heap.size ≤ w3.heap.size := Nat.le_trans hsz2 hg3.size
      clear hh3 hx3 hg3 HL2 HX2 HK1 HG2
      go_wp2_with (at_builtin; refine wpList_append_own_at _ rfl _ _ 46 rfl w.heap.size 22 i0 (.pointer none) 1 8 Tryz.underlying46 hi0 hz0 hz1 hz2 rfl (by decide) _ _ _ rfl (World.ownsRow.alloc hown3 _) ⟨w3.heap.size, 0, none⟩ 1 1 [.pointer p] rfl rfl ?c1 ?c2 ?c3 ?c4 ?c5 ?_)
      case c1 => exact cell_one_new w3 _ _
      case c2 => intro u hu; simp at hu; subst hu; rfl
      case c3 => unfold maxLen; omega
      case c4 => omega
      case c5 => simp; omega
      · intro v' w5 hown' hgrow _ hat
        obtain ⟨b1, b2, b3, b4, b5⟩ := HS.out v' w5 _ hown' hgrow (by simpa using hat)
        have B1 : Hid (XR W0 w5 R s j3 o) := b1
        have B2 : Hid (w.grownBy w5 (some R)) := b2
        have B3 : Hid (LI W0 w w5 R s i o (SevZ s 124 r res) v' (vs ++ [.pointer p]) j3) := b3
        have B4 : Hid (mea s R w5 < mea s R wr) := b4
        have B5 : Hid (BR W0 w5 R s ∨ vs.length + 1 ≤ j3 + 1) := b5
        clear b1 b2 b3 b4 b5 hown' hgrow hat HS hown3
        go_wp2
        go_roundw
        case rel => exact ⟨v', vs ++ [.pointer p], j3, rfl, B1, B2, B3, by simp; omega, by show _ ∨ _; simpa using B5.out⟩
        case measure => exact B4.out
    · have hL2 : LI W0 w w2 R s i o (SevZ s 124 r res) (.slice va vs.length vc) vs j := HL.out.keep hRB hg2 (hh2.imp id fun h => h.1)
      have hgr2 := Lib.grownBy_trans HG.out hg2
      have hsz2 := hgr2.size
      have HSev : Hid (Calls Tryz.prog 46 #[.int .i64 3, .slice va vs.length vc] w2 fun e w' => GotT W0 w R s i o (severalS s 3 124 r i) e w') := by
        refine (hL2.several 3 hsz2).mono ?_
        rintro e w3 ⟨p, rfl, hg3, hh3⟩
        refine ⟨p, j, rfl, Lib.grownBy_trans hgr2 (hg3 _), hx2.kept (hg3 none), ?_⟩
        rcases hh3 with hB | ⟨q1, l, q2, q3⟩
        · exact .inl hB
        · rcases hh2 with hB | ⟨k1, k2⟩
          · exact .inl (hB.kept (hg3 none))
          · refine .inr ⟨q1, _, ?_, q3⟩
            rw [HRes.out, q2.stop k1.inn k2]
            rfl
      clear hh2 hx2 hg2 hL2 HX HG HL HN
      go_wp2_with fail
      go_at_call 46
      refine HSev.out.mono ?_
      intro e w3 hGt
      obtain ⟨p, j3, rfl, q1, q2, q3⟩ := hGt
      have HQ : Hid (GotT W0 w R s i o (severalS s 3 124 r i) (.returned (.pointer p)) w3) := ⟨p, j3, rfl, q1, q2, q3⟩
      clear q1 q2 q3
      go_wp2
      go_ret
      exact HQ.out

/-- any, out of unit -/
theorem rpat_any {W0 : World} (L : LibC W0) {R o : Nat} {s : ByteArray} {u : Nat → Option (Re × Nat)} (U : RUnitC W0 R s o u) (hu : Goes s u) (hG : Goes s fun i => (u i).bind fun x => partS s (s.size + 1) x.1 x.2) : RdC W0 R s o 21 (patS s u) :=
  fun w i h => rany_any L (fun w i h => rboth_any L (fun w i h => rrow_any L U hG h) (rowReS_stays hu) h) (bothS_stays hu) h

end Go.Proofs.YtbjohedenfindaaGreatDoor
