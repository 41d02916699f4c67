/- Texts of the proof, put together: RParB, RSev, PTms. -/
import Derived.Test.YtbjohedenfindaaGreatDoorMg16
import Derived.Test.YtbjohedenfindaaGreatDoorMg11
import Derived.Test.YtbjohedenfindaaGreatDoorMg10
import Derived.Test.YtbjohedenfindaaGreatDoorMg13
namespace Go.Proofs.YtbjohedenfindaaGreatDoor
open Go.RowKit
set_option linter.unusedVariables false
set_option maxRecDepth 100000

theorem XR.sr {W0 w : World} {R i o : Nat} {s : ByteArray} (h : XR W0 w R s i o) (hc : w.cell? ⟨R, 3, none⟩ = some .nilIface) : SR W0 w R s i o := by
  rcases h with h | h
  · exact h.1
  · obtain ⟨te, pe, h2⟩ := h.cell3
    rw [hc] at h2
    simp at h2
theorem SR.setQ {W0 w : World} {R i o Q k : Nat} {s : ByteArray} {v : Value} (h : SR W0 w R s i o) (ho : o ≤ 1000) (hne : Q ≠ R) (hQ : 16 ≤ Q) : SR W0 (w.setCell ⟨Q, k, none⟩ v) R s i o := by
  refine (XR.setQ (.inl ⟨h, ho⟩) hne hQ).sr ?_
  rw [World.cell?_of_block (a := ⟨R, 3, none⟩) (Below.heap_setCell _ _ _ _ (by simp; omega))]
  exact h.cell1.2
theorem PaH.now {W0 w0 w w' : World} {R i o j : Nat} {s : ByteArray} {res : Option (Re × Nat)} {p : Value} (h : PaH W0 w0 R s i o res w p j) (hRB : R < w0.heap.size) (hg : w.grownBy w' (some R)) (hS : SR W0 w R s j o) : PaH W0 w0 R s i o res w' p j := by
  rcases h with h | ⟨h1, t, f, h2, h3, h4⟩
  · exact (hS.not_br h).elim
  · exact .inr ⟨h1, t, f, h2, h3, tree_grown h4 hRB hg⟩

/-- behind a round -/
def PaN (W0 w0 wr : World) (R : Nat) (s : ByteArray) (i o : Nat) (res : Option (Re × Nat)) (Q : Nat) (w : World) : Prop := ∃ j, XR W0 w R s j o ∧ w0.grownBy w (some R) ∧ PaH W0 w0 R s i o res w (.pointer (some ⟨Q, 0, none⟩)) j ∧ mea s R w < mea s R wr

/-- what stands when a sign was seen -/
structure PaS (W0 w0 wr w2 w3 : World) (R : Nat) (s : ByteArray) (i o j : Nat) (res : Option (Re × Nat)) (p : Value) : Prop where
  sr : SR W0 wr R s j o
  s3 : SR W0 w3 R s j o
  o1 : o ≤ 1000
  lt : R < w0.heap.size
  r16 : 16 ≤ R
  g0 : w0.grownBy w2 (some R)
  g3 : w2.grownBy w3 (some R)
  pa : PaH W0 w0 R s i o res w2 p j
  s2 : SR W0 w2 R s j o
  k3 : w3.heap[w2.heap.size]? = some (.cells #[p] 22 (0, 0))
  t3 : TmI W0 w3 w3 R (w2.heap.size + 1) s o j (.slice none 0 0) (.slice (some ⟨w2.heap.size, 0, none⟩) 1 1) 0 0
  sz : w2.heap.size + 1 < w3.heap.size

theorem part_simple {W0 w0 wr w2 w3 w4 : World} {R i o j : Nat} {s : ByteArray} {res : Option (Re × Nat)} {p : Value} {mn mx c : Int} (h : PaS W0 w0 wr w2 w3 R s i o j res p) (hT : TmI W0 w3 w4 R (w2.heap.size + 1) s o j (.slice none 0 0) (.slice (some ⟨w2.heap.size, 0, none⟩) 1 1) mn mx) (hS : SR W0 w4 R s j o)
    (hc : cpAt s j = c) (hc0 : 0 ≤ c) (hc1 : c < 128) (hn : ∀ f t, partS s (f + 1) t j = partS s f (repRe mn mx t) (j + 1)) :
    Calls Tryz.prog 75 #[.pointer (some ⟨R, 0, none⟩)] w4 fun e w5 => e = .returned (.tuple #[]) ∧ PaN W0 w0 wr R s i o res (w2.heap.size + 1) w5 := by
  have hsz := cp_eq_size hc hc0 hc1
  refine (skip_in hS (by omega)).mono ?_
  rintro e w5 ⟨h1, hg, h3⟩
  rw [hsz.2] at h3
  have hlt0 := h.lt
  have hsz02 := h.g0.size
  have hlt : R < w2.heap.size := by omega
  have hsz3 := h.sz
  have hg24 : w2.grownBy w4 (some R) := gr2_grown h.g3 (Nat.le_succ _) hT.g
  have hg25 := Lib.grownBy_trans hg24 hg
  have hq5 : QAt w5 (w2.heap.size + 1) (.slice none 0 0) (.slice (some ⟨w2.heap.size, 0, none⟩) 1 1) mn mx := hT.q.kept hg (by omega)
  have hk4 : w4.heap[w2.heap.size]? = some (.cells #[p] 22 (0, 0)) := (hT.g.block _ (by omega) (by omega) (by omega)).trans h.k3
  have hk5 : w5.heap[w2.heap.size]? = some (.cells #[p] 22 (0, 0)) := (hg.block _ (Nat.lt_of_lt_of_le (by omega) hT.g.size) (by simp; omega)).trans hk4
  exact ⟨h1, j + 1, .inl ⟨h3, h.o1⟩, Lib.grownBy_trans h.g0 hg25, h.pa.next h.s2 (by omega) hg25 hq5 (by omega) hk5 (by omega) hlt0 (.inr ⟨by omega, hn⟩), mea_x h.sr (.inl ⟨h3, h.o1⟩) (.inr (by omega))⟩
theorem part_brace {W0 w0 wr w2 w3 : World} (L : LibC W0) {R i o j : Nat} {s : ByteArray} {res : Option (Re × Nat)} {p : Value} (h : PaS W0 w0 wr w2 w3 R s i o j res p) (hc : cpAt s j = 123) :
    Calls Tryz.prog 75 #[.pointer (some ⟨R, 0, none⟩)] w3 fun e w5 => e = .returned (.tuple #[]) ∧ Hid (Calls Tryz.prog 128 #[.pointer (some ⟨R, 0, none⟩), .pointer (some ⟨w2.heap.size + 1, 0, none⟩)] w5 fun e w6 => e = .returned (.tuple #[]) ∧ PaN W0 w0 wr R s i o res (w2.heap.size + 1) w6) := by
  have hsz := cp_eq_size hc (by omega) (by omega)
  refine (skip_in h.s3 (by omega)).mono ?_
  rintro e w5 ⟨h1, hg, h3⟩
  rw [hsz.2] at h3
  refine ⟨h1, ?_⟩
  have hlt0 := h.lt
  have hsz02 := h.g0.size
  have hlt : R < w2.heap.size := by omega
  have h16 := h.r16
  have hsz3 := h.sz
  have hq5 : QAt w5 (w2.heap.size + 1) (.slice none 0 0) (.slice (some ⟨w2.heap.size, 0, none⟩) 1 1) 0 0 := h.t3.q.kept hg (by omega)
  refine (rtimes_any L (by omega) (by omega) (.inl ⟨h3, h.o1⟩) hq5).mono ?_
  rintro e w6 ⟨h4, mn, mx, hq6, hg6, hh⟩
  have hg25 := Lib.grownBy_trans h.g3 hg
  have hg26 : w2.grownBy w6 (some R) := gr2_grown hg25 (Nat.le_succ _) hg6
  have hk5 : w5.heap[w2.heap.size]? = some (.cells #[p] 22 (0, 0)) := (hg.block _ (by omega) (by simp; omega)).trans h.k3
  have hk6 : w6.heap[w2.heap.size]? = some (.cells #[p] 22 (0, 0)) := (hg6.block _ (Nat.lt_of_lt_of_le (by omega) hg.size) (by omega) (by omega)).trans hk5
  rcases hh with hB | ⟨j', h5, h6⟩
  · exact ⟨h4, 0, .inr hB, Lib.grownBy_trans h.g0 hg26, .inl hB, mea_x (j := 0) h.sr (.inr hB) (.inl hB)⟩
  · have hjj : j + 1 < j' := (timesS_some (by omega) h5).1
    refine ⟨h4, j', .inl ⟨h6, h.o1⟩, Lib.grownBy_trans h.g0 hg26, h.pa.next h.s2 (by omega) hg26 hq6 (by omega) hk6 (by omega) hlt0 (.inr ⟨by omega, fun f t => ?_⟩), mea_x h.sr (.inl ⟨h6, h.o1⟩) (.inr (by omega))⟩
    rw [partS, if_neg (by omega), if_neg (by omega), if_neg (by omega), if_pos hc, h5]

set_option maxHeartbeats 4000000 in
theorem rpart_any {W0 : World} (L : LibC W0) {R o : Nat} {s : ByteArray} {u : Nat → Option (Re × Nat)} (U : RUnitC W0 R s o u) {w : World} {i : Nat} (h : XR W0 w R s i o) :
    Calls Tryz.prog 106 #[.pointer (some ⟨R, 0, none⟩)] w fun e w' => GotT W0 w R s i o ((u i).bind fun x => partS s (s.size + 1) x.1 x.2) e w' := by
  have HU : Hid (Calls Tryz.prog 127 #[.pointer (some ⟨R, 0, none⟩)] w fun e w' => GotT W0 w R s i o (u i) e w') := U w i h
  have h16 := h.r16
  have hRB := h.lt
  have hini : ∀ w1 p j, (BR W0 w1 R s ∨ (SR W0 w R s i o ∧ ∃ t, u i = some (t, j) ∧ RT' w.heap.size w1 p t)) → PaH W0 w R s i o ((u i).bind fun x => partS s (s.size + 1) x.1 x.2) w1 p j := by
    rintro w1 p j (h1 | ⟨h1, t, h2, h3⟩)
    · exact .inl h1
    · exact .inr ⟨h1, t, s.size + 1, by rw [h2]; rfl, by omega, h3⟩
  have HI : Hid (∀ w1 p j, (BR W0 w1 R s ∨ (SR W0 w R s i o ∧ ∃ t, u i = some (t, j) ∧ RT' w.heap.size w1 p t)) → PaH W0 w R s i o ((u i).bind fun x => partS s (s.size + 1) x.1 x.2) w1 p j) := hini
  clear hini U h
  generalize ((u i).bind fun x => partS s (s.size + 1) x.1 x.2) = res at *
  go_enter Tryz.func106, Tryz.ntmps106
  go_wp2_with fail
  refine HU.out.mono ?_
  rintro e w1 ⟨p, j, rfl, hg1, hx1, hh1⟩
  have HX1 : Hid (XR W0 w1 R s j o) := hx1
  have HG1 : Hid (w.grownBy w1 (some R)) := hg1
  have HP1 : Hid (PaH W0 w R s i o res w1 (.pointer p) j) := HI.out w1 _ j hh1
  clear hx1 hg1 hh1 HI HU
  go_wp2
  go_loopw [3] (fun x wr => ∃ (p : Option Addr) (j : Nat), x = .pointer p ∧ Hid (XR W0 wr R s j o) ∧ Hid (w.grownBy wr (some R)) ∧ Hid (PaH W0 w R s i o res wr (.pointer p) j)) (fun _ wr => mea s R wr)
  case atStart => exact ⟨p, j, rfl, HX1, HG1, HP1⟩
  case round =>
    clear HX1 HG1 HP1
    obtain ⟨p, j, rfl, HX, HG, HP⟩ := hrel
    go_wp2_with fail
    go_at_call 74
    refine (now_x L HX.out).mono ?_
    rintro e w2 ⟨c, rfl, c0, c1, hg2, hx2, hh2⟩
    obtain ⟨w3, hw3, hT3, hK3, hg3⟩ := new_rep (.pointer p) hx2
    have hlt2 := hx2.lt
    have hs3 : w2.heap.size + 1 < w3.heap.size := by rw [← hw3]; simp
    have HTI : Hid (TmI W0 w3 w3 R (w2.heap.size + 1) s o j (.slice none 0 0) (.slice (some ⟨w2.heap.size, 0, none⟩) 1 1) 0 0) := hT3
    by_cases hcc : c = 42 ∨ c = 43 ∨ c = 63 ∨ c = 123
    · obtain ⟨hSr, hce, hS2⟩ : SR W0 wr R s j o ∧ c = cpAt s j ∧ SR W0 w2 R s j o := by
        rcases hh2 with ⟨_, e⟩ | h
        · omega
        · exact h
      have ho : o ≤ 1000 := by
        rcases hx2 with h | h
        · exact h.2
        · exact (hS2.not_br h).elim
      have hS3 : SR W0 w3 R s j o := hS2.kept (hg3 none)
      have HPS : Hid (PaS W0 w wr w2 w3 R s i o j res (.pointer p)) := ⟨hSr, hS3, ho, hRB, h16, Lib.grownBy_trans HG.out hg2, hg3 _, HP.out.now hRB hg2 hSr, hS2, hK3, hT3, hs3⟩
      have hce' : cpAt s j = c := hce.symm
      have HS3 : Hid (SR W0 w3 R s j o) := hS3
      obtain ⟨f2, f3, f4, f5, f6⟩ := HTI.out.q.cells
      clear hce hS2 hS3 hSr hh2 hx2 hg2 hg3 hT3 hK3 HX HG HP
      rcases hcc with hcc | hcc | hcc | hcc
      · subst hcc
        have HSk : Hid (Calls Tryz.prog 75 #[.pointer (some ⟨R, 0, none⟩)] (w3.setCell ⟨w2.heap.size + 1, 3, none⟩ (.int .i64 (-1))) fun e w5 => e = .returned (.tuple #[]) ∧ PaN W0 w wr R s i o res (w2.heap.size + 1) w5) := part_simple HPS.out (HTI.out.set3 (by omega) (by omega) (-1)) (HS3.out.setQ ho (by omega) (by omega)) hce' (by omega) (by omega) fun f t => by rw [partS, if_pos hce']
        clear HTI HPS hce' HS3
        go_wp2_with fail
        go_at_call 75
        refine HSk.out.mono ?_
        rintro e w5 ⟨rfl, hN⟩
        have HN : Hid (PaN W0 w wr R s i o res (w2.heap.size + 1) w5) := hN
        clear hN HSk hw3
        go_wp2
        obtain ⟨j5, hN1, hN2, hN3, hN4⟩ := HN.out
        go_roundw
        case rel => exact ⟨_, j5, rfl, hN1, hN2, hN3⟩
        case measure => exact hN4
      · subst hcc
        have HSk : Hid (Calls Tryz.prog 75 #[.pointer (some ⟨R, 0, none⟩)] ((w3.setCell ⟨w2.heap.size + 1, 2, none⟩ (.int .i64 1)).setCell ⟨w2.heap.size + 1, 3, none⟩ (.int .i64 (-1))) fun e w5 => e = .returned (.tuple #[]) ∧ PaN W0 w wr R s i o res (w2.heap.size + 1) w5) := part_simple HPS.out ((HTI.out.set2 (by omega) (by omega) 1).set3 (by omega) (by omega) (-1)) ((HS3.out.setQ ho (by omega) (by omega)).setQ ho (by omega) (by omega)) hce' (by omega) (by omega) fun f t => by rw [partS, if_neg (by omega), if_pos hce']
        clear HTI HPS hce' HS3
        go_wp2_with fail
        go_at_call 75
        refine HSk.out.mono ?_
        rintro e w5 ⟨rfl, hN⟩
        have HN : Hid (PaN W0 w wr R s i o res (w2.heap.size + 1) w5) := hN
        clear hN HSk hw3
        go_wp2
        obtain ⟨j5, hN1, hN2, hN3, hN4⟩ := HN.out
        go_roundw
        case rel => exact ⟨_, j5, rfl, hN1, hN2, hN3⟩
        case measure => exact hN4
      · subst hcc
        have HSk : Hid (Calls Tryz.prog 75 #[.pointer (some ⟨R, 0, none⟩)] (w3.setCell ⟨w2.heap.size + 1, 3, none⟩ (.int .i64 1)) fun e w5 => e = .returned (.tuple #[]) ∧ PaN W0 w wr R s i o res (w2.heap.size + 1) w5) := part_simple HPS.out (HTI.out.set3 (by omega) (by omega) 1) (HS3.out.setQ ho (by omega) (by omega)) hce' (by omega) (by omega) fun f t => by rw [partS, if_neg (by omega), if_neg (by omega), if_pos hce']
        clear HTI HPS hce' HS3
        go_wp2_with fail
        go_at_call 75
        refine HSk.out.mono ?_
        rintro e w5 ⟨rfl, hN⟩
        have HN : Hid (PaN W0 w wr R s i o res (w2.heap.size + 1) w5) := hN
        clear hN HSk hw3
        go_wp2
        obtain ⟨j5, hN1, hN2, hN3, hN4⟩ := HN.out
        go_roundw
        case rel => exact ⟨_, j5, rfl, hN1, hN2, hN3⟩
        case measure => exact hN4
      · subst hcc
        have HSk : Hid (Calls Tryz.prog 75 #[.pointer (some ⟨R, 0, none⟩)] w3 fun e w5 => e = .returned (.tuple #[]) ∧ Hid (Calls Tryz.prog 128 #[.pointer (some ⟨R, 0, none⟩), .pointer (some ⟨w2.heap.size + 1, 0, none⟩)] w5 fun e w6 => e = .returned (.tuple #[]) ∧ PaN W0 w wr R s i o res (w2.heap.size + 1) w6)) := part_brace L HPS.out hce'
        clear HTI HPS hce' HS3
        go_wp2_with fail
        go_at_call 75
        refine HSk.out.mono ?_
        rintro e w5 ⟨rfl, HTm⟩
        clear HSk hw3
        go_wp2_with fail
        go_at_call 128
        refine HTm.out.mono ?_
        rintro e w6 ⟨rfl, hN⟩
        have HN : Hid (PaN W0 w wr R s i o res (w2.heap.size + 1) w6) := hN
        clear hN HTm
        go_wp2
        obtain ⟨j5, hN1, hN2, hN3, hN4⟩ := HN.out
        go_roundw
        case rel => exact ⟨_, j5, rfl, hN1, hN2, hN3⟩
        case measure => exact hN4
    · have n1 : (c == 42) = false := by rw [beq_eq_false_iff_ne]; omega
      have n2 : (c == 43) = false := by rw [beq_eq_false_iff_ne]; omega
      have n3 : (c == 63) = false := by rw [beq_eq_false_iff_ne]; omega
      have n4 : (c == 123) = false := by rw [beq_eq_false_iff_ne]; omega
      have HFin : Hid (GotT W0 w R s i o res (.returned (.pointer p)) w3) := by
        have hg23 := Lib.grownBy_trans hg2 (hg3 (some R))
        refine ⟨p, j, rfl, Lib.grownBy_trans HG.out hg23, hT3.x, HP.out.stop (c := 0) hRB hg23 ?_⟩
        rcases hh2 with ⟨hB, _⟩ | ⟨q1, q2, q3⟩
        · exact .inl (hB.kept (hg3 none))
        · exact .inr ⟨q1, by omega, by omega, by omega, by omega⟩
      clear hcc hh2 hx2 hg2 hg3 hT3 hK3 HX HG HP HTI
      go_wp2
      go_ret
      exact HFin.out

end Go.Proofs.YtbjohedenfindaaGreatDoor

namespace Go.Proofs.YtbjohedenfindaaGreatDoor
open Go.RowKit
set_option linter.unusedVariables false
set_option maxRecDepth 100000

set_option maxHeartbeats 1000000 in
theorem rsev_one (kind : Int) (g cap b : Nat) (w : World) (hc : w.cell? ⟨g, 0, none⟩ = some (.pointer (some ⟨b, 0, none⟩))) :
    Calls Tryz.prog 46 #[.int .i64 kind, .slice (some ⟨g, 0, none⟩) 1 cap] w fun e w' => e = .returned (.pointer (some ⟨b, 0, none⟩)) ∧ w' = w := by
  go_enter Tryz.func46, Tryz.ntmps46
  go_wp2
  go_ret
  exact ⟨rfl, rfl⟩

set_option maxHeartbeats 1000000 in
theorem rsev_more (kind : Int) (a : Option Addr) (n cap : Nat) (w : World) (hn : n ≠ 1) :
    Calls Tryz.prog 46 #[.int .i64 kind, .slice a n cap] w fun e w' => e = .returned (.pointer (some ⟨w.heap.size, 0, none⟩)) ∧ w' = w.alloc (.cells #[.int .i64 kind, .slice none 0 0, .int .i64 0, .int .i64 0, .slice a n cap] 48) := by
  have hq : ((n : Int) == 1) = false := by rw [beq_eq_false_iff_ne]; omega
  go_enter Tryz.func46, Tryz.ntmps46
  go_wp2
  go_ret
  exact ⟨rfl, rfl⟩

theorem rsev_any {B : Nat} (kind : Int) (v : Value) (l : List Re) (w : World) (hBw : B ≤ w.heap.size) (hv : PtrsOwn w B v l) :
    Calls Tryz.prog 46 #[.int .i64 kind, v] w fun e w' => ∃ u, e = .returned u ∧ Tree (fun b => B ≤ b) w' u (gatherS kind l) ∧ ∀ row, w.grownBy w' row := by
  by_cases h1 : l.length = 1
  · obtain ⟨vs, hl, hown, hall⟩ := hv
    obtain ⟨t, ht, hT⟩ := hall 0 (by omega)
    obtain ⟨t', rfl⟩ := List.length_eq_one_iff.1 h1
    have e : t' = t := by simpa using ht
    subst e
    rcases hown.2 with ⟨rfl, h0⟩ | ⟨g, cap, cur, rfl, _⟩
    · simp at hl; omega
    · have hc := hown.cellAt 0 (by omega)
      have hc' : w.cell? ⟨g, 0, none⟩ = some (vs.getD 0 .nilFunc) := by
        have h0 : 0 < vs.length := by omega
        rw [show (⟨g, 0, none⟩ : Addr) = ⟨g, 0 * 1, none⟩ by simp]
        first | (rw [hc]; simp [h0]) | (simpa [h0] using hc)
      have hl1 : vs.length = 1 := by simpa using hl
      rw [hl1]
      obtain ⟨b, hb, _⟩ := hT.ptr
      rw [hb] at hc' hT
      refine (rsev_one kind g cap b w hc').mono ?_
      rintro e w' ⟨rfl, rfl⟩
      exact ⟨_, rfl, hT.imp fun b _ h => h.1, fun row => World.grownBy.refl _ _⟩
  · obtain ⟨a, c, rfl⟩ := ptrs_slice hv
    refine (rsev_more kind a l.length c w h1).mono ?_
    rintro e w' ⟨rfl, rfl⟩
    have hg : ∀ row, w.grownBy (w.alloc (.cells #[.int .i64 kind, .slice none 0 0, .int .i64 0, .int .i64 0, .slice a l.length c] 48)) row := fun row => World.grownBy_alloc w _ row
    refine ⟨_, rfl, ?_, hg⟩
    have e : gatherS kind l = ⟨kind, [], 0, 0, l.map some⟩ := by
      match l, h1 with
      | [], _ => rfl
      | [p], h => simp at h
      | p :: q :: r, _ => rfl
    rw [e]
    exact tree_node (heap_alloc_new w _) hBw (Or.inl ⟨rfl, none, 0, rfl⟩) (hv.grown (row := none) (by simp) (hg _))


end Go.Proofs.YtbjohedenfindaaGreatDoor

namespace Go.Proofs.YtbjohedenfindaaGreatDoor
open Go.RowKit
set_option linter.unusedVariables false
set_option maxRecDepth 100000

theorem digVal_pos (s : ByteArray) (i : Nat) : ∀ k, (∀ j, j < k → isDig s (i + j) = true) → 0 ≤ digVal s i k
  | 0, _ => by simp [digVal]
  | k + 1, h => by
    have h1 := digVal_pos s i k (fun j hj => h j (by omega))
    have h2 := h k (by omega)
    simp [isDig] at h2
    simp only [digVal]
    omega
theorem countS_pos {s : ByteArray} {i j : Nat} {a : Int} (h : countS s i = some (a, j)) : 0 ≤ a := by
  unfold countS at h
  split at h
  · simp at h
  · simp at h
    rw [← h.1]
    exact digVal_pos s i _ (digRun_all s s.size i)

def TwoV (p : Int × Int) (_ : World) (v : Value) : Prop := v = .tuple #[.int .i64 p.1, .int .i64 p.2]

set_option maxHeartbeats 4000000 in
theorem times_any {W0 w : World} (L : LibC W0) {R i o M : Nat} {s : ByteArray} (h : St W0 w R s i o M) :
    Calls Tryz.prog 137 #[.pointer (some ⟨R, 0, none⟩)] w (Got W0 w R s o M (timesS s i) TwoV) := by
  have HS : Hid (St W0 w R s i o M) := h
  have HC : Hid (timesS s i = match countS s i with
    | none => none
    | some (a, j) =>
      if cpAt s j = 44 then
        if cpAt s (j + 1) = 125 then some ((a, -1), j + 2)
        else match countS s (j + 1) with
          | none => none
          | some (b, k) => if b < a ∨ b < 1 ∨ cpAt s k ≠ 125 then none else some ((a, b), k + 1)
      else if cpAt s j ≠ 125 ∨ a < 1 then none else some ((a, a), j + 1)) := rfl
  generalize timesS s i = res at *
  obtain ⟨_, c1, _, _⟩ := h.at_.cells
  have hs := h.text
  have hi := h.inn
  clear h
  go_enter Tryz.func137, Tryz.ntmps137
  go_wp2_with fail
  refine (count_any L HS.out).mono ?_
  intro e w1 hG
  obtain ⟨hg1, ⟨hx, f, rfl⟩ | ⟨⟨a, j⟩, v, hx, rfl, hv, hS1⟩⟩ := hG.both
  · exact ⟨rfl, Got.bad (by rw [HC.out, hx]) hg1 ⟨f, rfl⟩⟩
  · have hv' : v = .int .i64 a := hv
    subst hv'
    have ha := countS_pos hx
    obtain ⟨hj0, hj1, ha50⟩ := countS_some hi hx
    have HC2 : Hid (res = if cpAt s j = 44 then
        if cpAt s (j + 1) = 125 then some ((a, -1), j + 2)
        else match countS s (j + 1) with
          | none => none
          | some (b, k) => if b < a ∨ b < 1 ∨ cpAt s k ≠ 125 then none else some ((a, b), k + 1)
      else if cpAt s j ≠ 125 ∨ a < 1 then none else some ((a, a), j + 1)) := by show _ = _; rw [HC.out, hx]
    have HS1 : Hid (St W0 w1 R s j o M) := hS1
    clear HC hx hG hS1 c1
    by_cases hcomma : cpAt s j = 44
    · obtain ⟨hjl, hjz⟩ := cp_eq_size hcomma (by omega) (by omega)
      have HT := take_yes L HS1.out 44 hcomma
      rw [hjz] at HT
      have HT' : Hid (Calls Tryz.prog 72 #[.pointer (some ⟨R, 0, none⟩), .int .i32 44] w1 fun e w' => e = .returned (.bool true) ∧ w1.grownBy w' (some R) ∧ St W0 w' R s (j + 1) o M) := HT
      have HC3 : Hid (res = if cpAt s (j + 1) = 125 then some ((a, -1), j + 2)
        else match countS s (j + 1) with
          | none => none
          | some (b, k) => if b < a ∨ b < 1 ∨ cpAt s k ≠ 125 then none else some ((a, b), k + 1)) := by show _ = _; rw [HC2.out, if_pos hcomma]
      clear HT HC2 hcomma hjz
      go_wp2_with fail
      refine HT'.out.mono ?_
      rintro e w2 ⟨rfl, hg2, hS2⟩
      have hg12 := Lib.grownBy_trans hg1 hg2
      have HS2 : Hid (St W0 w2 R s (j + 1) o M) := hS2
      clear hS2
      by_cases hbr : cpAt s (j + 1) = 125
      · obtain ⟨hjl2, hjz2⟩ := cp_eq_size hbr (by omega) (by omega)
        have HT := take_yes L HS2.out 125 hbr
        rw [hjz2] at HT
        have HT2 : Hid (Calls Tryz.prog 72 #[.pointer (some ⟨R, 0, none⟩), .int .i32 125] w2 fun e w' => e = .returned (.bool true) ∧ w2.grownBy w' (some R) ∧ St W0 w' R s (j + 2) o M) := HT
        have HC4 : Hid (res = some ((a, -1), j + 2)) := by show _ = _; rw [HC3.out, if_pos hbr]
        clear HT HC3 hbr hjz2
        go_wp2_with fail
        refine HT2.out.mono ?_
        rintro e w3 ⟨rfl, hg3, hS3⟩
        go_wp2
        go_ret2
        exact Got.ok HC4.out (Lib.grownBy_trans hg12 hg3) rfl hS3
      · have HT2 : Hid (Calls Tryz.prog 72 #[.pointer (some ⟨R, 0, none⟩), .int .i32 125] w2 fun e w' => e = .returned (.bool false) ∧ w2.grownBy w' (some R) ∧ St W0 w' R s (j + 1) o M) := take_no L HS2.out 125 hbr
        have HC4 : Hid (res = match countS s (j + 1) with
          | none => none
          | some (b, k) => if b < a ∨ b < 1 ∨ cpAt s k ≠ 125 then none else some ((a, b), k + 1)) := by show _ = _; rw [HC3.out, if_neg hbr]
        clear HC3 hbr
        go_wp2_with fail
        refine HT2.out.mono ?_
        rintro e w3 ⟨rfl, hg3, hS3⟩
        have hg13 := Lib.grownBy_trans hg12 hg3
        obtain ⟨_, d1, _, _⟩ := hS3.at_.cells
        have HS3 : Hid (St W0 w3 R s (j + 1) o M) := hS3
        clear hS3
        go_wp2_with fail
        refine (count_any L HS3.out).mono ?_
        intro e w4 hG
        obtain ⟨hg4, ⟨hx, f, rfl⟩ | ⟨⟨b, k⟩, v, hx, rfl, hv, hS4⟩⟩ := hG.both
        · exact ⟨rfl, Got.bad (by rw [HC4.out, hx]) (Lib.grownBy_trans hg13 hg4) ⟨f, rfl⟩⟩
        · have hv' : v = .int .i64 b := hv
          subst hv'
          have hb := countS_pos hx
          have hk1 := (countS_some (by omega) hx).2.1
          have hg14 := Lib.grownBy_trans hg13 hg4
          have HC5 : Hid (res = if b < a ∨ b < 1 ∨ cpAt s k ≠ 125 then none else some ((a, b), k + 1)) := by show _ = _; rw [HC4.out, hx]
          have HS4 : Hid (St W0 w4 R s k o M) := hS4
          obtain ⟨te, pe, d2⟩ := L.synAt hS4.env
          clear HC4 hx hG hS4 d1 hv
          by_cases ha1 : a < 1
          · have ha0 : a = 0 := by omega
            subst ha0
            by_cases hlow : b < 1
            · have HB : Hid (b < 0 ∨ b < 1) := by show b < 0 ∨ b < 1; omega
              go_wp2_with fail
              refine (throw_any _ _ _ _).mono ?_
              rintro e w' ⟨⟨f, rfl⟩, hg5⟩
              refine ⟨rfl, Got.bad ?_ (Lib.grownBy_trans hg14 (hg5 _)) ⟨f, rfl⟩⟩
              rw [HC5.out, if_pos (by rcases HB.out with h | h; exact Or.inl h; exact Or.inr (Or.inl h))]
            · by_cases hend : cpAt s k = 125
              · obtain ⟨hkl, hkz⟩ := cp_eq_size hend (by omega) (by omega)
                have HW := want_yes L HS4.out 125 hend
                rw [hkz] at HW
                have HW2 : Hid (Calls Tryz.prog 43 #[.pointer (some ⟨R, 0, none⟩), .int .i32 125] w4 fun e w' => e = .returned (.tuple #[]) ∧ w4.grownBy w' (some R) ∧ St W0 w' R s (k + 1) o M) := HW
                have HC6 : Hid (res = some ((0, b), k + 1)) := by show _ = _; rw [HC5.out, if_neg (by intro hh; rcases hh with h | h | h; omega; omega; exact h hend)]
                clear HW hkz hend HC5
                go_wp2_with fail
                refine HW2.out.mono ?_
                rintro e w5 ⟨rfl, hg5, hS5⟩
                go_wp2
                go_ret2
                exact Got.ok HC6.out (Lib.grownBy_trans hg14 hg5) rfl hS5
              · have HW2 : Hid (Calls Tryz.prog 43 #[.pointer (some ⟨R, 0, none⟩), .int .i32 125] w4 fun e w' => Thrown e ∧ w4.grownBy w' (some R)) := want_no L HS4.out 125 hend
                have HC6 : Hid (res = none) := by show _ = _; rw [HC5.out, if_pos (Or.inr (Or.inr hend))]
                clear hend HC5
                go_wp2_with fail
                refine HW2.out.mono ?_
                rintro e w5 ⟨⟨f, rfl⟩, hg5⟩
                exact ⟨rfl, Got.bad HC6.out (Lib.grownBy_trans hg14 hg5) ⟨f, rfl⟩⟩
          · have ha2 : (1 : Int) ≤ a := by omega
            clear ha1
            by_cases hlow : b < a
            · have HB : Hid (b < a ∨ b < 1) := by show b < a ∨ b < 1; omega
              go_wp2_with fail
              refine (throw_any _ _ _ _).mono ?_
              rintro e w' ⟨⟨f, rfl⟩, hg5⟩
              refine ⟨rfl, Got.bad ?_ (Lib.grownBy_trans hg14 (hg5 _)) ⟨f, rfl⟩⟩
              rw [HC5.out, if_pos (by rcases HB.out with h | h; exact Or.inl h; exact Or.inr (Or.inl h))]
            · by_cases hend : cpAt s k = 125
              · obtain ⟨hkl, hkz⟩ := cp_eq_size hend (by omega) (by omega)
                have HW := want_yes L HS4.out 125 hend
                rw [hkz] at HW
                have HW2 : Hid (Calls Tryz.prog 43 #[.pointer (some ⟨R, 0, none⟩), .int .i32 125] w4 fun e w' => e = .returned (.tuple #[]) ∧ w4.grownBy w' (some R) ∧ St W0 w' R s (k + 1) o M) := HW
                have HC6 : Hid (res = some ((a, b), k + 1)) := by show _ = _; rw [HC5.out, if_neg (by intro hh; rcases hh with h | h | h; omega; omega; exact h hend)]
                clear HW hkz hend HC5
                go_wp2_with fail
                refine HW2.out.mono ?_
                rintro e w5 ⟨rfl, hg5, hS5⟩
                go_wp2
                go_ret2
                exact Got.ok HC6.out (Lib.grownBy_trans hg14 hg5) rfl hS5
              · have HW2 : Hid (Calls Tryz.prog 43 #[.pointer (some ⟨R, 0, none⟩), .int .i32 125] w4 fun e w' => Thrown e ∧ w4.grownBy w' (some R)) := want_no L HS4.out 125 hend
                have HC6 : Hid (res = none) := by show _ = _; rw [HC5.out, if_pos (Or.inr (Or.inr hend))]
                clear hend HC5
                go_wp2_with fail
                refine HW2.out.mono ?_
                rintro e w5 ⟨⟨f, rfl⟩, hg5⟩
                exact ⟨rfl, Got.bad HC6.out (Lib.grownBy_trans hg14 hg5) ⟨f, rfl⟩⟩
    · have HT' : Hid (Calls Tryz.prog 72 #[.pointer (some ⟨R, 0, none⟩), .int .i32 44] w1 fun e w' => e = .returned (.bool false) ∧ w1.grownBy w' (some R) ∧ St W0 w' R s j o M) := take_no L HS1.out 44 hcomma
      have HC3 : Hid (res = if cpAt s j ≠ 125 ∨ a < 1 then none else some ((a, a), j + 1)) := by show _ = _; rw [HC2.out, if_neg hcomma]
      clear HC2 hcomma
      go_wp2_with fail
      refine HT'.out.mono ?_
      rintro e w2 ⟨rfl, hg2, hS2⟩
      have hg12 := Lib.grownBy_trans hg1 hg2
      have HS2 : Hid (St W0 w2 R s j o M) := hS2
      clear hS2
      by_cases hend : cpAt s j = 125
      · obtain ⟨hkl, hkz⟩ := cp_eq_size hend (by omega) (by omega)
        have HW := want_yes L HS2.out 125 hend
        rw [hkz] at HW
        have HW2 : Hid (Calls Tryz.prog 43 #[.pointer (some ⟨R, 0, none⟩), .int .i32 125] w2 fun e w' => e = .returned (.tuple #[]) ∧ w2.grownBy w' (some R) ∧ St W0 w' R s (j + 1) o M) := HW
        have HC4 : Hid (res = if a < 1 then none else some ((a, a), j + 1)) := by show _ = _; rw [HC3.out]; simp [hend]
        clear HW hkz hend HC3
        go_wp2_with fail
        refine HW2.out.mono ?_
        rintro e w3 ⟨rfl, hg3, hS3⟩
        have hg13 := Lib.grownBy_trans hg12 hg3
        obtain ⟨te, pe, d2⟩ := L.synAt hS3.env
        have HS3 : Hid (St W0 w3 R s (j + 1) o M) := hS3
        clear hS3
        by_cases h0 : a < 1
        · have ha0 : a = 0 := by omega
          subst ha0
          go_wp2_with fail
          refine (throw_any _ _ _ _).mono ?_
          rintro e w' ⟨⟨f, rfl⟩, hg4⟩
          exact ⟨rfl, Got.bad (by rw [HC4.out, if_pos (by omega)]) (Lib.grownBy_trans hg13 (hg4 _)) ⟨f, rfl⟩⟩
        · have hne : (a == 0) = false := by rw [beq_eq_false_iff_ne]; omega
          have HC5 : Hid (res = some ((a, a), j + 1)) := by show _ = _; rw [HC4.out, if_neg h0]
          go_wp2
          go_ret2
          exact Got.ok HC5.out hg13 rfl HS3.out
      · have HW2 : Hid (Calls Tryz.prog 43 #[.pointer (some ⟨R, 0, none⟩), .int .i32 125] w2 fun e w' => Thrown e ∧ w2.grownBy w' (some R)) := want_no L HS2.out 125 hend
        have HC4 : Hid (res = none) := by show _ = _; rw [HC3.out, if_pos (Or.inl hend)]
        clear hend HC3
        go_wp2_with fail
        refine HW2.out.mono ?_
        rintro e w3 ⟨⟨f, rfl⟩, hg3⟩
        exact ⟨rfl, Got.bad HC4.out (Lib.grownBy_trans hg12 hg3) ⟨f, rfl⟩⟩

end Go.Proofs.YtbjohedenfindaaGreatDoor
