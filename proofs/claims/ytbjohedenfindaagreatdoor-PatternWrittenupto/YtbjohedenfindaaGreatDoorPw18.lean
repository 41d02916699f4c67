/- Texts of the proof, put together: RParB, RSev, PTms, PItm, PPar, PRow. -/
import Derived.Test.YtbjohedenfindaaGreatDoorPw17
import Derived.Test.YtbjohedenfindaaGreatDoorPw12
import Derived.Test.YtbjohedenfindaaGreatDoorPw11
import Derived.Maps.AppendAt
namespace Go.Proofs.YtbjohedenfindaaGreatDoor
open Go.RowKit
set_option linter.unusedVariables false
set_option maxRecDepth 100000

theorem XR.sr {W0 w : World} {R i o : Nat} {s : ByteArray} (h : XR W0 w R s i o) (hc : w.cell? ⟨R, 3, none⟩ = some .nilIface) : SR W0 w R s i o := by
  rcases h with h | h
  · exact h.1
  · obtain ⟨te, pe, h2⟩ := h.cell3
    rw [hc] at h2
    simp at h2
theorem SR.setQ {W0 w : World} {R i o Q k : Nat} {s : ByteArray} {v : Value} (h : SR W0 w R s i o) (ho : o ≤ 1000) (hne : Q ≠ R) (hQ : 16 ≤ Q) : SR W0 (w.setCell ⟨Q, k, none⟩ v) R s i o := by
  refine (XR.setQ (.inl ⟨h, ho⟩) hne hQ).sr ?_
  rw [World.cell?_of_block (a := ⟨R, 3, none⟩) (Below.heap_setCell _ _ _ _ (by simp; omega))]
  exact h.cell1.2
theorem PaH.now {W0 w0 w w' : World} {R i o j : Nat} {s : ByteArray} {res : Option (Re × Nat)} {p : Value} (h : PaH W0 w0 R s i o res w p j) (hRB : R < w0.heap.size) (hg : w.grownBy w' (some R)) (hS : SR W0 w R s j o) : PaH W0 w0 R s i o res w' p j := by
  rcases h with h | ⟨h1, t, f, h2, h3, h4⟩
  · exact (hS.not_br h).elim
  · exact .inr ⟨h1, t, f, h2, h3, tree_grown h4 hRB hg⟩

/-- behind a round -/
def PaN (W0 w0 wr : World) (R : Nat) (s : ByteArray) (i o : Nat) (res : Option (Re × Nat)) (Q : Nat) (w : World) : Prop := ∃ j, XR W0 w R s j o ∧ w0.grownBy w (some R) ∧ PaH W0 w0 R s i o res w (.pointer (some ⟨Q, 0, none⟩)) j ∧ mea s R w < mea s R wr ∧ (SR W0 w0 R s i o → BR W0 w R s → BadR s res)

/-- what stands when a sign was seen -/
structure PaS (W0 w0 wr w2 w3 : World) (R : Nat) (s : ByteArray) (i o j : Nat) (res : Option (Re × Nat)) (p : Value) : Prop where
  sr : SR W0 wr R s j o
  s3 : SR W0 w3 R s j o
  o1 : o ≤ 1000
  lt : R < w0.heap.size
  r16 : 16 ≤ R
  g0 : w0.grownBy w2 (some R)
  g3 : w2.grownBy w3 (some R)
  pa : PaH W0 w0 R s i o res w2 p j
  s2 : SR W0 w2 R s j o
  k3 : w3.heap[w2.heap.size]? = some (.cells #[p] 22 (0, 0))
  t3 : TmI W0 w3 w3 R (w2.heap.size + 1) s o j (.slice none 0 0) (.slice (some ⟨w2.heap.size, 0, none⟩) 1 1) 0 0
  sz : w2.heap.size + 1 < w3.heap.size

theorem part_simple {W0 w0 wr w2 w3 w4 : World} {R i o j : Nat} {s : ByteArray} {res : Option (Re × Nat)} {p : Value} {mn mx c : Int} (h : PaS W0 w0 wr w2 w3 R s i o j res p) (hT : TmI W0 w3 w4 R (w2.heap.size + 1) s o j (.slice none 0 0) (.slice (some ⟨w2.heap.size, 0, none⟩) 1 1) mn mx) (hS : SR W0 w4 R s j o)
    (hc : cpAt s j = c) (hc0 : 0 ≤ c) (hc1 : c < 128) (hn : ∀ f t, partS s (f + 1) t j = partS s f (repRe mn mx t) (j + 1)) :
    Calls Tryz.prog 75 #[.pointer (some ⟨R, 0, none⟩)] w4 fun e w5 => e = .returned (.tuple #[]) ∧ PaN W0 w0 wr R s i o res (w2.heap.size + 1) w5 := by
  have hsz := cp_eq_size hc hc0 hc1
  refine (skip_in hS (by omega)).mono ?_
  rintro e w5 ⟨h1, hg, h3⟩
  rw [hsz.2] at h3
  have hlt0 := h.lt
  have hsz02 := h.g0.size
  have hlt : R < w2.heap.size := by omega
  have hsz3 := h.sz
  have hg24 : w2.grownBy w4 (some R) := gr2_grown h.g3 (Nat.le_succ _) hT.g
  have hg25 := Lib.grownBy_trans hg24 hg
  have hq5 : QAt w5 (w2.heap.size + 1) (.slice none 0 0) (.slice (some ⟨w2.heap.size, 0, none⟩) 1 1) mn mx := hT.q.kept hg (by omega)
  have hk4 : w4.heap[w2.heap.size]? = some (.cells #[p] 22 (0, 0)) := (hT.g.block _ (by omega) (by omega) (by omega)).trans h.k3
  have hk5 : w5.heap[w2.heap.size]? = some (.cells #[p] 22 (0, 0)) := (hg.block _ (Nat.lt_of_lt_of_le (by omega) hT.g.size) (by simp; omega)).trans hk4
  exact ⟨h1, j + 1, .inl ⟨h3, h.o1⟩, Lib.grownBy_trans h.g0 hg25, h.pa.next h.s2 (by omega) hg25 hq5 (by omega) hk5 (by omega) hlt0 (.inr ⟨by omega, hn⟩), mea_x h.sr (.inl ⟨h3, h.o1⟩) (.inr (by omega)), fun _ hB => (sr_not_br h3 hB).elim⟩
theorem part_brace {W0 w0 wr w2 w3 : World} (L : LibR W0) {R i o j : Nat} {s : ByteArray} {res : Option (Re × Nat)} {p : Value} (h : PaS W0 w0 wr w2 w3 R s i o j res p) (hc : cpAt s j = 123) :
    Calls Tryz.prog 75 #[.pointer (some ⟨R, 0, none⟩)] w3 fun e w5 => e = .returned (.tuple #[]) ∧ Hid (Calls Tryz.prog 128 #[.pointer (some ⟨R, 0, none⟩), .pointer (some ⟨w2.heap.size + 1, 0, none⟩)] w5 fun e w6 => e = .returned (.tuple #[]) ∧ PaN W0 w0 wr R s i o res (w2.heap.size + 1) w6) := by
  have hsz := cp_eq_size hc (by omega) (by omega)
  refine (skip_in h.s3 (by omega)).mono ?_
  rintro e w5 ⟨h1, hg, h3⟩
  rw [hsz.2] at h3
  refine ⟨h1, ?_⟩
  have hlt0 := h.lt
  have hsz02 := h.g0.size
  have hlt : R < w2.heap.size := by omega
  have h16 := h.r16
  have hsz3 := h.sz
  have hq5 : QAt w5 (w2.heap.size + 1) (.slice none 0 0) (.slice (some ⟨w2.heap.size, 0, none⟩) 1 1) 0 0 := h.t3.q.kept hg (by omega)
  refine (rtimes_any L (by omega) (by omega) (.inl ⟨h3, h.o1⟩) hq5).mono ?_
  rintro e w6 ⟨h4, mn, mx, hq6, hg6, hh, hhn⟩
  have hg25 := Lib.grownBy_trans h.g3 hg
  have hg26 : w2.grownBy w6 (some R) := gr2_grown hg25 (Nat.le_succ _) hg6
  have hk5 : w5.heap[w2.heap.size]? = some (.cells #[p] 22 (0, 0)) := (hg.block _ (by omega) (by simp; omega)).trans h.k3
  have hk6 : w6.heap[w2.heap.size]? = some (.cells #[p] 22 (0, 0)) := (hg6.block _ (Nat.lt_of_lt_of_le (by omega) hg.size) (by omega) (by omega)).trans hk5
  rcases hh with hB | ⟨j', h5, h6⟩
  · exact ⟨h4, 0, .inr hB, Lib.grownBy_trans h.g0 hg26, .inl hB, mea_x (j := 0) h.sr (.inr hB) (.inl hB), fun _ hB => .inl (h.pa.brace h.s2 (by omega) hc (hhn h3 hB))⟩
  · have hjj : j + 1 < j' := (timesS_some (by omega) h5).1
    refine ⟨h4, j', .inl ⟨h6, h.o1⟩, Lib.grownBy_trans h.g0 hg26, h.pa.next h.s2 (by omega) hg26 hq6 (by omega) hk6 (by omega) hlt0 (.inr ⟨by omega, fun f t => ?_⟩), mea_x h.sr (.inl ⟨h6, h.o1⟩) (.inr (by omega)), fun _ hB => (sr_not_br h6 hB).elim⟩
    rw [partS, if_neg (by omega), if_neg (by omega), if_neg (by omega), if_pos hc, h5]

set_option maxHeartbeats 4000000 in
theorem rpart_any {W0 : World} (L : LibR W0) {R o : Nat} {s : ByteArray} {u : Nat → Option (Re × Nat)} (U : RUnitC W0 R s o u) {w : World} {i : Nat} (h : XR W0 w R s i o) :
    Calls Tryz.prog 106 #[.pointer (some ⟨R, 0, none⟩)] w fun e w' => GotP W0 w R s i o ((u i).bind fun x => partS s (s.size + 1) x.1 x.2) e w' := by
  have HU : Hid (Calls Tryz.prog 127 #[.pointer (some ⟨R, 0, none⟩)] w fun e w' => GotT W0 w R s i o (u i) e w') := U w i h
  have h16 := h.r16
  have hRB := h.lt
  have hini : ∀ w1 p j, (BR W0 w1 R s ∨ (SR W0 w R s i o ∧ ∃ t, u i = some (t, j) ∧ RT' w.heap.size w1 p t)) → PaH W0 w R s i o ((u i).bind fun x => partS s (s.size + 1) x.1 x.2) w1 p j := by
    rintro w1 p j (h1 | ⟨h1, t, h2, h3⟩)
    · exact .inl h1
    · exact .inr ⟨h1, t, s.size + 1, by rw [h2]; rfl, by omega, h3⟩
  have HI : Hid (∀ w1 p j, (BR W0 w1 R s ∨ (SR W0 w R s i o ∧ ∃ t, u i = some (t, j) ∧ RT' w.heap.size w1 p t)) → PaH W0 w R s i o ((u i).bind fun x => partS s (s.size + 1) x.1 x.2) w1 p j) := hini
  have HI2 : Hid (u i = none → BadR s ((u i).bind fun x => partS s (s.size + 1) x.1 x.2)) := fun h => .inl (by rw [h]; rfl)
  clear hini U h
  generalize ((u i).bind fun x => partS s (s.size + 1) x.1 x.2) = res at *
  go_enter Tryz.func106, Tryz.ntmps106
  go_wp2_with fail
  refine HU.out.mono ?_
  rintro e w1 ⟨p, j, rfl, hg1, hx1, hh1, hh1n⟩
  have HX1 : Hid (XR W0 w1 R s j o) := hx1
  have HG1 : Hid (w.grownBy w1 (some R)) := hg1
  have HP1 : Hid (PaH W0 w R s i o res w1 (.pointer p) j) := HI.out w1 _ j hh1
  have HB1 : Hid (SR W0 w R s i o → BR W0 w1 R s → BadR s res) := fun hS hB => HI2.out (hh1n hS hB)
  clear hx1 hg1 hh1 hh1n HI HI2 HU
  go_wp2
  go_loopw [3] (fun x wr => ∃ (p : Option Addr) (j : Nat), x = .pointer p ∧ Hid (XR W0 wr R s j o) ∧ Hid (w.grownBy wr (some R)) ∧ Hid (PaH W0 w R s i o res wr (.pointer p) j) ∧ Hid (SR W0 w R s i o → BR W0 wr R s → BadR s res)) (fun _ wr => mea s R wr)
  case atStart => exact ⟨p, j, rfl, HX1, HG1, HP1, HB1⟩
  case round =>
    clear HX1 HG1 HP1 HB1
    obtain ⟨p, j, rfl, HX, HG, HP, HBr⟩ := hrel
    go_wp2_with fail
    go_at_call 74
    refine (now_x L HX.out).mono ?_
    rintro e w2 ⟨c, rfl, c0, c1, hg2, hx2, hh2, hh2n⟩
    obtain ⟨w3, hw3, hT3, hK3, hg3⟩ := new_rep (.pointer p) hx2
    have hlt2 := hx2.lt
    have hs3 : w2.heap.size + 1 < w3.heap.size := by rw [← hw3]; simp
    have HTI : Hid (TmI W0 w3 w3 R (w2.heap.size + 1) s o j (.slice none 0 0) (.slice (some ⟨w2.heap.size, 0, none⟩) 1 1) 0 0) := hT3
    by_cases hcc : c = 42 ∨ c = 43 ∨ c = 63 ∨ c = 123
    · obtain ⟨hSr, hce, hS2⟩ : SR W0 wr R s j o ∧ c = cpAt s j ∧ SR W0 w2 R s j o := by
        rcases hh2 with ⟨_, e⟩ | h
        · omega
        · exact h
      have ho : o ≤ 1000 := by
        rcases hx2 with h | h
        · exact h.2
        · exact (hS2.not_br h).elim
      have hS3 : SR W0 w3 R s j o := hS2.kept (hg3 none)
      have HPS : Hid (PaS W0 w wr w2 w3 R s i o j res (.pointer p)) := ⟨hSr, hS3, ho, hRB, h16, Lib.grownBy_trans HG.out hg2, hg3 _, HP.out.now hRB hg2 hSr, hS2, hK3, hT3, hs3⟩
      have hce' : cpAt s j = c := hce.symm
      have HS3 : Hid (SR W0 w3 R s j o) := hS3
      obtain ⟨f2, f3, f4, f5, f6⟩ := HTI.out.q.cells
      clear hce hS2 hS3 hSr hh2 hh2n hx2 hg2 hg3 hT3 hK3 HX HG HP HBr
      rcases hcc with hcc | hcc | hcc | hcc
      · subst hcc
        have HSk : Hid (Calls Tryz.prog 75 #[.pointer (some ⟨R, 0, none⟩)] (w3.setCell ⟨w2.heap.size + 1, 3, none⟩ (.int .i64 (-1))) fun e w5 => e = .returned (.tuple #[]) ∧ PaN W0 w wr R s i o res (w2.heap.size + 1) w5) := part_simple HPS.out (HTI.out.set3 (by omega) (by omega) (-1)) (HS3.out.setQ ho (by omega) (by omega)) hce' (by omega) (by omega) fun f t => by rw [partS, if_pos hce']
        clear HTI HPS hce' HS3
        go_wp2_with fail
        go_at_call 75
        refine HSk.out.mono ?_
        rintro e w5 ⟨rfl, hN⟩
        have HN : Hid (PaN W0 w wr R s i o res (w2.heap.size + 1) w5) := hN
        clear hN HSk hw3
        go_wp2
        obtain ⟨j5, hN1, hN2, hN3, hN4, hN5⟩ := HN.out
        go_roundw
        case rel => exact ⟨_, j5, rfl, hN1, hN2, hN3, hN5⟩
        case measure => exact hN4
      · subst hcc
        have HSk : Hid (Calls Tryz.prog 75 #[.pointer (some ⟨R, 0, none⟩)] ((w3.setCell ⟨w2.heap.size + 1, 2, none⟩ (.int .i64 1)).setCell ⟨w2.heap.size + 1, 3, none⟩ (.int .i64 (-1))) fun e w5 => e = .returned (.tuple #[]) ∧ PaN W0 w wr R s i o res (w2.heap.size + 1) w5) := part_simple HPS.out ((HTI.out.set2 (by omega) (by omega) 1).set3 (by omega) (by omega) (-1)) ((HS3.out.setQ ho (by omega) (by omega)).setQ ho (by omega) (by omega)) hce' (by omega) (by omega) fun f t => by rw [partS, if_neg (by omega), if_pos hce']
        clear HTI HPS hce' HS3
        go_wp2_with fail
        go_at_call 75
        refine HSk.out.mono ?_
        rintro e w5 ⟨rfl, hN⟩
        have HN : Hid (PaN W0 w wr R s i o res (w2.heap.size + 1) w5) := hN
        clear hN HSk hw3
        go_wp2
        obtain ⟨j5, hN1, hN2, hN3, hN4, hN5⟩ := HN.out
        go_roundw
        case rel => exact ⟨_, j5, rfl, hN1, hN2, hN3, hN5⟩
        case measure => exact hN4
      · subst hcc
        have HSk : Hid (Calls Tryz.prog 75 #[.pointer (some ⟨R, 0, none⟩)] (w3.setCell ⟨w2.heap.size + 1, 3, none⟩ (.int .i64 1)) fun e w5 => e = .returned (.tuple #[]) ∧ PaN W0 w wr R s i o res (w2.heap.size + 1) w5) := part_simple HPS.out (HTI.out.set3 (by omega) (by omega) 1) (HS3.out.setQ ho (by omega) (by omega)) hce' (by omega) (by omega) fun f t => by rw [partS, if_neg (by omega), if_neg (by omega), if_pos hce']
        clear HTI HPS hce' HS3
        go_wp2_with fail
        go_at_call 75
        refine HSk.out.mono ?_
        rintro e w5 ⟨rfl, hN⟩
        have HN : Hid (PaN W0 w wr R s i o res (w2.heap.size + 1) w5) := hN
        clear hN HSk hw3
        go_wp2
        obtain ⟨j5, hN1, hN2, hN3, hN4, hN5⟩ := HN.out
        go_roundw
        case rel => exact ⟨_, j5, rfl, hN1, hN2, hN3, hN5⟩
        case measure => exact hN4
      · subst hcc
        have HSk : Hid (Calls Tryz.prog 75 #[.pointer (some ⟨R, 0, none⟩)] w3 fun e w5 => e = .returned (.tuple #[]) ∧ Hid (Calls Tryz.prog 128 #[.pointer (some ⟨R, 0, none⟩), .pointer (some ⟨w2.heap.size + 1, 0, none⟩)] w5 fun e w6 => e = .returned (.tuple #[]) ∧ PaN W0 w wr R s i o res (w2.heap.size + 1) w6)) := part_brace L HPS.out hce'
        clear HTI HPS hce' HS3
        go_wp2_with fail
        go_at_call 75
        refine HSk.out.mono ?_
        rintro e w5 ⟨rfl, HTm⟩
        clear HSk hw3
        go_wp2_with fail
        go_at_call 128
        refine HTm.out.mono ?_
        rintro e w6 ⟨rfl, hN⟩
        have HN : Hid (PaN W0 w wr R s i o res (w2.heap.size + 1) w6) := hN
        clear hN HTm
        go_wp2
        obtain ⟨j5, hN1, hN2, hN3, hN4, hN5⟩ := HN.out
        go_roundw
        case rel => exact ⟨_, j5, rfl, hN1, hN2, hN3, hN5⟩
        case measure => exact hN4
    · have n1 : (c == 42) = false := by rw [beq_eq_false_iff_ne]; omega
      have n2 : (c == 43) = false := by rw [beq_eq_false_iff_ne]; omega
      have n3 : (c == 63) = false := by rw [beq_eq_false_iff_ne]; omega
      have n4 : (c == 123) = false := by rw [beq_eq_false_iff_ne]; omega
      have HFin : Hid (GotP W0 w R s i o res (.returned (.pointer p)) w3) := by
        have hg23 := Lib.grownBy_trans hg2 (hg3 (some R))
        refine ⟨p, j, rfl, Lib.grownBy_trans HG.out hg23, hT3.x, HP.out.stop (c := 0) hRB hg23 ?_, fun hS0 hB3 => ?_⟩
        · rcases hh2 with ⟨hB, _⟩ | ⟨q1, q2, q3⟩
          · exact .inl (hB.kept (hg3 none))
          · exact .inr ⟨q1, by omega, by omega, by omega, by omega⟩
        · have hB2 := hx2.back (hg3 none) hB3
          rcases HX.out with ⟨hSr, _⟩ | hBr
          · exact HP.out.bad hSr (hh2n hSr hB2)
          · exact HBr.out hS0 hBr
      clear hcc hh2 hh2n hx2 hg2 hg3 hT3 hK3 HX HG HP HTI HBr
      go_wp2
      go_ret
      exact HFin.out

end Go.Proofs.YtbjohedenfindaaGreatDoor

namespace Go.Proofs.YtbjohedenfindaaGreatDoor
open Go.RowKit
set_option linter.unusedVariables false
set_option maxRecDepth 100000

set_option maxHeartbeats 1000000 in
theorem rsev_one (kind : Int) (g cap b : Nat) (w : World) (hc : w.cell? ⟨g, 0, none⟩ = some (.pointer (some ⟨b, 0, none⟩))) :
    Calls Tryz.prog 46 #[.int .i64 kind, .slice (some ⟨g, 0, none⟩) 1 cap] w fun e w' => e = .returned (.pointer (some ⟨b, 0, none⟩)) ∧ w' = w := by
  go_enter Tryz.func46, Tryz.ntmps46
  go_wp2
  go_ret
  exact ⟨rfl, rfl⟩

set_option maxHeartbeats 1000000 in
theorem rsev_more (kind : Int) (a : Option Addr) (n cap : Nat) (w : World) (hn : n ≠ 1) :
    Calls Tryz.prog 46 #[.int .i64 kind, .slice a n cap] w fun e w' => e = .returned (.pointer (some ⟨w.heap.size, 0, none⟩)) ∧ w' = w.alloc (.cells #[.int .i64 kind, .slice none 0 0, .int .i64 0, .int .i64 0, .slice a n cap] 48) := by
  have hq : ((n : Int) == 1) = false := by rw [beq_eq_false_iff_ne]; omega
  go_enter Tryz.func46, Tryz.ntmps46
  go_wp2
  go_ret
  exact ⟨rfl, rfl⟩

theorem rsev_any {B : Nat} (kind : Int) (v : Value) (l : List Re) (w : World) (hBw : B ≤ w.heap.size) (hv : PtrsOwn w B v l) :
    Calls Tryz.prog 46 #[.int .i64 kind, v] w fun e w' => ∃ u, e = .returned u ∧ Tree (fun b => B ≤ b) w' u (gatherS kind l) ∧ ∀ row, w.grownBy w' row := by
  by_cases h1 : l.length = 1
  · obtain ⟨vs, hl, hown, hall⟩ := hv
    obtain ⟨t, ht, hT⟩ := hall 0 (by omega)
    obtain ⟨t', rfl⟩ := List.length_eq_one_iff.1 h1
    have e : t' = t := by simpa using ht
    subst e
    rcases hown.2 with ⟨rfl, h0⟩ | ⟨g, cap, cur, rfl, _⟩
    · simp at hl; omega
    · have hc := hown.cellAt 0 (by omega)
      have hc' : w.cell? ⟨g, 0, none⟩ = some (vs.getD 0 .nilFunc) := by
        have h0 : 0 < vs.length := by omega
        rw [show (⟨g, 0, none⟩ : Addr) = ⟨g, 0 * 1, none⟩ by simp]
        first | (rw [hc]; simp [h0]) | (simpa [h0] using hc)
      have hl1 : vs.length = 1 := by simpa using hl
      rw [hl1]
      obtain ⟨b, hb, _⟩ := hT.ptr
      rw [hb] at hc' hT
      refine (rsev_one kind g cap b w hc').mono ?_
      rintro e w' ⟨rfl, rfl⟩
      exact ⟨_, rfl, hT.imp fun b _ h => h.1, fun row => World.grownBy.refl _ _⟩
  · obtain ⟨a, c, rfl⟩ := ptrs_slice hv
    refine (rsev_more kind a l.length c w h1).mono ?_
    rintro e w' ⟨rfl, rfl⟩
    have hg : ∀ row, w.grownBy (w.alloc (.cells #[.int .i64 kind, .slice none 0 0, .int .i64 0, .int .i64 0, .slice a l.length c] 48)) row := fun row => World.grownBy_alloc w _ row
    refine ⟨_, rfl, ?_, hg⟩
    have e : gatherS kind l = ⟨kind, [], 0, 0, l.map some⟩ := by
      match l, h1 with
      | [], _ => rfl
      | [p], h => simp at h
      | p :: q :: r, _ => rfl
    rw [e]
    exact tree_node (heap_alloc_new w _) hBw (Or.inl ⟨rfl, none, 0, rfl⟩) (hv.grown (row := none) (by simp) (hg _))


end Go.Proofs.YtbjohedenfindaaGreatDoor

namespace Go.Proofs.YtbjohedenfindaaGreatDoor
open Go.RowKit
set_option linter.unusedVariables false
set_option maxRecDepth 100000

end Go.Proofs.YtbjohedenfindaaGreatDoor

namespace Go.Proofs.YtbjohedenfindaaGreatDoor
open Go.RowKit
set_option linter.unusedVariables false
set_option maxRecDepth 100000

/-- what the sets' functions say: mk is the set of the points of the ranges, or of all others -/
structure SetC (mk : List Rg → Bool → List Rg) : Prop where
  canon : ∀ va a w, a.length ≤ 120000 → Rngs w va a → Calls Tryz.prog 170 #[va] w fun e w' => ∃ v, e = .returned v ∧ OwnR w' w.heap.size v (mk a false) ∧ Below w.heap.size w w'
  other : ∀ va a w, a.length ≤ 120000 → Rngs w va a → Calls Tryz.prog 90 #[va] w fun e w' => ∃ v, e = .returned v ∧ OwnR w' w.heap.size v (mk a true) ∧ Below w.heap.size w w'
theorem OwnR.grown {w w' : World} {B R : Nat} {v : Value} {l : List Rg} (h : OwnR w B v l) (hR : R < B) (hg : w.grownBy w' (some R)) : OwnR w' B v l := by
  refine World.ownsRow.kept h hg ?_
  cases hb : v.ownBlock with
  | none => exact Or.inl rfl
  | some k => right; intro e; cases e; have := (World.ownsRow.lt h R hb).1; omega

theorem grownBy_own {w w1 w2 : World} {row r2 : Option Nat} (h : w.grownBy w1 row) (h2 : w1.grownBy w2 r2) (hr : ∀ k, r2 = some k → w.heap.size ≤ k) : w.grownBy w2 row :=
  ⟨h2.os.trans h.os, h2.tape.trans h.tape, h2.output.trans h.output, Nat.le_trans h.size h2.size, fun k hk hne => (h2.block k (Nat.lt_of_lt_of_le hk h.size) (fun e => by have := hr k e.symm; omega)).trans (h.block k hk hne)⟩
theorem own_slice {w : World} {B : Nat} {v : Value} {l : List Rg} (h : OwnR w B v l) : ∃ a c, v = .slice a l.length c := by
  rcases h.2 with ⟨rfl, h0⟩ | ⟨g, cap, cur, rfl, _⟩
  · exact ⟨none, 0, by rw [h0]⟩
  · exact ⟨_, _, rfl⟩

end Go.Proofs.YtbjohedenfindaaGreatDoor

namespace Go.Proofs.YtbjohedenfindaaGreatDoor
open Go.RowKit
set_option linter.unusedVariables false
set_option maxRecDepth 100000

theorem partS_eq (s : ByteArray) (f : Nat) (p : Re) (i : Nat) : partS s (f + 1) p i =
    if cpAt s i = 42 then partS s f (repRe 0 (-1) p) (i + 1)
    else if cpAt s i = 43 then partS s f (repRe 1 (-1) p) (i + 1)
    else if cpAt s i = 63 then partS s f (repRe 0 1 p) (i + 1)
    else if cpAt s i = 123 then
      match timesS s (i + 1) with
      | none => none
      | some ((a, b), j) => partS s f (repRe a b p) j
    else some (p, i) := rfl

end Go.Proofs.YtbjohedenfindaaGreatDoor

namespace Go.Proofs.YtbjohedenfindaaGreatDoor
open Go.RowKit
set_option linter.unusedVariables false
set_option maxRecDepth 100000

theorem Tryz.infoPRe : (Tryz.prog.info? 22).map (fun i => (i.zero, i.size, i.bytes)) = some (some (.pointer none), 1, 8) := by kernel_rfl

theorem rowS_eq (s : ByteArray) (u : Nat → Option (Re × Nat)) (f : Nat) (acc : List Re) (i : Nat) : rowS s u (f + 1) acc i =
    if rowEndS (cpAt s i) then some (acc, i)
    else match (u i).bind fun x => partS s (s.size + 1) x.1 x.2 with
      | none => none
      | some (p, j) => rowS s u f (acc ++ [p]) j := rfl
theorem sevS_eq (s : ByteArray) (c : Int) (r : Nat → Option (Re × Nat)) (f : Nat) (acc : List Re) (i : Nat) : sevS s c r (f + 1) acc i =
    if cpAt s i = c then
      match r (i + 1) with
      | none => none
      | some (p, j) => sevS s c r f (acc ++ [p]) j
    else some (acc, i) := rfl

end Go.Proofs.YtbjohedenfindaaGreatDoor
