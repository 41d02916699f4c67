/- Texts of the proof, put together: RBoA. -/
import Derived.Test.YtbjohedenfindaaGreatDoorPw19
namespace Go.Proofs.YtbjohedenfindaaGreatDoor
open Go.RowKit
set_option linter.unusedVariables false
set_option maxRecDepth 100000

/-- a function of the reader that reads one -/
def RdC (W0 : World) (R : Nat) (s : ByteArray) (o g : Nat) (r : Nat → Option (Re × Nat)) : Prop := ∀ (w : World) (i : Nat), XR W0 w R s i o → Calls Tryz.prog g #[.pointer (some ⟨R, 0, none⟩)] w fun e w' => GotT W0 w R s i o (r i) e w'

set_option maxHeartbeats 4000000 in
theorem rboth_any {W0 : World} (L : LibR W0) {R o : Nat} {s : ByteArray} {r : Nat → Option (Re × Nat)} (U : RdC W0 R s o 73 r) (hG : Stays s r) (hE : ∀ i t j, r i = some (t, j) → cpAt s j ≠ -2) {w : World} {i : Nat} (h : XR W0 w R s i o) :
    Calls Tryz.prog 44 #[.pointer (some ⟨R, 0, none⟩)] w fun e w' => GotT W0 w R s i o (severalS s 4 38 r i) e w' := by
  obtain ⟨i0, hi0, hz0, hz1, hz2⟩ := info_parts Tryz.infoPRe
  have hRB := h.lt
  have htx := h.text
  have HU : Hid (∀ (w : World) (i : Nat), XR W0 w R s i o → Calls Tryz.prog 73 #[.pointer (some ⟨R, 0, none⟩)] w fun e w' => GotT W0 w R s i o (r i) e w') := U
  have HGo : Hid (Stays s r) := hG
  have HC1 : Hid (Calls Tryz.prog 73 #[.pointer (some ⟨R, 0, none⟩)] w fun e w' => GotT W0 w R s i o (r i) e w') := U w i h
  have HRes : Hid (severalS s 4 38 r i = (((r i).bind fun x => sevS s 38 r (s.size + 1) [x.1] x.2)).map fun x => (gatherS 4 x.1, x.2)) := by
    show _ = _
    unfold severalS
    cases hri : r i with
    | none => rfl
    | some x => rfl
  have HZ0 : Hid (∀ t j, r i = some (t, j) → SevZ s 38 r ((r i).bind fun x => sevS s 38 r (s.size + 1) [x.1] x.2) [t] j) := fun t j hr => ⟨⟨s.size + 1, by rw [hr]; rfl, by omega⟩, hE i t j hr⟩
  have HX0 : Hid (XR W0 w R s i o) := h
  have HEE : Hid (∀ i t j, r i = some (t, j) → cpAt s j ≠ -2) := hE
  have HB0 : Hid (r i = none → ((r i).bind fun x => sevS s 38 r (s.size + 1) [x.1] x.2) = none) := fun h => by rw [h]; rfl
  clear U hG h hE
  generalize ((r i).bind fun x => sevS s 38 r (s.size + 1) [x.1] x.2) = res at *
  go_enter Tryz.func44, Tryz.ntmps44
  go_wp2_with fail
  refine HC1.out.mono ?_
  rintro e w1 ⟨p, j, rfl, hg1, hx1, hh1, hh1n⟩
  obtain ⟨hL1, hX1, hG1⟩ := LI.first (Z := SevZ s 38 r res) hRB hg1 hx1 hh1 (fun t hr => HZ0.out t j hr)
  have hN1 : BR W0 (w1.alloc (.cells #[.pointer p] 22)) R s ∨ (1 : Nat) ≤ j + 1 := .inr (by omega)
  have HL1 : Hid (LI W0 w (w1.alloc (.cells #[.pointer p] 22)) R s i o (SevZ s 38 r res) (.slice (some ⟨w1.heap.size, 0, none⟩) 1 1) [.pointer p] j) := hL1
  have HX1 : Hid (XR W0 (w1.alloc (.cells #[.pointer p] 22)) R s j o) := hX1
  have HG1 : Hid (w.grownBy (w1.alloc (.cells #[.pointer p] 22)) (some R)) := hG1
  have HB1 : Hid (SR W0 w R s i o → BR W0 (w1.alloc (.cells #[.pointer p] 22)) R s → res = none) := fun hS hB => HB0.out (hh1n hS (hx1.back (World.grownBy_alloc w1 _ none) hB))
  clear hg1 hx1 hh1 hh1n hL1 hX1 hG1 HC1 HZ0 hN1 HB0
  go_wp2
  go_loopw [4] (fun x wr => ∃ (v : Value) (vs : List Value) (j : Nat), x = v ∧ Hid (XR W0 wr R s j o) ∧ Hid (w.grownBy wr (some R)) ∧ Hid (LI W0 w wr R s i o (SevZ s 38 r res) v vs j) ∧ vs.length ≤ s.size + 2 ∧ Hid (BR W0 wr R s ∨ vs.length ≤ j + 1) ∧ Hid (SR W0 w R s i o → BR W0 wr R s → res = none)) (fun _ wr => mea s R wr)
  case atStart => exact ⟨_, [.pointer p], j, rfl, HX1, HG1, HL1, by simp, .inr (by simp), HB1⟩
  case round =>
    clear HL1 HX1 HG1 HB1
    obtain ⟨v, vs, j, rfl, HX, HG, HL, hvl, HN, HBr⟩ := hrel
    obtain ⟨va, vc, rfl⟩ := HL.out.slice
    go_wp2_with fail
    go_at_call 45
    refine (eat_x L HX.out 38 (by omega) (by omega)).mono ?_
    rintro e w2 ⟨b, rfl, hg2, ⟨rfl, k1, k2, k3, k4⟩ | ⟨rfl, hx2, hh2, hh2n⟩⟩
    · have hjs := k1.inn
      have hjs2 := k3.inn
      have hgr2 := Lib.grownBy_trans HG.out hg2
      have hsz2 := hgr2.size
      have hL2 : LI W0 w w2 R s i o (SevY s 38 r res) (.slice va vs.length vc) vs (j + 1) := (HL.out.keep hRB hg2 (.inr k1)).turn fun l hZ => hZ.sign hjs k2
      have hvj : vs.length ≤ j + 1 := HN.out.elim (fun hB => (k1.not_br hB).elim) id
      have HL2 : Hid (LI W0 w w2 R s i o (SevY s 38 r res) (.slice va vs.length vc) vs (j + 1)) := hL2
      have HX2 : Hid (XR W0 w2 R s (j + 1) o) := .inl ⟨k3, k4⟩
      have HK1 : Hid (SR W0 wr R s j o) := k1
      have HK3 : Hid (SR W0 w2 R s (j + 1) o) := k3
      have HG2 : Hid (w.grownBy w2 (some R)) := hgr2
      clear hg2 hL2 HX HG HL HN k1 k2 k3 k4 hgr2 HBr
      go_wp2_with fail
      go_at_call 73
      refine (HU.out w2 (j + 1) HX2.out).mono ?_
      rintro e w3 ⟨p, j3, rfl, hg3, hx3, hh3, hh3n⟩
      have HS : Hid (∀ v' w5 ob, w5.ownsRow w.heap.size 22 1 v' (vs.length + 1) (vs ++ [.pointer p]) → (w3.alloc ob).grownBy w5 (Value.slice va vs.length vc).ownBlock → (v'.ownBlock = (Value.slice va vs.length vc).ownBlock ∨ v'.ownBlock = some (w3.alloc ob).heap.size) → XR W0 w5 R s j3 o ∧ w.grownBy w5 (some R) ∧ LI W0 w w5 R s i o (SevZ s 38 r res) v' (vs ++ [.pointer p]) j3 ∧ mea s R w5 < mea s R wr ∧ (BR W0 w5 R s ∨ vs.length + 1 ≤ j3 + 1) ∧ (SR W0 w R s i o → BR W0 w5 R s → res = none)) := by
        intro v' w5 ob hown hg5 hat
        have hlt : BR W0 w3 R s ∨ j + 1 ≤ j3 := by
          rcases hh3 with hB | ⟨q1, t, q2, q3⟩
          · exact .inl hB
          · exact .inr (HGo.out (j + 1) t j3 hjs2 q2).1
        obtain ⟨a1, a2, a3, a4, a5⟩ := HL2.out.snoc (Z' := SevZ s 38 r res) hRB hsz2 hg3 hx3 hh3 hown hg5 hat (fun l t hr hZ => hZ.next hr (HGo.out (j + 1) t j3 hjs2 hr).1 (HEE.out _ _ _ hr))
        have hg35 := Lib.grownBy_trans HG2.out hg3
        refine ⟨a2, grownBy_own (Lib.grownBy_allocR hg35 ob) hg5 (fun q hq => (HL2.out.own.lt q hq).1), a1, mea_x HK1.out a2 (hlt.imp a4 (fun h => by omega)), hlt.imp a4 (fun h => by omega), fun hS0 hB5 => ?_⟩
        rcases HL2.out.hist with hB | ⟨_, l, _, _, f, _, _, hZ⟩
        · exact (sr_not_br HK3.out hB).elim
        · exact hZ (hh3n HK3.out (a5 hB5))
      have hown3 : w3.ownsRow w.heap.size 22 1 (.slice va vs.length vc) vs.length vs := HL2.out.own.kept hg3 (by
        cases hb : (Value.slice va vs.length vc).ownBlock with
        | none => exact .inl rfl
        | some k => right; intro e; cases e; have := (HL2.out.own.lt R hb).1; omega)
      have hsz3 : w.heap.size ≤ w3.heap.size := Nat.le_trans hsz2 hg3.size
      clear hh3 hh3n hx3 hg3 HL2 HX2 HK1 HK3 HG2
      go_wp2_with (at_builtin; refine wpList_append_own_at _ rfl _ _ 46 rfl w.heap.size 22 i0 (.pointer none) 1 8 Tryz.underlying46 hi0 hz0 hz1 hz2 rfl (by decide) _ _ _ rfl (World.ownsRow.alloc hown3 _) ⟨w3.heap.size, 0, none⟩ 1 1 [.pointer p] rfl rfl ?c1 ?c2 ?c3 ?c4 ?c5 ?_)
      case c1 => exact cell_one_new w3 _ _
      case c2 => intro u hu; simp at hu; subst hu; rfl
      case c3 => unfold maxLen; omega
      case c4 => omega
      case c5 => simp; omega
      · intro v' w5 hown' hgrow _ hat
        obtain ⟨b1, b2, b3, b4, b5, b6⟩ := HS.out v' w5 _ hown' hgrow (by simpa using hat)
        have B1 : Hid (XR W0 w5 R s j3 o) := b1
        have B2 : Hid (w.grownBy w5 (some R)) := b2
        have B3 : Hid (LI W0 w w5 R s i o (SevZ s 38 r res) v' (vs ++ [.pointer p]) j3) := b3
        have B4 : Hid (mea s R w5 < mea s R wr) := b4
        have B5 : Hid (BR W0 w5 R s ∨ vs.length + 1 ≤ j3 + 1) := b5
        have B6 : Hid (SR W0 w R s i o → BR W0 w5 R s → res = none) := b6
        clear b1 b2 b3 b4 b5 b6 hown' hgrow hat HS hown3
        go_wp2
        go_roundw
        case rel => exact ⟨v', vs ++ [.pointer p], j3, rfl, B1, B2, B3, by simp; omega, by show _ ∨ _; simpa using B5.out, B6⟩
        case measure => exact B4.out
    · have hL2 : LI W0 w w2 R s i o (SevZ s 38 r res) (.slice va vs.length vc) vs j := HL.out.keep hRB hg2 (hh2.imp id fun h => h.1)
      have hgr2 := Lib.grownBy_trans HG.out hg2
      have hsz2 := hgr2.size
      have HSev : Hid (Calls Tryz.prog 46 #[.int .i64 4, .slice va vs.length vc] w2 fun e w' => GotT W0 w R s i o (severalS s 4 38 r i) e w') := by
        refine (hL2.several 4 hsz2).mono ?_
        rintro e w3 ⟨p, rfl, hg3, hh3⟩
        refine ⟨p, j, rfl, Lib.grownBy_trans hgr2 (hg3 _), hx2.kept (hg3 none), ?_, fun hS0 hB3 => ?_⟩
        · rcases hh3 with hB | ⟨q1, l, q2, q3⟩
          · exact .inl hB
          · rcases hh2 with hB | ⟨k1, k2⟩
            · exact .inl (hB.kept (hg3 none))
            · refine .inr ⟨q1, _, ?_, q3⟩
              rw [HRes.out, q2.stop k1.inn k2]
              rfl
        · have hB2 := hx2.back (hg3 none) hB3
          have hrn : res = none := by
            rcases HX.out with ⟨hSr, _⟩ | hBr
            · have h2 := hh2n hSr hB2
              rcases HL.out.hist with hB | ⟨_, l, _, _, hZ⟩
              · exact (sr_not_br hSr hB).elim
              · exact absurd h2 hZ.2
            · exact HBr.out hS0 hBr
          rw [HRes.out, hrn]
          rfl
      clear hh2 hh2n hx2 hg2 hL2 HX HG HL HN HBr
      go_wp2_with fail
      go_at_call 46
      refine HSev.out.mono ?_
      intro e w3 hGt
      obtain ⟨p, j3, rfl, q1, q2, q3, q4⟩ := hGt
      have HQ : Hid (GotT W0 w R s i o (severalS s 4 38 r i) (.returned (.pointer p)) w3) := ⟨p, j3, rfl, q1, q2, q3, q4⟩
      clear q1 q2 q3 q4
      go_wp2
      go_ret
      exact HQ.out

set_option maxHeartbeats 4000000 in
theorem rany_any {W0 : World} (L : LibR W0) {R o : Nat} {s : ByteArray} {r : Nat → Option (Re × Nat)} (U : RdC W0 R s o 44 r) (hG : Stays s r) (hE : ∀ i t j, r i = some (t, j) → cpAt s j ≠ -2) {w : World} {i : Nat} (h : XR W0 w R s i o) :
    Calls Tryz.prog 21 #[.pointer (some ⟨R, 0, none⟩)] w fun e w' => GotT W0 w R s i o (severalS s 3 124 r i) e w' := by
  obtain ⟨i0, hi0, hz0, hz1, hz2⟩ := info_parts Tryz.infoPRe
  have hRB := h.lt
  have htx := h.text
  have HU : Hid (∀ (w : World) (i : Nat), XR W0 w R s i o → Calls Tryz.prog 44 #[.pointer (some ⟨R, 0, none⟩)] w fun e w' => GotT W0 w R s i o (r i) e w') := U
  have HGo : Hid (Stays s r) := hG
  have HC1 : Hid (Calls Tryz.prog 44 #[.pointer (some ⟨R, 0, none⟩)] w fun e w' => GotT W0 w R s i o (r i) e w') := U w i h
  have HRes : Hid (severalS s 3 124 r i = (((r i).bind fun x => sevS s 124 r (s.size + 1) [x.1] x.2)).map fun x => (gatherS 3 x.1, x.2)) := by
    show _ = _
    unfold severalS
    cases hri : r i with
    | none => rfl
    | some x => rfl
  have HZ0 : Hid (∀ t j, r i = some (t, j) → SevZ s 124 r ((r i).bind fun x => sevS s 124 r (s.size + 1) [x.1] x.2) [t] j) := fun t j hr => ⟨⟨s.size + 1, by rw [hr]; rfl, by omega⟩, hE i t j hr⟩
  have HX0 : Hid (XR W0 w R s i o) := h
  have HEE : Hid (∀ i t j, r i = some (t, j) → cpAt s j ≠ -2) := hE
  have HB0 : Hid (r i = none → ((r i).bind fun x => sevS s 124 r (s.size + 1) [x.1] x.2) = none) := fun h => by rw [h]; rfl
  clear U hG h hE
  generalize ((r i).bind fun x => sevS s 124 r (s.size + 1) [x.1] x.2) = res at *
  go_enter Tryz.func21, Tryz.ntmps21
  go_wp2_with fail
  refine HC1.out.mono ?_
  rintro e w1 ⟨p, j, rfl, hg1, hx1, hh1, hh1n⟩
  obtain ⟨hL1, hX1, hG1⟩ := LI.first (Z := SevZ s 124 r res) hRB hg1 hx1 hh1 (fun t hr => HZ0.out t j hr)
  have hN1 : BR W0 (w1.alloc (.cells #[.pointer p] 22)) R s ∨ (1 : Nat) ≤ j + 1 := .inr (by omega)
  have HL1 : Hid (LI W0 w (w1.alloc (.cells #[.pointer p] 22)) R s i o (SevZ s 124 r res) (.slice (some ⟨w1.heap.size, 0, none⟩) 1 1) [.pointer p] j) := hL1
  have HX1 : Hid (XR W0 (w1.alloc (.cells #[.pointer p] 22)) R s j o) := hX1
  have HG1 : Hid (w.grownBy (w1.alloc (.cells #[.pointer p] 22)) (some R)) := hG1
  have HB1 : Hid (SR W0 w R s i o → BR W0 (w1.alloc (.cells #[.pointer p] 22)) R s → res = none) := fun hS hB => HB0.out (hh1n hS (hx1.back (World.grownBy_alloc w1 _ none) hB))
  clear hg1 hx1 hh1 hh1n hL1 hX1 hG1 HC1 HZ0 hN1 HB0
  go_wp2
  go_loopw [4] (fun x wr => ∃ (v : Value) (vs : List Value) (j : Nat), x = v ∧ Hid (XR W0 wr R s j o) ∧ Hid (w.grownBy wr (some R)) ∧ Hid (LI W0 w wr R s i o (SevZ s 124 r res) v vs j) ∧ vs.length ≤ s.size + 2 ∧ Hid (BR W0 wr R s ∨ vs.length ≤ j + 1) ∧ Hid (SR W0 w R s i o → BR W0 wr R s → res = none)) (fun _ wr => mea s R wr)
  case atStart => exact ⟨_, [.pointer p], j, rfl, HX1, HG1, HL1, by simp, .inr (by simp), HB1⟩
  case round =>
    clear HL1 HX1 HG1 HB1
    obtain ⟨v, vs, j, rfl, HX, HG, HL, hvl, HN, HBr⟩ := hrel
    obtain ⟨va, vc, rfl⟩ := HL.out.slice
    go_wp2_with fail
    go_at_call 45
    refine (eat_x L HX.out 124 (by omega) (by omega)).mono ?_
    rintro e w2 ⟨b, rfl, hg2, ⟨rfl, k1, k2, k3, k4⟩ | ⟨rfl, hx2, hh2, hh2n⟩⟩
    · have hjs := k1.inn
      have hjs2 := k3.inn
      have hgr2 := Lib.grownBy_trans HG.out hg2
      have hsz2 := hgr2.size
      have hL2 : LI W0 w w2 R s i o (SevY s 124 r res) (.slice va vs.length vc) vs (j + 1) := (HL.out.keep hRB hg2 (.inr k1)).turn fun l hZ => hZ.sign hjs k2
      have hvj : vs.length ≤ j + 1 := HN.out.elim (fun hB => (k1.not_br hB).elim) id
      have HL2 : Hid (LI W0 w w2 R s i o (SevY s 124 r res) (.slice va vs.length vc) vs (j + 1)) := hL2
      have HX2 : Hid (XR W0 w2 R s (j + 1) o) := .inl ⟨k3, k4⟩
      have HK1 : Hid (SR W0 wr R s j o) := k1
      have HK3 : Hid (SR W0 w2 R s (j + 1) o) := k3
      have HG2 : Hid (w.grownBy w2 (some R)) := hgr2
      clear hg2 hL2 HX HG HL HN k1 k2 k3 k4 hgr2 HBr
      go_wp2_with fail
      go_at_call 44
      refine (HU.out w2 (j + 1) HX2.out).mono ?_
      rintro e w3 ⟨p, j3, rfl, hg3, hx3, hh3, hh3n⟩
      have HS : Hid (∀ v' w5 ob, w5.ownsRow w.heap.size 22 1 v' (vs.length + 1) (vs ++ [.pointer p]) → (w3.alloc ob).grownBy w5 (Value.slice va vs.length vc).ownBlock → (v'.ownBlock = (Value.slice va vs.length vc).ownBlock ∨ v'.ownBlock = some (w3.alloc ob).heap.size) → XR W0 w5 R s j3 o ∧ w.grownBy w5 (some R) ∧ LI W0 w w5 R s i o (SevZ s 124 r res) v' (vs ++ [.pointer p]) j3 ∧ mea s R w5 < mea s R wr ∧ (BR W0 w5 R s ∨ vs.length + 1 ≤ j3 + 1) ∧ (SR W0 w R s i o → BR W0 w5 R s → res = none)) := by
        intro v' w5 ob hown hg5 hat
        have hlt : BR W0 w3 R s ∨ j + 1 ≤ j3 := by
          rcases hh3 with hB | ⟨q1, t, q2, q3⟩
          · exact .inl hB
          · exact .inr (HGo.out (j + 1) t j3 hjs2 q2).1
        obtain ⟨a1, a2, a3, a4, a5⟩ := HL2.out.snoc (Z' := SevZ s 124 r res) hRB hsz2 hg3 hx3 hh3 hown hg5 hat (fun l t hr hZ => hZ.next hr (HGo.out (j + 1) t j3 hjs2 hr).1 (HEE.out _ _ _ hr))
        have hg35 := Lib.grownBy_trans HG2.out hg3
        refine ⟨a2, grownBy_own (Lib.grownBy_allocR hg35 ob) hg5 (fun q hq => (HL2.out.own.lt q hq).1), a1, mea_x HK1.out a2 (hlt.imp a4 (fun h => by omega)), hlt.imp a4 (fun h => by omega), fun hS0 hB5 => ?_⟩
        rcases HL2.out.hist with hB | ⟨_, l, _, _, f, _, _, hZ⟩
        · exact (sr_not_br HK3.out hB).elim
        · exact hZ (hh3n HK3.out (a5 hB5))
      have hown3 : w3.ownsRow w.heap.size 22 1 (.slice va vs.length vc) vs.length vs := HL2.out.own.kept hg3 (by
        cases hb : (Value.slice va vs.length vc).ownBlock with
        | none => exact .inl rfl
        | some k => right; intro e; cases e; have := (HL2.out.own.lt R hb).1; omega)
      have hsz3 : w.heap.size ≤ w3.heap.size := Nat.le_trans hsz2 hg3.size
      clear hh3 hh3n hx3 hg3 HL2 HX2 HK1 HK3 HG2
      go_wp2_with (at_builtin; refine wpList_append_own_at _ rfl _ _ 46 rfl w.heap.size 22 i0 (.pointer none) 1 8 Tryz.underlying46 hi0 hz0 hz1 hz2 rfl (by decide) _ _ _ rfl (World.ownsRow.alloc hown3 _) ⟨w3.heap.size, 0, none⟩ 1 1 [.pointer p] rfl rfl ?c1 ?c2 ?c3 ?c4 ?c5 ?_)
      case c1 => exact cell_one_new w3 _ _
      case c2 => intro u hu; simp at hu; subst hu; rfl
      case c3 => unfold maxLen; omega
      case c4 => omega
      case c5 => simp; omega
      · intro v' w5 hown' hgrow _ hat
        obtain ⟨b1, b2, b3, b4, b5, b6⟩ := HS.out v' w5 _ hown' hgrow (by simpa using hat)
        have B1 : Hid (XR W0 w5 R s j3 o) := b1
        have B2 : Hid (w.grownBy w5 (some R)) := b2
        have B3 : Hid (LI W0 w w5 R s i o (SevZ s 124 r res) v' (vs ++ [.pointer p]) j3) := b3
        have B4 : Hid (mea s R w5 < mea s R wr) := b4
        have B5 : Hid (BR W0 w5 R s ∨ vs.length + 1 ≤ j3 + 1) := b5
        have B6 : Hid (SR W0 w R s i o → BR W0 w5 R s → res = none) := b6
        clear b1 b2 b3 b4 b5 b6 hown' hgrow hat HS hown3
        go_wp2
        go_roundw
        case rel => exact ⟨v', vs ++ [.pointer p], j3, rfl, B1, B2, B3, by simp; omega, by show _ ∨ _; simpa using B5.out, B6⟩
        case measure => exact B4.out
    · have hL2 : LI W0 w w2 R s i o (SevZ s 124 r res) (.slice va vs.length vc) vs j := HL.out.keep hRB hg2 (hh2.imp id fun h => h.1)
      have hgr2 := Lib.grownBy_trans HG.out hg2
      have hsz2 := hgr2.size
      have HSev : Hid (Calls Tryz.prog 46 #[.int .i64 3, .slice va vs.length vc] w2 fun e w' => GotT W0 w R s i o (severalS s 3 124 r i) e w') := by
        refine (hL2.several 3 hsz2).mono ?_
        rintro e w3 ⟨p, rfl, hg3, hh3⟩
        refine ⟨p, j, rfl, Lib.grownBy_trans hgr2 (hg3 _), hx2.kept (hg3 none), ?_, fun hS0 hB3 => ?_⟩
        · rcases hh3 with hB | ⟨q1, l, q2, q3⟩
          · exact .inl hB
          · rcases hh2 with hB | ⟨k1, k2⟩
            · exact .inl (hB.kept (hg3 none))
            · refine .inr ⟨q1, _, ?_, q3⟩
              rw [HRes.out, q2.stop k1.inn k2]
              rfl
        · have hB2 := hx2.back (hg3 none) hB3
          have hrn : res = none := by
            rcases HX.out with ⟨hSr, _⟩ | hBr
            · have h2 := hh2n hSr hB2
              rcases HL.out.hist with hB | ⟨_, l, _, _, hZ⟩
              · exact (sr_not_br hSr hB).elim
              · exact absurd h2 hZ.2
            · exact HBr.out hS0 hBr
          rw [HRes.out, hrn]
          rfl
      clear hh2 hh2n hx2 hg2 hL2 HX HG HL HN HBr
      go_wp2_with fail
      go_at_call 46
      refine HSev.out.mono ?_
      intro e w3 hGt
      obtain ⟨p, j3, rfl, q1, q2, q3, q4⟩ := hGt
      have HQ : Hid (GotT W0 w R s i o (severalS s 3 124 r i) (.returned (.pointer p)) w3) := ⟨p, j3, rfl, q1, q2, q3, q4⟩
      clear q1 q2 q3 q4
      go_wp2
      go_ret
      exact HQ.out

theorem rowReS_end {s : ByteArray} {u : Nat → Option (Re × Nat)} : ∀ i t j, rowReS s u i = some (t, j) → cpAt s j ≠ -2 := fun i t j h => by
  unfold rowReS at h
  cases hr : rowS s u (s.size + 1) [] i with
  | none => rw [hr] at h; cases h
  | some x =>
    obtain ⟨l, k⟩ := x
    have he := rowS_end _ hr
    rw [hr] at h
    simp only [Option.map_some, Option.some.injEq, Prod.mk.injEq] at h
    rw [← h.2]
    intro h2
    rw [h2] at he
    cases he
theorem severalS_end {s : ByteArray} {k c : Int} {r : Nat → Option (Re × Nat)} (hE : ∀ i t j, r i = some (t, j) → cpAt s j ≠ -2) : ∀ i t j, severalS s k c r i = some (t, j) → cpAt s j ≠ -2 := fun i t j h => by
  unfold severalS at h
  cases hr : r i with
  | none => rw [hr] at h; cases h
  | some x =>
    obtain ⟨p, m⟩ := x
    rw [hr] at h
    simp only at h
    cases hq : sevS s c r (s.size + 1) [p] m with
    | none => rw [hq] at h; cases h
    | some y =>
      obtain ⟨l, n⟩ := y
      rw [hq] at h
      simp only [Option.map_some, Option.some.injEq, Prod.mk.injEq] at h
      rw [← h.2]
      exact sevS_end hE _ (hE _ _ _ hr) hq
/-- any, out of unit -/
theorem rpat_any {W0 : World} (L : LibR W0) {R o : Nat} {s : ByteArray} {u : Nat → Option (Re × Nat)} (U : RUnitC W0 R s o u) (hu : Goes s u) (hG : Goes s fun i => (u i).bind fun x => partS s (s.size + 1) x.1 x.2) (hUB : ∀ k, cpAt s k = -2 → u k = none) : RdC W0 R s o 21 (patS s u) :=
  fun w i h => rany_any L (fun w i h => rboth_any L (fun w i h => rrow_any L U hG hUB h) (rowReS_stays hu) rowReS_end h) (bothS_stays hu) (severalS_end rowReS_end) h

end Go.Proofs.YtbjohedenfindaaGreatDoor
