/- Texts of the proof, put together: RBoA, RUni, RUniB. -/
import Derived.Test.YtbjohedenfindaaGreatDoorMg20
namespace Go.Proofs.YtbjohedenfindaaGreatDoor
open Go.RowKit
set_option linter.unusedVariables false
set_option maxRecDepth 100000

/-- a function of the reader that reads one -/
def RdC (W0 : World) (R : Nat) (s : ByteArray) (o g : Nat) (r : Nat → Option (Re × Nat)) : Prop := ∀ (w : World) (i : Nat), XR W0 w R s i o → Calls Tryz.prog g #[.pointer (some ⟨R, 0, none⟩)] w fun e w' => GotT W0 w R s i o (r i) e w'

set_option maxHeartbeats 4000000 in
theorem rboth_any {W0 : World} (L : LibC W0) {R o : Nat} {s : ByteArray} {r : Nat → Option (Re × Nat)} (U : RdC W0 R s o 73 r) (hG : Stays s r) {w : World} {i : Nat} (h : XR W0 w R s i o) :
    Calls Tryz.prog 44 #[.pointer (some ⟨R, 0, none⟩)] w fun e w' => GotT W0 w R s i o (severalS s 4 38 r i) e w' := by
  obtain ⟨i0, hi0, hz0, hz1, hz2⟩ := info_parts Tryz.infoPRe
  have hRB := h.lt
  have htx := h.text
  have HU : Hid (∀ (w : World) (i : Nat), XR W0 w R s i o → Calls Tryz.prog 73 #[.pointer (some ⟨R, 0, none⟩)] w fun e w' => GotT W0 w R s i o (r i) e w') := U
  have HGo : Hid (Stays s r) := hG
  have HC1 : Hid (Calls Tryz.prog 73 #[.pointer (some ⟨R, 0, none⟩)] w fun e w' => GotT W0 w R s i o (r i) e w') := U w i h
  have HRes : Hid (severalS s 4 38 r i = (((r i).bind fun x => sevS s 38 r (s.size + 1) [x.1] x.2)).map fun x => (gatherS 4 x.1, x.2)) := by
    show _ = _
    unfold severalS
    cases hri : r i with
    | none => rfl
    | some x => rfl
  have HZ0 : Hid (∀ t j, r i = some (t, j) → SevZ s 38 r ((r i).bind fun x => sevS s 38 r (s.size + 1) [x.1] x.2) [t] j) := fun t j hr => ⟨s.size + 1, by rw [hr]; rfl, by omega⟩
  have HX0 : Hid (XR W0 w R s i o) := h
  clear U hG h
  generalize ((r i).bind fun x => sevS s 38 r (s.size + 1) [x.1] x.2) = res at *
  go_enter Tryz.func44, Tryz.ntmps44
  go_wp2_with fail
  refine HC1.out.mono ?_
  rintro e w1 ⟨p, j, rfl, hg1, hx1, hh1⟩
  obtain ⟨hL1, hX1, hG1⟩ := LI.first (Z := SevZ s 38 r res) hRB hg1 hx1 hh1 (fun t hr => HZ0.out t j hr)
  have hN1 : BR W0 (w1.alloc (.cells #[.pointer p] 22)) R s ∨ (1 : Nat) ≤ j + 1 := .inr (by omega)
  have HL1 : Hid (LI W0 w (w1.alloc (.cells #[.pointer p] 22)) R s i o (SevZ s 38 r res) (.slice (some ⟨w1.heap.size, 0, none⟩) 1 1) [.pointer p] j) := hL1
  have HX1 : Hid (XR W0 (w1.alloc (.cells #[.pointer p] 22)) R s j o) := hX1
  have HG1 : Hid (w.grownBy (w1.alloc (.cells #[.pointer p] 22)) (some R)) := hG1
  clear hg1 hx1 hh1 hL1 hX1 hG1 HC1 HZ0 hN1
  go_wp2
  go_loopw [4] (fun x wr => ∃ (v : Value) (vs : List Value) (j : Nat), x = v ∧ Hid (XR W0 wr R s j o) ∧ Hid (w.grownBy wr (some R)) ∧ Hid (LI W0 w wr R s i o (SevZ s 38 r res) v vs j) ∧ vs.length ≤ s.size + 2 ∧ Hid (BR W0 wr R s ∨ vs.length ≤ j + 1)) (fun _ wr => mea s R wr)
  case atStart => exact ⟨_, [.pointer p], j, rfl, HX1, HG1, HL1, by simp, .inr (by simp)⟩
  case round =>
    clear HL1 HX1 HG1
    obtain ⟨v, vs, j, rfl, HX, HG, HL, hvl, HN⟩ := hrel
    obtain ⟨va, vc, rfl⟩ := HL.out.slice
    go_wp2_with fail
    go_at_call 45
    refine (eat_x L HX.out 38 (by omega) (by omega)).mono ?_
    rintro e w2 ⟨b, rfl, hg2, ⟨rfl, k1, k2, k3, k4⟩ | ⟨rfl, hx2, hh2⟩⟩
    · have hjs := k1.inn
      have hjs2 := k3.inn
      have hgr2 := Lib.grownBy_trans HG.out hg2
      have hsz2 := hgr2.size
      have hL2 : LI W0 w w2 R s i o (SevY s 38 r res) (.slice va vs.length vc) vs (j + 1) := (HL.out.keep hRB hg2 (.inr k1)).turn fun l hZ => hZ.sign hjs k2
      have hvj : vs.length ≤ j + 1 := HN.out.elim (fun hB => (k1.not_br hB).elim) id
      have HL2 : Hid (LI W0 w w2 R s i o (SevY s 38 r res) (.slice va vs.length vc) vs (j + 1)) := hL2
      have HX2 : Hid (XR W0 w2 R s (j + 1) o) := .inl ⟨k3, k4⟩
      have HK1 : Hid (SR W0 wr R s j o) := k1
      have HG2 : Hid (w.grownBy w2 (some R)) := hgr2
      clear hg2 hL2 HX HG HL HN k1 k2 k3 k4 hgr2
      go_wp2_with fail
      go_at_call 73
      refine (HU.out w2 (j + 1) HX2.out).mono ?_
      rintro e w3 ⟨p, j3, rfl, hg3, hx3, hh3⟩
      have HS : Hid (∀ v' w5 ob, w5.ownsRow w.heap.size 22 1 v' (vs.length + 1) (vs ++ [.pointer p]) → (w3.alloc ob).grownBy w5 (Value.slice va vs.length vc).ownBlock → (v'.ownBlock = (Value.slice va vs.length vc).ownBlock ∨ v'.ownBlock = some (w3.alloc ob).heap.size) → XR W0 w5 R s j3 o ∧ w.grownBy w5 (some R) ∧ LI W0 w w5 R s i o (SevZ s 38 r res) v' (vs ++ [.pointer p]) j3 ∧ mea s R w5 < mea s R wr ∧ (BR W0 w5 R s ∨ vs.length + 1 ≤ j3 + 1)) := by
        intro v' w5 ob hown hg5 hat
        have hlt : BR W0 w3 R s ∨ j + 1 ≤ j3 := by
          rcases hh3 with hB | ⟨q1, t, q2, q3⟩
          · exact .inl hB
          · exact .inr (HGo.out (j + 1) t j3 hjs2 q2).1
        obtain ⟨a1, a2, a3, a4⟩ := HL2.out.snoc (Z' := SevZ s 38 r res) hRB hsz2 hg3 hx3 hh3 hown hg5 hat (fun l t hr hZ => hZ.next hr (HGo.out (j + 1) t j3 hjs2 hr).1)
        have hg35 := Lib.grownBy_trans HG2.out hg3
        refine ⟨a2, grownBy_own (Lib.grownBy_allocR hg35 ob) hg5 (fun q hq => (HL2.out.own.lt q hq).1), a1, mea_x HK1.out a2 (hlt.imp a4 (fun h => by omega)), hlt.imp a4 (fun h => by omega)⟩
      have hown3 : w3.ownsRow w.heap.size 22 1 (.slice va vs.length vc) vs.length vs := HL2.out.own.kept hg3 (by
        cases hb : (Value.slice va vs.length vc).ownBlock with
        | none => exact .inl rfl
        | some k => right; intro e; cases e; have := (HL2.out.own.lt R hb).1; omega)
      have hsz3 : w.heap.size ≤ w3.heap.size := Nat.le_trans hsz2 hg3.size
      clear hh3 hx3 hg3 HL2 HX2 HK1 HG2
      go_wp2_with (at_builtin; refine wpList_append_own_at _ rfl _ _ 46 rfl w.heap.size 22 i0 (.pointer none) 1 8 Tryz.underlying46 hi0 hz0 hz1 hz2 rfl (by decide) _ _ _ rfl (World.ownsRow.alloc hown3 _) ⟨w3.heap.size, 0, none⟩ 1 1 [.pointer p] rfl rfl ?c1 ?c2 ?c3 ?c4 ?c5 ?_)
      case c1 => exact cell_one_new w3 _ _
      case c2 => intro u hu; simp at hu; subst hu; rfl
      case c3 => unfold maxLen; omega
      case c4 => omega
      case c5 => simp; omega
      · intro v' w5 hown' hgrow _ hat
        obtain ⟨b1, b2, b3, b4, b5⟩ := HS.out v' w5 _ hown' hgrow (by simpa using hat)
        have B1 : Hid (XR W0 w5 R s j3 o) := b1
        have B2 : Hid (w.grownBy w5 (some R)) := b2
        have B3 : Hid (LI W0 w w5 R s i o (SevZ s 38 r res) v' (vs ++ [.pointer p]) j3) := b3
        have B4 : Hid (mea s R w5 < mea s R wr) := b4
        have B5 : Hid (BR W0 w5 R s ∨ vs.length + 1 ≤ j3 + 1) := b5
        clear b1 b2 b3 b4 b5 hown' hgrow hat HS hown3
        go_wp2
        go_roundw
        case rel => exact ⟨v', vs ++ [.pointer p], j3, rfl, B1, B2, B3, by simp; omega, by show _ ∨ _; simpa using B5.out⟩
        case measure => exact B4.out
    · have hL2 : LI W0 w w2 R s i o (SevZ s 38 r res) (.slice va vs.length vc) vs j := HL.out.keep hRB hg2 (hh2.imp id fun h => h.1)
      have hgr2 := Lib.grownBy_trans HG.out hg2
      have hsz2 := hgr2.size
      have HSev : Hid (Calls Tryz.prog 46 #[.int .i64 4, .slice va vs.length vc] w2 fun e w' => GotT W0 w R s i o (severalS s 4 38 r i) e w') := by
        refine (hL2.several 4 hsz2).mono ?_
        rintro e w3 ⟨p, rfl, hg3, hh3⟩
        refine ⟨p, j, rfl, Lib.grownBy_trans hgr2 (hg3 _), hx2.kept (hg3 none), ?_⟩
        rcases hh3 with hB | ⟨q1, l, q2, q3⟩
        · exact .inl hB
        · rcases hh2 with hB | ⟨k1, k2⟩
          · exact .inl (hB.kept (hg3 none))
          · refine .inr ⟨q1, _, ?_, q3⟩
            rw [HRes.out, q2.stop k1.inn k2]
            rfl
      clear hh2 hx2 hg2 hL2 HX HG HL HN
      go_wp2_with fail
      go_at_call 46
      refine HSev.out.mono ?_
      intro e w3 hGt
      obtain ⟨p, j3, rfl, q1, q2, q3⟩ := hGt
      have HQ : Hid (GotT W0 w R s i o (severalS s 4 38 r i) (.returned (.pointer p)) w3) := ⟨p, j3, rfl, q1, q2, q3⟩
      clear q1 q2 q3
      go_wp2
      go_ret
      exact HQ.out

set_option maxHeartbeats 4000000 in
theorem rany_any {W0 : World} (L : LibC W0) {R o : Nat} {s : ByteArray} {r : Nat → Option (Re × Nat)} (U : RdC W0 R s o 44 r) (hG : Stays s r) {w : World} {i : Nat} (h : XR W0 w R s i o) :
    Calls Tryz.prog 21 #[.pointer (some ⟨R, 0, none⟩)] w fun e w' => GotT W0 w R s i o (severalS s 3 124 r i) e w' := by
  obtain ⟨i0, hi0, hz0, hz1, hz2⟩ := info_parts Tryz.infoPRe
  have hRB := h.lt
  have htx := h.text
  have HU : Hid (∀ (w : World) (i : Nat), XR W0 w R s i o → Calls Tryz.prog 44 #[.pointer (some ⟨R, 0, none⟩)] w fun e w' => GotT W0 w R s i o (r i) e w') := U
  have HGo : Hid (Stays s r) := hG
  have HC1 : Hid (Calls Tryz.prog 44 #[.pointer (some ⟨R, 0, none⟩)] w fun e w' => GotT W0 w R s i o (r i) e w') := U w i h
  have HRes : Hid (severalS s 3 124 r i = (((r i).bind fun x => sevS s 124 r (s.size + 1) [x.1] x.2)).map fun x => (gatherS 3 x.1, x.2)) := by
    show _ = _
    unfold severalS
    cases hri : r i with
    | none => rfl
    | some x => rfl
  have HZ0 : Hid (∀ t j, r i = some (t, j) → SevZ s 124 r ((r i).bind fun x => sevS s 124 r (s.size + 1) [x.1] x.2) [t] j) := fun t j hr => ⟨s.size + 1, by rw [hr]; rfl, by omega⟩
  have HX0 : Hid (XR W0 w R s i o) := h
  clear U hG h
  generalize ((r i).bind fun x => sevS s 124 r (s.size + 1) [x.1] x.2) = res at *
  go_enter Tryz.func21, Tryz.ntmps21
  go_wp2_with fail
  refine HC1.out.mono ?_
  rintro e w1 ⟨p, j, rfl, hg1, hx1, hh1⟩
  obtain ⟨hL1, hX1, hG1⟩ := LI.first (Z := SevZ s 124 r res) hRB hg1 hx1 hh1 (fun t hr => HZ0.out t j hr)
  have hN1 : BR W0 (w1.alloc (.cells #[.pointer p] 22)) R s ∨ (1 : Nat) ≤ j + 1 := .inr (by omega)
  have HL1 : Hid (LI W0 w (w1.alloc (.cells #[.pointer p] 22)) R s i o (SevZ s 124 r res) (.slice (some ⟨w1.heap.size, 0, none⟩) 1 1) [.pointer p] j) := hL1
  have HX1 : Hid (XR W0 (w1.alloc (.cells #[.pointer p] 22)) R s j o) := hX1
  have HG1 : Hid (w.grownBy (w1.alloc (.cells #[.pointer p] 22)) (some R)) := hG1
  clear hg1 hx1 hh1 hL1 hX1 hG1 HC1 HZ0 hN1
  go_wp2
  go_loopw [4] (fun x wr => ∃ (v : Value) (vs : List Value) (j : Nat), x = v ∧ Hid (XR W0 wr R s j o) ∧ Hid (w.grownBy wr (some R)) ∧ Hid (LI W0 w wr R s i o (SevZ s 124 r res) v vs j) ∧ vs.length ≤ s.size + 2 ∧ Hid (BR W0 wr R s ∨ vs.length ≤ j + 1)) (fun _ wr => mea s R wr)
  case atStart => exact ⟨_, [.pointer p], j, rfl, HX1, HG1, HL1, by simp, .inr (by simp)⟩
  case round =>
    clear HL1 HX1 HG1
    obtain ⟨v, vs, j, rfl, HX, HG, HL, hvl, HN⟩ := hrel
    obtain ⟨va, vc, rfl⟩ := HL.out.slice
    go_wp2_with fail
    go_at_call 45
    refine (eat_x L HX.out 124 (by omega) (by omega)).mono ?_
    rintro e w2 ⟨b, rfl, hg2, ⟨rfl, k1, k2, k3, k4⟩ | ⟨rfl, hx2, hh2⟩⟩
    · have hjs := k1.inn
      have hjs2 := k3.inn
      have hgr2 := Lib.grownBy_trans HG.out hg2
      have hsz2 := hgr2.size
      have hL2 : LI W0 w w2 R s i o (SevY s 124 r res) (.slice va vs.length vc) vs (j + 1) := (HL.out.keep hRB hg2 (.inr k1)).turn fun l hZ => hZ.sign hjs k2
      have hvj : vs.length ≤ j + 1 := HN.out.elim (fun hB => (k1.not_br hB).elim) id
      have HL2 : Hid (LI W0 w w2 R s i o (SevY s 124 r res) (.slice va vs.length vc) vs (j + 1)) := hL2
      have HX2 : Hid (XR W0 w2 R s (j + 1) o) := .inl ⟨k3, k4⟩
      have HK1 : Hid (SR W0 wr R s j o) := k1
      have HG2 : Hid (w.grownBy w2 (some R)) := hgr2
      clear hg2 hL2 HX HG HL HN k1 k2 k3 k4 hgr2
      go_wp2_with fail
      go_at_call 44
      refine (HU.out w2 (j + 1) HX2.out).mono ?_
      rintro e w3 ⟨p, j3, rfl, hg3, hx3, hh3⟩
      have HS : Hid (∀ v' w5 ob, w5.ownsRow w.heap.size 22 1 v' (vs.length + 1) (vs ++ [.pointer p]) → (w3.alloc ob).grownBy w5 (Value.slice va vs.length vc).ownBlock → (v'.ownBlock = (Value.slice va vs.length vc).ownBlock ∨ v'.ownBlock = some (w3.alloc ob).heap.size) → XR W0 w5 R s j3 o ∧ w.grownBy w5 (some R) ∧ LI W0 w w5 R s i o (SevZ s 124 r res) v' (vs ++ [.pointer p]) j3 ∧ mea s R w5 < mea s R wr ∧ (BR W0 w5 R s ∨ vs.length + 1 ≤ j3 + 1)) := by
        intro v' w5 ob hown hg5 hat
        have hlt : BR W0 w3 R s ∨ j + 1 ≤ j3 := by
          rcases hh3 with hB | ⟨q1, t, q2, q3⟩
          · exact .inl hB
          · exact .inr (HGo.out (j + 1) t j3 hjs2 q2).1
        obtain ⟨a1, a2, a3, a4⟩ := HL2.out.snoc (Z' := SevZ s 124 r res) hRB hsz2 hg3 hx3 hh3 hown hg5 hat (fun l t hr hZ => hZ.next hr (HGo.out (j + 1) t j3 hjs2 hr).1)
        have hg35 := Lib.grownBy_trans HG2.out hg3
        refine ⟨a2, grownBy_own (Lib.grownBy_allocR hg35 ob) hg5 (fun q hq => (HL2.out.own.lt q hq).1), a1, mea_x HK1.out a2 (hlt.imp a4 (fun h => by omega)), hlt.imp a4 (fun h => by omega)⟩
      have hown3 : w3.ownsRow w.heap.size 22 1 (.slice va vs.length vc) vs.length vs := HL2.out.own.kept hg3 (by
        cases hb : (Value.slice va vs.length vc).ownBlock with
        | none => exact .inl rfl
        | some k => right; intro e; cases e; have := (HL2.out.own.lt R hb).1; omega)
      have hsz3 : w.heap.size ≤ w3.heap.size := Nat.le_trans hsz2 hg3.size
      clear hh3 hx3 hg3 HL2 HX2 HK1 HG2
      go_wp2_with (at_builtin; refine wpList_append_own_at _ rfl _ _ 46 rfl w.heap.size 22 i0 (.pointer none) 1 8 Tryz.underlying46 hi0 hz0 hz1 hz2 rfl (by decide) _ _ _ rfl (World.ownsRow.alloc hown3 _) ⟨w3.heap.size, 0, none⟩ 1 1 [.pointer p] rfl rfl ?c1 ?c2 ?c3 ?c4 ?c5 ?_)
      case c1 => exact cell_one_new w3 _ _
      case c2 => intro u hu; simp at hu; subst hu; rfl
      case c3 => unfold maxLen; omega
      case c4 => omega
      case c5 => simp; omega
      · intro v' w5 hown' hgrow _ hat
        obtain ⟨b1, b2, b3, b4, b5⟩ := HS.out v' w5 _ hown' hgrow (by simpa using hat)
        have B1 : Hid (XR W0 w5 R s j3 o) := b1
        have B2 : Hid (w.grownBy w5 (some R)) := b2
        have B3 : Hid (LI W0 w w5 R s i o (SevZ s 124 r res) v' (vs ++ [.pointer p]) j3) := b3
        have B4 : Hid (mea s R w5 < mea s R wr) := b4
        have B5 : Hid (BR W0 w5 R s ∨ vs.length + 1 ≤ j3 + 1) := b5
        clear b1 b2 b3 b4 b5 hown' hgrow hat HS hown3
        go_wp2
        go_roundw
        case rel => exact ⟨v', vs ++ [.pointer p], j3, rfl, B1, B2, B3, by simp; omega, by show _ ∨ _; simpa using B5.out⟩
        case measure => exact B4.out
    · have hL2 : LI W0 w w2 R s i o (SevZ s 124 r res) (.slice va vs.length vc) vs j := HL.out.keep hRB hg2 (hh2.imp id fun h => h.1)
      have hgr2 := Lib.grownBy_trans HG.out hg2
      have hsz2 := hgr2.size
      have HSev : Hid (Calls Tryz.prog 46 #[.int .i64 3, .slice va vs.length vc] w2 fun e w' => GotT W0 w R s i o (severalS s 3 124 r i) e w') := by
        refine (hL2.several 3 hsz2).mono ?_
        rintro e w3 ⟨p, rfl, hg3, hh3⟩
        refine ⟨p, j, rfl, Lib.grownBy_trans hgr2 (hg3 _), hx2.kept (hg3 none), ?_⟩
        rcases hh3 with hB | ⟨q1, l, q2, q3⟩
        · exact .inl hB
        · rcases hh2 with hB | ⟨k1, k2⟩
          · exact .inl (hB.kept (hg3 none))
          · refine .inr ⟨q1, _, ?_, q3⟩
            rw [HRes.out, q2.stop k1.inn k2]
            rfl
      clear hh2 hx2 hg2 hL2 HX HG HL HN
      go_wp2_with fail
      go_at_call 46
      refine HSev.out.mono ?_
      intro e w3 hGt
      obtain ⟨p, j3, rfl, q1, q2, q3⟩ := hGt
      have HQ : Hid (GotT W0 w R s i o (severalS s 3 124 r i) (.returned (.pointer p)) w3) := ⟨p, j3, rfl, q1, q2, q3⟩
      clear q1 q2 q3
      go_wp2
      go_ret
      exact HQ.out

/-- any, out of unit -/
theorem rpat_any {W0 : World} (L : LibC W0) {R o : Nat} {s : ByteArray} {u : Nat → Option (Re × Nat)} (U : RUnitC W0 R s o u) (hu : Goes s u) (hG : Goes s fun i => (u i).bind fun x => partS s (s.size + 1) x.1 x.2) : RdC W0 R s o 21 (patS s u) :=
  fun w i h => rany_any L (fun w i h => rboth_any L (fun w i h => rrow_any L U hG h) (rowReS_stays hu) h) (bothS_stays hu) h

end Go.Proofs.YtbjohedenfindaaGreatDoor

namespace Go.Proofs.YtbjohedenfindaaGreatDoor
open Go.RowKit
set_option linter.unusedVariables false
set_option maxRecDepth 100000

theorem below_allocU (w : World) (o : Obj) : Below w.heap.size w (w.alloc o) := Below.alloc (Below.refl _ _) (Nat.le_refl _) _
theorem point_x {W0 w : World} (L : LibC W0) {R i o : Nat} {s S : ByteArray} {bar signs : Int → Bool} (B : Bars S bar) (hb : bar 92 = false) (hsg : ∀ c, c ≠ 92 → signs c = bar c) (h : XR W0 w R s i o) :
    Calls Tryz.prog 140 #[.pointer (some ⟨R, 0, none⟩), .string S] w fun e w' => ∃ (z : Int) (j : Nat), e = .returned (.int .i64 z) ∧ 0 ≤ z ∧ z ≤ 1114111 ∧ w.grownBy w' (some R) ∧ XR W0 w' R s j o ∧ (BR W0 w' R s ∨ (SR W0 w R s i o ∧ pointS s signs i = some (z, j))) := by
  rcases h with ⟨h, ho⟩ | h
  · refine (rpoint_any (signs := signs) L B bars_esc (digC_any L s) h ho hb hsg).mono ?_
    rintro e w' ⟨z, rfl, z0, z1, hg, hB | ⟨j, h1, h2⟩⟩
    · exact ⟨z, 0, rfl, z0, z1, hg, .inr hB, .inl hB⟩
    · exact ⟨z, j, rfl, z0, z1, hg, .inl ⟨h2, ho⟩, .inr ⟨h, h1⟩⟩
  · refine (rpoint_bad L B h).mono ?_
    rintro e w' ⟨rfl, hg, hB⟩
    exact ⟨0, 0, rfl, by omega, by omega, hg, .inr hB, .inl hB⟩
theorem out92 : outBar 92 = false := by rw [outBar_eq]; decide
theorem in92 : inBar 92 = false := by rw [inBar_eq]; decide

/-- a set of one range -/
theorem set_tree1 (w : World) (a b : Int) : RT' w.heap.size ((w.alloc (.cells #[.int .i64 a, .int .i64 b] 101)).alloc (.cells #[.int .i64 1, .slice (some ⟨w.heap.size, 0, none⟩) 1 1, .int .i64 0, .int .i64 0, .slice none 0 0] 48)) (.pointer (some ⟨w.heap.size + 1, 0, none⟩)) (setRe [(a, b)]) := by
  have h1 : ((w.alloc (.cells #[.int .i64 a, .int .i64 b] 101)).alloc (.cells #[.int .i64 1, .slice (some ⟨w.heap.size, 0, none⟩) 1 1, .int .i64 0, .int .i64 0, .slice none 0 0] 48)).heap[w.heap.size]? = some (.cells #[.int .i64 a, .int .i64 b] 101 (0, 0)) := by
    rw [Below.heap_alloc _ _ _ (by simp)]
    exact heap_alloc_new w _
  have h2 := heap_alloc_new (w.alloc (.cells #[.int .i64 a, .int .i64 b] 101)) (.cells #[.int .i64 1, .slice (some ⟨w.heap.size, 0, none⟩) 1 1, .int .i64 0, .int .i64 0, .slice none 0 0] 48)
  rw [show (w.alloc _).heap.size = w.heap.size + 1 from by simp] at h2
  have h3 := h2
  refine ⟨1, w.heap.size + 1, _, _, rfl, Nat.le_succ _, h3, .inr ⟨w.heap.size, 0, 1, rfl, by simp; omega, Nat.le_refl _, fun j hj => ?_⟩, .inl ⟨rfl, none, 0, rfl⟩⟩
  have : j = 0 := by simp [setRe] at hj; exact hj
  subst this
  constructor <;> simp [World.cell?, h1, setRe]
theorem set_tree2 (w : World) (a b c d : Int) : RT' w.heap.size ((w.alloc (.cells #[.int .i64 a, .int .i64 b, .int .i64 c, .int .i64 d] 101)).alloc (.cells #[.int .i64 1, .slice (some ⟨w.heap.size, 0, none⟩) 2 2, .int .i64 0, .int .i64 0, .slice none 0 0] 48)) (.pointer (some ⟨w.heap.size + 1, 0, none⟩)) (setRe [(a, b), (c, d)]) := by
  have h1 : ((w.alloc (.cells #[.int .i64 a, .int .i64 b, .int .i64 c, .int .i64 d] 101)).alloc (.cells #[.int .i64 1, .slice (some ⟨w.heap.size, 0, none⟩) 2 2, .int .i64 0, .int .i64 0, .slice none 0 0] 48)).heap[w.heap.size]? = some (.cells #[.int .i64 a, .int .i64 b, .int .i64 c, .int .i64 d] 101 (0, 0)) := by
    rw [Below.heap_alloc _ _ _ (by simp)]
    exact heap_alloc_new w _
  have h2 := heap_alloc_new (w.alloc (.cells #[.int .i64 a, .int .i64 b, .int .i64 c, .int .i64 d] 101)) (.cells #[.int .i64 1, .slice (some ⟨w.heap.size, 0, none⟩) 2 2, .int .i64 0, .int .i64 0, .slice none 0 0] 48)
  rw [show (w.alloc _).heap.size = w.heap.size + 1 from by simp] at h2
  have h3 := h2
  refine ⟨1, w.heap.size + 1, _, _, rfl, Nat.le_succ _, h3, .inr ⟨w.heap.size, 0, 2, rfl, by simp; omega, Nat.le_refl _, fun j hj => ?_⟩, .inl ⟨rfl, none, 0, rfl⟩⟩
  have : j = 0 ∨ j = 1 := by simp [setRe] at hj; omega
  rcases this with rfl | rfl
  · constructor <;> simp [World.cell?, h1, setRe]
  · constructor <;> simp [World.cell?, h1, setRe]

set_option maxHeartbeats 4000000 in
theorem runit_leaf {W0 w : World} (L : LibC W0) {R i o : Nat} {s : ByteArray} {mk : List Rg → Bool → List Rg} (hmk : mk [(10, 10)] true = [(0, 9), (11, 1114111)]) (h : XR W0 w R s i o) (hc : BR W0 w R s ∨ (cpAt s i ≠ 40 ∧ cpAt s i ≠ 91 ∧ cpAt s i ≠ 126)) :
    Calls Tryz.prog 127 #[.pointer (some ⟨R, 0, none⟩)] w fun e w' => GotT W0 w R s i o (leafS s mk i) e w' := by
  have hRB := h.lt
  have HN : Hid (Calls Tryz.prog 74 #[.pointer (some ⟨R, 0, none⟩)] w fun e w' => ∃ c : Int, e = .returned (.int .i64 c) ∧ -1 ≤ c ∧ c ≤ 1114111 ∧ w.grownBy w' (some R) ∧ XR W0 w' R s i o ∧ ((BR W0 w' R s ∧ c = -1) ∨ (SR W0 w R s i o ∧ c = cpAt s i ∧ SR W0 w' R s i o))) := now_x L h
  have HC : Hid (BR W0 w R s ∨ (cpAt s i ≠ 40 ∧ cpAt s i ≠ 91 ∧ cpAt s i ≠ 126)) := hc
  clear h hc
  go_enter Tryz.func127, Tryz.ntmps127
  go_wp2_with fail
  refine HN.out.mono ?_
  rintro e w2 ⟨c, rfl, c0, c1, hg2, hx2, hh2⟩
  have hcn : c ≠ 40 ∧ c ≠ 91 ∧ c ≠ 126 := by
    rcases hh2 with ⟨_, e⟩ | ⟨k1, k2, k3⟩
    · omega
    · rcases HC.out with hB | hq
      · exact (k1.not_br hB).elim
      · rw [k2]; exact hq
  have n1 : (c == 40) = false := by rw [beq_eq_false_iff_ne]; exact hcn.1
  have n2 : (c == 91) = false := by rw [beq_eq_false_iff_ne]; exact hcn.2.1
  have n3 : (c == 126) = false := by rw [beq_eq_false_iff_ne]; exact hcn.2.2
  have hsz2 := hg2.size
  clear HN HC hcn
  by_cases h46 : c = 46
  · subst h46
    obtain ⟨k1, k2, k3⟩ : SR W0 w R s i o ∧ (46 : Int) = cpAt s i ∧ SR W0 w2 R s i o := by
      rcases hh2 with ⟨_, e⟩ | h
      · omega
      · exact h
    have ho : o ≤ 1000 := by
      rcases hx2 with h | h
      · exact h.2
      · exact (k3.not_br h).elim
    have hce := cp_eq_size k2.symm (by omega) (by omega)
    have HSk : Hid (Calls Tryz.prog 75 #[.pointer (some ⟨R, 0, none⟩)] w2 fun e w3 => e = .returned (.tuple #[]) ∧ GotT W0 w R s i o (leafS s mk i) (.returned (.pointer (some ⟨w3.heap.size + 1, 0, none⟩))) ((w3.alloc (.cells #[.int .i64 0, .int .i64 9, .int .i64 11, .int .i64 1114111] 101)).alloc (.cells #[.int .i64 1, .slice (some ⟨w3.heap.size, 0, none⟩) 2 2, .int .i64 0, .int .i64 0, .slice none 0 0] 48))) := by
      refine (skip_in k3 (by omega)).mono ?_
      rintro e w3 ⟨h1, hg3, hS3⟩
      rw [hce.2] at hS3
      have hga := ((below_allocU w3 (.cells #[.int .i64 0, .int .i64 9, .int .i64 11, .int .i64 1114111] 101)).trans ((below_allocU _ (.cells #[.int .i64 1, .slice (some ⟨w3.heap.size, 0, none⟩) 2 2, .int .i64 0, .int .i64 0, .slice none 0 0] 48)).mono (by simp)))
      have hg23 := Lib.grownBy_trans hg2 hg3
      refine ⟨h1, _, i + 1, rfl, Lib.grownBy_trans hg23 (grownBy_of_below hga _), .inl ⟨hS3.kept (grownBy_of_below hga none), ho⟩, .inr ⟨k1, setRe [(0, 9), (11, 1114111)], ?_, Tree.imp (set_tree2 w3 0 9 11 1114111) fun b _ hb => Nat.le_trans hg23.size hb⟩⟩
      unfold leafS
      rw [if_pos k2.symm, hmk]
    clear hh2 hx2 hg2 k1 k2 k3 hce
    go_wp2_with fail
    go_at_call 75
    refine HSk.out.mono ?_
    rintro e w3 ⟨rfl, hG⟩
    have HG : Hid (_) := hG
    clear hG HSk
    go_wp2
    go_ret
    exact HG.out
  · have n4 : (c == 46) = false := by rw [beq_eq_false_iff_ne]; exact h46
    have HP : Hid (Calls Tryz.prog 140 #[.pointer (some ⟨R, 0, none⟩), .string outB] w2 fun e w3 => ∃ z : Int, e = .returned (.int .i64 z) ∧ 0 ≤ z ∧ z ≤ 1114111 ∧ GotT W0 w R s i o (leafS s mk i) (.returned (.pointer (some ⟨w3.heap.size + 1, 0, none⟩))) ((w3.alloc (.cells #[.int .i64 z, .int .i64 z] 101)).alloc (.cells #[.int .i64 1, .slice (some ⟨w3.heap.size, 0, none⟩) 1 1, .int .i64 0, .int .i64 0, .slice none 0 0] 48))) := by
      refine (point_x (signs := outerS) L bars_out out92 out_signs hx2).mono ?_
      rintro e w3 ⟨z, j, rfl, z0, z1, hg3, hx3, hh3⟩
      have hga := ((below_allocU w3 (.cells #[.int .i64 z, .int .i64 z] 101)).trans ((below_allocU _ (.cells #[.int .i64 1, .slice (some ⟨w3.heap.size, 0, none⟩) 1 1, .int .i64 0, .int .i64 0, .slice none 0 0] 48)).mono (by simp)))
      have hg23 := Lib.grownBy_trans hg2 hg3
      refine ⟨z, rfl, z0, z1, _, j, rfl, Lib.grownBy_trans hg23 (grownBy_of_below hga _), hx3.kept (grownBy_of_below hga none), ?_⟩
      rcases hh3 with hB | ⟨q1, q2⟩
      · exact .inl (hB.kept (grownBy_of_below hga none))
      · rcases hh2 with ⟨hB, _⟩ | ⟨k1, k2, k3⟩
        · exact (q1.not_br hB).elim
        · refine .inr ⟨k1, setRe [(z, z)], ?_, Tree.imp (set_tree1 w3 z z) fun b _ hb => Nat.le_trans hg23.size hb⟩
          unfold leafS
          rw [if_neg (by omega), q2]
          rfl
    clear hh2 hx2 hg2
    go_wp2_with fail
    go_at_call 140
    refine HP.out.mono ?_
    rintro e w3 ⟨z, rfl, z0, z1, hG⟩
    have HG : Hid (_) := hG
    clear hG HP
    go_wp2
    go_ret
    exact HG.out

end Go.Proofs.YtbjohedenfindaaGreatDoor

namespace Go.Proofs.YtbjohedenfindaaGreatDoor
open Go.RowKit
set_option linter.unusedVariables false
set_option maxRecDepth 100000

/-- inner, by the sign ahead of it -/
def InnC (W0 : World) (R : Nat) (s : ByteArray) (o : Nat) (q : Int → Nat → Option (Re × Nat)) : Prop := ∀ (w : World) (i : Nat) (c : Int), (c = 40 ∨ c = 91 ∨ c = 126) → XR W0 w R s i o → Calls Tryz.prog 139 #[.pointer (some ⟨R, 0, none⟩), .int .i64 c] w fun e w' => GotT W0 w R s i o (q c i) e w'

theorem SR.setO {W0 w : World} {R i o o' : Nat} {s : ByteArray} (h : SR W0 w R s i o) : SR W0 (w.setCell ⟨R, 2, none⟩ (.int .i64 (o' : Int))) R s i o' := by
  obtain ⟨z, hz⟩ := h.at_
  exact h.step (z := z) (Lib.grownBy_setCell w R 2 _) h.inn (hz.set2 _)
theorem BR.setO {W0 w : World} {R : Nat} {s : ByteArray} (h : BR W0 w R s) (y : Int) : BR W0 (w.setCell ⟨R, 2, none⟩ (.int .i64 y)) R s := by
  obtain ⟨i, o, te, pe, z, h1, h2, hz⟩ := h.at_
  exact ⟨h.env.grown (Lib.grownBy_setCell w R 2 _) h.r16, ⟨i, y, te, pe, z, h1, h2, hz.set2 _⟩, h.r16, h.text⟩

set_option maxHeartbeats 4000000 in
theorem runit_full {W0 w : World} (L : LibC W0) {R i : Nat} {s : ByteArray} {r : Option (Re × Nat)} (h : SR W0 w R s i 100) {c : Int} (hce : cpAt s i = c) (hc : c = 40 ∨ c = 91 ∨ c = 126) :
    Calls Tryz.prog 127 #[.pointer (some ⟨R, 0, none⟩)] w fun e w' => GotT W0 w R s i 100 r e w' := by
  have HN : Hid (Calls Tryz.prog 74 #[.pointer (some ⟨R, 0, none⟩)] w fun e w' => e = .returned (.int .i64 c) ∧ ∃ n, w' = w.drewN n) := by
    have := now_in h (by omega)
    rw [hce] at this
    exact this
  have HF : Hid (∀ n, ∃ te pe, ((w.drewN n).setCell ⟨R, 2, none⟩ (.int .i64 (101 : Int))).cell? ⟨1, 0, none⟩ = some (.iface te pe) ∧ ((w.drewN n).setCell ⟨R, 2, none⟩ (.int .i64 (101 : Int))).cell? ⟨R, 1, none⟩ = some (.int .i64 (i : Int)) ∧ (w.drewN n).cell? ⟨R, 2, none⟩ = some (.int .i64 100) ∧ (w.drewN n).frozen? ⟨R, 2, none⟩ = false ∧ Calls Tryz.prog 22 #[.pointer (some ⟨R, 0, none⟩), .iface te pe, .int .i64 i] ((w.drewN n).setCell ⟨R, 2, none⟩ (.int .i64 (101 : Int))).drew fun e w' => e = .returned (.tuple #[]) ∧ (∃ te pe, w'.cell? ⟨R, 3, none⟩ = some (.iface te pe)) ∧ GotT W0 w R s i 100 r (.returned (.pointer none)) w') := by
    intro n
    have h1 := h.kept (grown_drewN w n none)
    have h2 : SR W0 ((w.drewN n).setCell ⟨R, 2, none⟩ (.int .i64 (101 : Int))) R s i 101 := h1.setO (o' := 101)
    obtain ⟨te, pe, cs⟩ := env_bnd L h2.env
    obtain ⟨z, hz⟩ := h1.at_
    refine ⟨te, pe, cs, h2.cell1.1, hz.cells.2.2.1, hz.frozen 2, ?_⟩
    refine (fail_first (h2.kept (grown_drewN _ 1 none)) (by omega) te pe i).mono ?_
    rintro e w' ⟨q1, q2, q3⟩
    refine ⟨q1, q3.cell3, none, 0, rfl, Lib.grownBy_trans (grown_drewN w n (some R)) (Lib.grownBy_trans (Lib.grownBy_setCell _ R 2 _) (Lib.grownBy_trans (grown_drewN _ 1 (some R)) q2)), .inr q3, .inl q3⟩
  clear h hce
  go_enter Tryz.func127, Tryz.ntmps127
  rcases hc with rfl | rfl | rfl
  all_goals
    go_wp2_with fail
    refine HN.out.mono ?_
    rintro e w2 ⟨rfl, n, rfl⟩
    obtain ⟨te, pe, f1, f2, f3, f4, f5⟩ := HF.out n
    have HF5 : Hid (Calls Tryz.prog 22 #[.pointer (some ⟨R, 0, none⟩), .iface te pe, .int .i64 i] ((w.drewN n).setCell ⟨R, 2, none⟩ (.int .i64 (101 : Int))).drew fun e w' => e = .returned (.tuple #[]) ∧ (∃ te pe, w'.cell? ⟨R, 3, none⟩ = some (.iface te pe)) ∧ GotT W0 w R s i 100 r (.returned (.pointer none)) w') := f5
    clear f5
    go_wp2
    go_region_with (go_at_call 22; refine HF5.out.mono ?_; rintro e w4 ⟨rfl, ⟨te4, pe4, g1⟩, g2⟩)
    all_goals
      have HG2 : Hid (GotT W0 w R s i 100 r (.returned (.pointer none)) w4) := g2
      clear g2
      go_wp2
      go_ret
      exact HG2.out

set_option maxHeartbeats 4000000 in
theorem runit_open {W0 w : World} (L : LibC W0) {R i o : Nat} {s : ByteArray} {q : Int → Nat → Option (Re × Nat)} (I : InnC W0 R s (o + 1) q) (h : SR W0 w R s i o) (ho : o < 100) {c : Int} (hce : cpAt s i = c) (hc : c = 40 ∨ c = 91 ∨ c = 126) :
    Calls Tryz.prog 127 #[.pointer (some ⟨R, 0, none⟩)] w fun e w' => GotT W0 w R s i o (q c (i + 1)) e w' := by
  have HN : Hid (Calls Tryz.prog 74 #[.pointer (some ⟨R, 0, none⟩)] w fun e w' => e = .returned (.int .i64 c) ∧ ∃ n, w' = w.drewN n) := by
    have := now_in h (by omega)
    rw [hce] at this
    exact this
  have hsz := cp_eq_size hce (by omega) (by omega)
  have HF : Hid (∀ n, (w.drewN n).cell? ⟨R, 2, none⟩ = some (.int .i64 (o : Int)) ∧ (w.drewN n).frozen? ⟨R, 2, none⟩ = false ∧ (w.drewN n).cell? ⟨R, 3, none⟩ = some .nilIface ∧ Calls Tryz.prog 75 #[.pointer (some ⟨R, 0, none⟩)] ((w.drewN n).setCell ⟨R, 2, none⟩ (.int .i64 ((o : Int) + 1))) fun e w4 => e = .returned (.tuple #[]) ∧ Hid (Calls Tryz.prog 139 #[.pointer (some ⟨R, 0, none⟩), .int .i64 c] w4 fun e w5 => ∃ (p : Option Addr) (x : Int), e = .returned (.pointer p) ∧ w5.cell? ⟨R, 2, none⟩ = some (.int .i64 x) ∧ w5.frozen? ⟨R, 2, none⟩ = false ∧ ((x = (o : Int) + 1 ∧ GotT W0 w R s i o (q c (i + 1)) (.returned (.pointer p)) (w5.setCell ⟨R, 2, none⟩ (.int .i64 (o : Int)))) ∨ ∀ y, GotT W0 w R s i o (q c (i + 1)) (.returned (.pointer p)) (w5.setCell ⟨R, 2, none⟩ (.int .i64 y))))) := by
    intro n
    have h1 := h.kept (grown_drewN w n none)
    have h2 : SR W0 ((w.drewN n).setCell ⟨R, 2, none⟩ (.int .i64 ((o : Int) + 1))) R s i (o + 1) := h1.setO (o' := o + 1)
    obtain ⟨z, hz⟩ := h1.at_
    refine ⟨hz.cells.2.2.1, hz.frozen 2, hz.cells.2.2.2.1, ?_⟩
    refine (skip_in h2 (by omega)).mono ?_
    rintro e w4 ⟨q1, q2, q3⟩
    rw [hsz.2] at q3
    refine ⟨q1, ?_⟩
    have hg4 : w.grownBy w4 (some R) := Lib.grownBy_trans (grown_drewN w n (some R)) (Lib.grownBy_trans (Lib.grownBy_setCell _ R 2 _) q2)
    refine (I w4 (i + 1) c hc (.inl ⟨q3, by omega⟩)).mono ?_
    rintro e w5 ⟨p, j, rfl, hg5, hx5, hh5⟩
    have hg6 : ∀ y : Int, w.grownBy (w5.setCell ⟨R, 2, none⟩ (.int .i64 y)) (some R) := fun y => Lib.grownBy_trans hg4 (Lib.grownBy_trans hg5 (Lib.grownBy_setCell _ R 2 _))
    rcases hx5 with ⟨hS5, _⟩ | hB5
    · obtain ⟨z5, hz5⟩ := hS5.at_
      refine ⟨p, _, rfl, hz5.cells.2.2.1, hz5.frozen 2, .inl ⟨by simp, p, j, rfl, hg6 _, .inl ⟨hS5.setO, by omega⟩, ?_⟩⟩
      rcases hh5 with hB | ⟨_, t, k1, k2⟩
      · exact (hS5.not_br hB).elim
      · refine .inr ⟨h, t, k1, Tree.grown (Tree.imp k2 fun b _ hb => Nat.le_trans hg4.size hb) (Lib.grownBy_setCell w5 R 2 _) fun b hb e => ?_⟩
        have := h.lt
        simp at e
        omega
    · obtain ⟨i5, o5, te, pe, z5, _, _, hz5⟩ := hB5.at_
      exact ⟨p, o5, rfl, hz5.cells.2.2.1, hz5.frozen 2, .inr fun y => ⟨p, 0, rfl, hg6 y, .inr (hB5.setO y), .inl (hB5.setO y)⟩⟩
  clear h hce I hsz
  go_enter Tryz.func127, Tryz.ntmps127
  rcases hc with rfl | rfl | rfl
  all_goals
    go_wp2_with fail
    refine HN.out.mono ?_
    rintro e w2 ⟨rfl, n, rfl⟩
    obtain ⟨f1, f2, f3, f4⟩ := HF.out n
    have HF4 : Hid (Calls Tryz.prog 75 #[.pointer (some ⟨R, 0, none⟩)] ((w.drewN n).setCell ⟨R, 2, none⟩ (.int .i64 ((o : Int) + 1))) _) := f4
    clear f4
    go_wp2_with fail
    go_at_call 75
    refine HF4.out.mono ?_
    rintro e w4 ⟨rfl, HI⟩
    clear HF4
    go_wp2_with fail
    go_at_call 139
    refine HI.out.mono ?_
    rintro e w5 ⟨p, x, rfl, g1, g2, ⟨rfl, g3⟩ | g3⟩
    · have HG3 : Hid (GotT W0 w R s i o _ (.returned (.pointer p)) (w5.setCell ⟨R, 2, none⟩ (.int .i64 (o : Int)))) := g3
      clear g3 HI
      go_wp2
      go_ret
      exact HG3.out
    · have HG3 : Hid (∀ y, GotT W0 w R s i o _ (.returned (.pointer p)) (w5.setCell ⟨R, 2, none⟩ (.int .i64 y))) := g3
      clear g3 HI
      go_wp2
      go_ret
      exact HG3.out _

end Go.Proofs.YtbjohedenfindaaGreatDoor
