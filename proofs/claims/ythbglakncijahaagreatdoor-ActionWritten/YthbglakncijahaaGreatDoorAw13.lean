/- Texts of the proof, put together: APsrB, APsrC. -/
import Derived.Test.YthbglakncijahaaGreatDoorAw12
namespace Go.Proofs.YthbglakncijahaaGreatDoor
open Go.RowKit
set_option linter.unusedVariables false
set_option maxRecDepth 100000

def nextS (s : ByteArray) (o : Option Tok) : Option Tok := o.bind fun t => cutE s t.fin
def isS (x : List UInt8) : Option Tok → Bool
  | none => false
  | some t => (decide (t.kind = 6) || decide (t.kind = 4)) && (t.text.toList == x)
def eatS (s : ByteArray) (x : List UInt8) (o : Option Tok) : Option Tok := if isS x o = true then nextS s o else o
def needS (s : ByteArray) (x : List UInt8) (o : Option Tok) : Option Tok := if isS x o = true then nextS s o else none
def namedS : Option Tok → Bool
  | none => false
  | some t => decide (t.kind = 4) && (!(keptL t.text.toList) && (kidsL t.text.toList == 0))
def nameS (s : ByteArray) (o : Option Tok) : Option Tok := if namedS o = true then nextS s o else none

set_option maxHeartbeats 4000000 in
theorem pnext_any {W0 w : World} (L : LibA W0) {R : Nat} {s : ByteArray} {o : Option Tok} (h : PX W0 w R s o) :
    Calls Tryz.prog 30 #[.pointer (some ⟨R, 0, none⟩)] w fun e w' => e = .returned (.tuple #[]) ∧ w.grownBy w' (some R) ∧ PX W0 w' R s (nextS s o) := by
  have HX : Hid (PX W0 w R s o) := h
  obtain ⟨t, b, z, hp, hf, ⟨rfl, rfl, hok⟩ | ⟨rfl, te', pe', rfl⟩⟩ := h.cells
  · obtain ⟨c0, c1, c2, c3, c4, c5, c6, c7, c8⟩ := hp.cells
    have hsz := h.text
    have hRw := h.lt
    have HP : Hid (PsAt w R s t .nilIface z) := hp
    have HC : Hid (∀ n, Calls Tryz.prog 55 #[.string s, .int .i64 t.fin, .bool false] (w.drewN n) fun e w' => ∃ u : Tok, e = .returned (tokV u) ∧ w.grownBy w' none ∧ u.fr ≤ s.size ∧ ((u.kind ≠ 7 ∧ nextS s (some t) = some u ∧ TokOk s u) ∨ (u.kind = 7 ∧ nextS s (some t) = none)) ∧ (w'.cell? ⟨R, 2, none⟩ = some (.int .i64 t.kind) ∧ w'.cell? ⟨R, 3, none⟩ = some (.string t.text) ∧ w'.cell? ⟨R, 4, none⟩ = some (.int .i64 t.fr) ∧ w'.cell? ⟨R, 5, none⟩ = some (.int .i64 t.fin) ∧ w'.cell? ⟨R, 6, none⟩ = some (.int .i64 t.num)) ∧ (w'.frozen? ⟨R, 2, none⟩ = false ∧ w'.frozen? ⟨R, 3, none⟩ = false ∧ w'.frozen? ⟨R, 4, none⟩ = false ∧ w'.frozen? ⟨R, 5, none⟩ = false ∧ w'.frozen? ⟨R, 6, none⟩ = false)) := fun n => by
      refine (rcut_e s t.fin hok.2.2.1 hsz (w.drewN n)).mono ?_
      rintro e w' ⟨hb, u, h1, h2, h3, h4⟩
      have hg : w.grownBy w' none := grownA_undrew (grownA_below hb none)
      have hp1 := HP.out.kept hg
      obtain ⟨_, _, q2, q3, q4, q5, q6, _, _⟩ := hp1.cells
      refine ⟨u, h1, hg, h3, ?_, ⟨q2, q3, q4, q5, q6⟩, hp1.fz 2, hp1.fz 3, hp1.fz 4, hp1.fz 5, hp1.fz 6⟩
      rcases h2 with ⟨a, b⟩ | ⟨a, b⟩
      · exact .inl ⟨a, b, a, h3, h4, (cut_goes hok.2.2.1 b).2.2.2.1⟩
      · exact .inr ⟨a, b⟩
    clear hp h hok
    go_enter Tryz.func30, Tryz.ntmps30
    go_wp2
    go_region_with (go_at_call 55; refine (HC.out _).mono ?_; rintro e w1 ⟨⟨uk, ux, uf, ut, un⟩, rfl, hg1, huf, hu, ⟨q2, q3, q4, q5, q6⟩, r2, r3, r4, r5, r6⟩; unfold tokV)
    all_goals
      have HPut : Hid (PsAt (putP w1 R ⟨uk, ux, uf, ut, un⟩) R s ⟨uk, ux, uf, ut, un⟩ .nilIface z) := (HP.out.kept hg1).put _
      have HG1 : Hid (w.grownBy (putP w1 R ⟨uk, ux, uf, ut, un⟩) (some R)) := grown_putP ⟨hg1.os, hg1.tape, hg1.output, hg1.size, fun k hk _ => hg1.block k hk (by simp)⟩ _
      unfold putP at HPut HG1
      simp only at HPut HG1
      have e2 := HPut.out.cells.2.2.1
      simp only at e2
      generalize ((((w1.setCell ⟨R, 2, none⟩ (.int .i64 uk)).setCell ⟨R, 3, none⟩ (.string ux)).setCell ⟨R, 4, none⟩ (.int .i64 uf)).setCell ⟨R, 5, none⟩ (.int .i64 ut)).setCell ⟨R, 6, none⟩ (.int .i64 un) = w2 at *
      clear q2 q3 q4 q5 q6 r2 r3 r4 r5 r6 hg1 c0 c1 c2 c3 c4 c5 c6 c7 c8
      have HU : Hid ((uk ≠ 7 ∧ nextS s (some t) = some ⟨uk, ux, uf, ut, un⟩ ∧ TokOk s ⟨uk, ux, uf, ut, un⟩) ∨ (uk = 7 ∧ nextS s (some t) = none)) := hu
      have hor : (uk == 7) = false ∨ (uk == 7) = true := by cases (uk == 7) <;> simp
      clear hu
      rcases hor with hk | hk
      · go_wp2
        go_end0
        refine ⟨rfl, HG1.out, ?_⟩
        rcases HU.out with ⟨h1, h2, h3⟩ | ⟨h1, _⟩
        · rw [h2]; exact HX.out.ofGood HG1.out h3 HPut.out
        · rw [h1] at hk; cases hk
      · have HW : Hid (Calls Tryz.prog 32 #[.pointer (some ⟨R, 0, none⟩)] w2 fun e w' => e = .returned (.tuple #[]) ∧ w2.grownBy w' (some R) ∧ PX W0 w' R s none) := pwrong_weak L ⟨HX.out.env.grown HG1.out HX.out.r16, HX.out.r16, hsz, huf, ⟨z, HPut.out⟩, .inl rfl⟩
        go_wp2_with fail
        go_at_call 32
        refine HW.out.mono ?_
        rintro e w3 ⟨rfl, hg3, hB3⟩
        go_wp2
        go_end0
        refine ⟨rfl, gT HG1.out hg3, ?_⟩
        rcases HU.out with ⟨h1, _⟩ | ⟨_, h2⟩
        · rw [beq_iff_eq] at hk; exact absurd hk h1
        · rw [h2]; exact hB3
  · obtain ⟨_, _, _, _, _, _, _, c7, _⟩ := hp.cells
    clear h hp
    go_enter Tryz.func30, Tryz.ntmps30
    go_wp2
    refine bodyPost_ret (results_none rfl _ _ _) rfl ?_
    exact ⟨rfl, grownA_refl w _, HX.out⟩


set_option maxHeartbeats 4000000 in
theorem pis_any {W0 w : World} {R : Nat} {s : ByteArray} {o : Option Tok} (h : PX W0 w R s o) (x : ByteArray) :
    Calls Tryz.prog 116 #[.pointer (some ⟨R, 0, none⟩), .string x] w fun e w' => e = .returned (.bool (isS x.toList o)) ∧ ∃ n, w' = w.drewN n := by
  obtain ⟨t, b, z, hp, hf, ⟨rfl, rfl, hok⟩ | ⟨rfl, te', pe', rfl⟩⟩ := h.cells
  · obtain ⟨c0, c1, c2, c3, c4, c5, c6, c7, c8⟩ := hp.cells
    have HV : Hid (isS x.toList (some t) = ((decide (t.kind = 6) || decide (t.kind = 4)) && (t.text.toList == x.toList))) := rfl
    have d6 : (t.kind == 6) = decide (t.kind = 6) := by by_cases h : t.kind = 6 <;> simp [h]
    have d4 : (t.kind == 4) = decide (t.kind = 4) := by by_cases h : t.kind = 4 <;> simp [h]
    rw [← d6, ← d4] at HV
    clear h hp hok d6 d4
    generalize t.kind = k at *
    generalize t.text = tx at *
    cases e6 : (k == 6)
    · cases e4 : (k == 4)
      · go_enter Tryz.func116, Tryz.ntmps116
        go_wp2
        first | go_quiet (fail) | skip
        go_wp2
        go_ret
        exact ⟨by rw [HV.out, e6, e4]; rfl, by first | exact ⟨0, rfl⟩ | exact ⟨_, rfl⟩⟩
      · cases ex : (tx.toList == x.toList)
        all_goals
          go_enter Tryz.func116, Tryz.ntmps116
          go_wp2
          first | go_quiet (fail) | skip
          go_wp2
          go_ret
          exact ⟨by rw [HV.out, e6, e4, ex]; rfl, by first | exact ⟨0, rfl⟩ | exact ⟨_, rfl⟩⟩
    · cases ex : (tx.toList == x.toList)
      all_goals
        go_enter Tryz.func116, Tryz.ntmps116
        go_wp2
        first | go_quiet (fail) | skip
        go_wp2
        go_ret
        exact ⟨by rw [HV.out, e6, ex]; rfl, by first | exact ⟨0, rfl⟩ | exact ⟨_, rfl⟩⟩
  · obtain ⟨c0, c1, c2, c3, c4, c5, c6, c7, c8⟩ := hp.cells
    clear h hp
    go_enter Tryz.func116, Tryz.ntmps116
    go_wp2
    first | go_quiet (fail) | skip
    go_wp2
    go_ret
    exact ⟨rfl, by first | exact ⟨0, rfl⟩ | exact ⟨_, rfl⟩⟩

set_option maxHeartbeats 2000000 in
theorem peat_any {W0 w : World} (L : LibA W0) {R : Nat} {s : ByteArray} {o : Option Tok} (h : PX W0 w R s o) (x : ByteArray) :
    Calls Tryz.prog 56 #[.pointer (some ⟨R, 0, none⟩), .string x] w fun e w' => e = .returned (.bool (isS x.toList o)) ∧ w.grownBy w' (some R) ∧ PX W0 w' R s (eatS s x.toList o) := by
  have HI : Hid (Calls Tryz.prog 116 #[.pointer (some ⟨R, 0, none⟩), .string x] w fun e w' => e = .returned (.bool (isS x.toList o)) ∧ ∃ n, w' = w.drewN n) := pis_any h x
  have HX : Hid (PX W0 w R s o) := h
  have HE : Hid (eatS s x.toList o = if isS x.toList o = true then nextS s o else o) := rfl
  clear h
  cases hi : isS x.toList o
  · rw [hi] at HI HE
    go_enter Tryz.func56, Tryz.ntmps56
    go_wp2_with fail
    go_at_call 116
    refine HI.out.mono ?_
    rintro e w1 ⟨rfl, n, rfl⟩
    go_wp2
    go_ret
    exact ⟨rfl, grownA_drewN w n _, by rw [HE.out]; exact HX.out.drewN n⟩
  · rw [hi] at HI HE
    have HN : Hid (∀ n, Calls Tryz.prog 30 #[.pointer (some ⟨R, 0, none⟩)] (w.drewN n) fun e w' => e = .returned (.tuple #[]) ∧ (w.drewN n).grownBy w' (some R) ∧ PX W0 w' R s (nextS s o)) := fun n => pnext_any L (HX.out.drewN n)
    go_enter Tryz.func56, Tryz.ntmps56
    go_wp2_with fail
    go_at_call 116
    refine HI.out.mono ?_
    rintro e w1 ⟨rfl, n, rfl⟩
    go_wp2_with fail
    go_at_call 30
    refine (HN.out n).mono ?_
    rintro e w2 ⟨rfl, hg, hX2⟩
    go_wp2
    go_ret
    exact ⟨rfl, grownA_undrew hg, by rw [HE.out]; exact hX2⟩

set_option maxHeartbeats 2000000 in
theorem pneed_any {W0 w : World} (L : LibA W0) {R : Nat} {s : ByteArray} {o : Option Tok} (h : PX W0 w R s o) (x : ByteArray) :
    Calls Tryz.prog 58 #[.pointer (some ⟨R, 0, none⟩), .string x] w fun e w' => e = .returned (.tuple #[]) ∧ w.grownBy w' (some R) ∧ PX W0 w' R s (needS s x.toList o) := by
  have HI : Hid (Calls Tryz.prog 56 #[.pointer (some ⟨R, 0, none⟩), .string x] w fun e w' => e = .returned (.bool (isS x.toList o)) ∧ w.grownBy w' (some R) ∧ PX W0 w' R s (eatS s x.toList o)) := peat_any L h x
  have HE : Hid (eatS s x.toList o = if isS x.toList o = true then nextS s o else o) := rfl
  have HF : Hid (needS s x.toList o = if isS x.toList o = true then nextS s o else none) := rfl
  clear h
  cases hi : isS x.toList o
  · rw [hi] at HI HE HF
    go_enter Tryz.func58, Tryz.ntmps58
    go_wp2_with fail
    go_at_call 56
    refine HI.out.mono ?_
    rintro e w1 ⟨rfl, hg1, hX1⟩
    have HW : Hid (Calls Tryz.prog 32 #[.pointer (some ⟨R, 0, none⟩)] w1 fun e w' => e = .returned (.tuple #[]) ∧ w1.grownBy w' (some R) ∧ PX W0 w' R s none) := pwrong_any L hX1
    go_wp2_with fail
    go_at_call 32
    refine HW.out.mono ?_
    rintro e w2 ⟨rfl, hg2, hX2⟩
    go_wp2
    go_end0
    exact ⟨rfl, gT hg1 hg2, by rw [HF.out]; exact hX2⟩
  · rw [hi] at HI HE HF
    go_enter Tryz.func58, Tryz.ntmps58
    go_wp2_with fail
    go_at_call 56
    refine HI.out.mono ?_
    rintro e w1 ⟨rfl, hg1, hX1⟩
    go_wp2
    go_end0
    exact ⟨rfl, hg1, by rw [HF.out]; rw [HE.out] at hX1; exact hX1⟩

end Go.Proofs.YthbglakncijahaaGreatDoor

namespace Go.Proofs.YthbglakncijahaaGreatDoor
open Go.RowKit
set_option linter.unusedVariables false
set_option maxRecDepth 100000

set_option maxHeartbeats 4000000 in
theorem pnamed_any {W0 w : World} {R : Nat} {s : ByteArray} {o : Option Tok} (h : PX W0 w R s o) :
    Calls Tryz.prog 117 #[.pointer (some ⟨R, 0, none⟩)] w fun e w' => e = .returned (.bool (namedS o)) ∧ ∃ n, w' = w.drewN n := by
  obtain ⟨t, b, z, hp, hf, ⟨rfl, rfl, hok⟩ | ⟨rfl, te', pe', rfl⟩⟩ := h.cells
  · obtain ⟨c0, c1, c2, c3, c4, c5, c6, c7, c8⟩ := hp.cells
    have HV : Hid (namedS (some t) = (decide (t.kind = 4) && (!(keptL t.text.toList) && (kidsL t.text.toList == 0)))) := rfl
    have HK : Hid (∀ w, Calls Tryz.prog 149 #[.string t.text] w fun e w' => e = .returned (.bool (keptL t.text.toList)) ∧ w' = w) := fun w => rkept_any t.text w
    have HD : Hid (∀ w, Calls Tryz.prog 90 #[.string t.text] w fun e w' => e = .returned (.int .i64 (kidsL t.text.toList)) ∧ w' = w) := fun w => rkids_any t.text w
    clear h hp hok
    generalize t.kind = k at *
    generalize t.text = tx at *
    generalize keptL tx.toList = kk at *
    generalize kidsL tx.toList = kd at *
    cases e4 : (k != 4)
    · have e4' : k = 4 := by rw [bne_eq_false_iff_eq] at e4; exact e4
      cases kk
      · have HV2 : Hid (namedS (some t) = (kd == 0)) := by show _ = _; rw [HV.out, e4']; simp
        clear HV
        go_enter Tryz.func117, Tryz.ntmps117
        go_wp2_with fail
        first | go_quiet (fail) | skip
        go_wp2_with fail
        go_at_call 149
        refine (HK.out _).mono ?_
        rintro e w1 ⟨rfl, hw⟩
        obtain rfl := hw.symm
        clear hw
        go_wp2_with fail
        go_at_call 90
        refine (HD.out _).mono ?_
        rintro e w2 ⟨rfl, hw⟩
        obtain rfl := hw.symm
        clear hw
        all_goals
          go_wp2
          go_ret
          exact ⟨by rw [HV2.out]; rfl, by first | exact ⟨0, rfl⟩ | exact ⟨_, rfl⟩⟩
      · have HV2 : Hid (namedS (some t) = false) := by show _ = _; rw [HV.out]; simp
        clear HV
        go_enter Tryz.func117, Tryz.ntmps117
        go_wp2_with fail
        first | go_quiet (fail) | skip
        go_wp2_with fail
        go_at_call 149
        refine (HK.out _).mono ?_
        rintro e w1 ⟨rfl, hw⟩
        obtain rfl := hw.symm
        clear hw
        go_wp2
        first | go_quiet (fail) | skip
        go_wp2
        go_ret
        exact ⟨by rw [HV2.out]; rfl, by first | exact ⟨0, rfl⟩ | exact ⟨_, rfl⟩⟩
    · have HV2 : Hid (namedS (some t) = false) := by
        show _ = _
        rw [HV.out, decide_eq_false (by rw [bne_iff_ne] at e4; exact e4)]
        rfl
      clear HV HK HD
      go_enter Tryz.func117, Tryz.ntmps117
      go_wp2
      first | go_quiet (fail) | skip
      go_wp2
      go_ret
      exact ⟨by rw [HV2.out]; rfl, by first | exact ⟨0, rfl⟩ | exact ⟨_, rfl⟩⟩
  · obtain ⟨c0, c1, c2, c3, c4, c5, c6, c7, c8⟩ := hp.cells
    clear h hp
    go_enter Tryz.func117, Tryz.ntmps117
    go_wp2
    first | go_quiet (fail) | skip
    go_wp2
    go_ret
    exact ⟨rfl, by first | exact ⟨0, rfl⟩ | exact ⟨_, rfl⟩⟩

/-- the text of the token at which the parser stands -/
def textS : Option Tok → ByteArray
  | none => emptyT
  | some t => t.text

set_option maxHeartbeats 4000000 in
theorem pname_any {W0 w : World} (L : LibA W0) {R : Nat} {s : ByteArray} {o : Option Tok} (h : PX W0 w R s o) :
    Calls Tryz.prog 57 #[.pointer (some ⟨R, 0, none⟩)] w fun e w' => ∃ x, e = .returned (.string x) ∧ w.grownBy w' (some R) ∧ PX W0 w' R s (nameS s o) ∧ (namedS o = true → x = textS o) := by
  have HI : Hid (Calls Tryz.prog 117 #[.pointer (some ⟨R, 0, none⟩)] w fun e w' => e = .returned (.bool (namedS o)) ∧ ∃ n, w' = w.drewN n) := pnamed_any h
  have HX : Hid (PX W0 w R s o) := h
  have HE : Hid (nameS s o = if namedS o = true then nextS s o else none) := rfl
  obtain ⟨t, b, z, hp, hf, hh⟩ := h.cells
  obtain ⟨c0, c1, c2, c3, c4, c5, c6, c7, c8⟩ := hp.cells
  have HT : Hid (namedS o = true → t.text = textS o) := by
    rcases hh with ⟨rfl, _, _⟩ | ⟨rfl, _⟩
    · exact fun _ => rfl
    · exact fun h => by cases h
  clear h hp hh
  cases hi : namedS o
  · rw [hi] at HI HE
    have HW : Hid (∀ n, Calls Tryz.prog 32 #[.pointer (some ⟨R, 0, none⟩)] (w.drewN n) fun e w' => e = .returned (.tuple #[]) ∧ (w.drewN n).grownBy w' (some R) ∧ PX W0 w' R s none) := fun n => pwrong_any L (HX.out.drewN n)
    go_enter Tryz.func57, Tryz.ntmps57
    go_wp2_with fail
    go_at_call 117
    refine HI.out.mono ?_
    rintro e w1 ⟨rfl, n, rfl⟩
    have d3 : (w.drewN n).cell? ⟨R, 3, none⟩ = some (.string t.text) := c3
    go_wp2_with fail
    go_at_call 32
    refine (HW.out n).mono ?_
    rintro e w2 ⟨rfl, hg2, hX2⟩
    go_wp2
    go_ret
    exact ⟨_, rfl, grownA_undrew hg2, by rw [HE.out]; exact hX2, fun h => by cases h⟩
  · rw [hi] at HI HE
    have HW : Hid (∀ n, Calls Tryz.prog 30 #[.pointer (some ⟨R, 0, none⟩)] (w.drewN n) fun e w' => e = .returned (.tuple #[]) ∧ (w.drewN n).grownBy w' (some R) ∧ PX W0 w' R s (nextS s o)) := fun n => pnext_any L (HX.out.drewN n)
    go_enter Tryz.func57, Tryz.ntmps57
    go_wp2_with fail
    go_at_call 117
    refine HI.out.mono ?_
    rintro e w1 ⟨rfl, n, rfl⟩
    have d3 : (w.drewN n).cell? ⟨R, 3, none⟩ = some (.string t.text) := c3
    have d1 : (w.drewN n).cell? ⟨R, 1, none⟩ = some (.bool false) := c1
    go_wp2_with fail
    first | go_quiet (fail) | skip
    go_wp2_with fail
    go_at_call 30
    refine (HW.out n).mono ?_
    rintro e w2 ⟨rfl, hg2, hX2⟩
    go_wp2
    go_ret
    exact ⟨_, rfl, grownA_undrew hg2, by rw [HE.out]; exact hX2, fun _ => HT.out hi⟩

end Go.Proofs.YthbglakncijahaaGreatDoor
