/- Texts of the proof, put together: WSgn, WPt. -/
import Derived.Test.YtbjohedenfindaaGreatDoorPw38
import Derived.Test.YtbjohedenfindaaGreatDoorPw39
import Derived.Test.YtbjohedenfindaaGreatDoorPw26
import Derived.Test.YtbjohedenfindaaGreatDoorPw10
import Derived.Maps.RangeWalk
namespace Go.Proofs.YtbjohedenfindaaGreatDoor
open Go.RowKit
open Go.Maps (Keyed)
set_option linter.unusedVariables false
set_option maxRecDepth 100000

theorem esc_sign {c p : Int} (h : escOf c = some p) : 0 ≤ p ∧ 0 ≤ c ∧ signOf p.toNat = some c.toNat ∧ c < 128 ∧ p < 128 := by
  unfold escOf at h
  split at h
  · rename_i e; cases h; subst e; decide
  · split at h
    · rename_i e; cases h; subst e; decide
    · split at h
      · rename_i e; cases h; subst e; decide
      · split at h
        · rename_i e
          cases h
          have he := e
          simp [escSign] at he
          have h0 : 0 ≤ c ∧ c < 128 := by omega
          refine ⟨h0.1, h0.1, ?_, h0.2, h0.2⟩
          unfold signOf
          rw [if_neg (by omega), if_neg (by omega), if_neg (by omega), show ((c.toNat : Nat) : Int) = c by omega, if_pos e]
        · cases h
theorem esc_inj {c c' p : Int} (h : escOf c = some p) (h' : escOf c' = some p) : c = c' := by
  have a := esc_sign h
  have b := esc_sign h'
  have := a.2.2.1.symm.trans b.2.2.1
  have := Option.some.inj this
  omega

theorem Tryz.lawIntS : Keyed Tryz.prog 3 := Maps.int_keyed Tryz.underlying3
/-- the signs that the map says for points -/
def SgnSays (D : DataW Unit) : Prop := ∀ c : Nat, Maps.has D (.int .i64 (c : Int)) = (signOf c).isSome ∧ ∀ b, signOf c = some b → D.atKey (.int .i64 (c : Int)) (.lit (.int .i32 0)) = .lit (.int .i32 (b : Int))
def SgnMap (w : World) (M : Nat) : Prop := ∃ (n : Nat) (D : DataW Unit), n ≤ 1000 ∧ w.ownsMap Tryz.prog 3 (plainElem Tryz.prog 21) M n D ∧ SgnSays D
/-- what it says while some signs are still to come -/
def SgnPart (D : DataW Unit) (left : Lit → Bool) : Prop := Maps.IsMap D ∧ (∀ p : Int, Maps.has D (.int .i64 p) = true ↔ ∃ c, escOf c = some p ∧ left (.int .i32 c) = false) ∧ ∀ p c : Int, escOf c = some p → left (.int .i32 c) = false → ∀ zd, D.atKey (.int .i64 p) zd = .lit (.int .i32 c)
theorem SgnPart.step {D : DataW Unit} {left : Lit → Bool} {x p : Int} (h : SgnPart D left) (hx : escOf x = some p) : SgnPart (D.put (.int .i64 p) (.lit (.int .i32 x))) (fun z => left z && !z.sameKey (.int .i32 x)) := by
  obtain ⟨hm, h1, h2⟩ := h
  have hl : ∀ c : Int, (left (.int .i32 c) && !(Lit.int .i32 c).sameKey (.int .i32 x)) = false ↔ left (.int .i32 c) = false ∨ c = x := by
    intro c
    by_cases h : c = x <;> simp [Lit.sameKey, h]
  refine ⟨by obtain ⟨es, rfl⟩ := hm; exact ⟨_, rfl⟩, fun q => ?_, fun q c hc hlc zd => ?_⟩
  · by_cases e : q = p
    · subst e
      rw [Maps.has_put_same hm (show WideAt.IsKeyLit (.int .i64 q) from trivial)]
      exact ⟨fun _ => ⟨x, hx, (hl x).2 (.inr rfl)⟩, fun _ => rfl⟩
    · have hne : (Lit.int .i64 q) ≠ .int .i64 p := fun e' => e (by cases e'; rfl)
      rw [Maps.has_put_other hne, h1 q]
      constructor
      · rintro ⟨c, g1, g2⟩; exact ⟨c, g1, (hl c).2 (.inl g2)⟩
      · rintro ⟨c, g1, g2⟩
        rcases (hl c).1 g2 with g | rfl
        · exact ⟨c, g1, g⟩
        · rw [hx] at g1; exact absurd (Option.some.inj g1).symm e
  · by_cases e : q = p
    · subst e
      rw [Maps.atKey_put_same hm (show WideAt.IsKeyLit (.int .i64 q) from trivial)]
      rw [esc_inj hc hx]
    · have hne : (Lit.int .i64 q) ≠ .int .i64 p := fun e' => e (by cases e'; rfl)
      rw [Maps.atKey_put_other hne]
      rcases (hl c).1 hlc with g | rfl
      · exact h2 q c hc g zd
      · rw [hx] at hc; exact absurd (Option.some.inj hc).symm e
theorem SgnPart.start {left : Lit → Bool} (h : ∀ c p, escOf c = some p → left (.int .i32 c) = true) : SgnPart (.map []) left := by
  refine ⟨⟨[], rfl⟩, fun p => ⟨fun e => (by cases e), ?_⟩, fun p c hc hl => ?_⟩
  · rintro ⟨c, h1, h2⟩; rw [h c p h1] at h2; cases h2
  · rw [h c p hc] at hl; cases hl
theorem SgnPart.done {D : DataW Unit} {left : Lit → Bool} (h : SgnPart D left) (hl : ∀ kl, left kl = false) : SgnSays D := by
  intro c
  cases hs : signOf c with
  | none =>
    refine ⟨?_, fun b hb => by cases hb⟩
    cases hh : Maps.has D (.int .i64 (c : Int)) with
    | false => rfl
    | true =>
      obtain ⟨x, h1, _⟩ := (h.2.1 _).1 hh
      have := (esc_sign h1).2.2.1
      rw [Int.toNat_natCast, hs] at this
      cases this
  | some b =>
    have he := (sign_esc hs).1
    exact ⟨(h.2.1 _).2 ⟨_, he, hl _⟩, fun b' hb' => by cases hb'; exact h.2.2 _ _ he (hl _) _⟩

set_option maxHeartbeats 4000000 in
theorem newWriter_any (w : World) : Calls Tryz.prog 28 #[] w fun e w' => e = .returned (.pointer (some ⟨w.heap.size + 1, 0, none⟩)) ∧ w'.heap[w.heap.size + 1]? = some (.cells #[.pointer none, .slice none 0 0, .map (some w.heap.size)] 73 (0, 0)) ∧ SgnMap w' w.heap.size ∧ Below w.heap.size w w' := by
  have hmm := @run_makeMap Tryz.prog
  have HE : Hid (∀ w', Calls Tryz.prog 41 #[] w' fun e w'' => e = .returned (.map (some w'.heap.size)) ∧ EscMap w'' w'.heap.size ∧ Below w'.heap.size w' w'') := escapes_any
  go_enter Tryz.func28, Tryz.ntmps28
  go_wp2_with fail
  refine (HE.out _).mono ?_
  rintro e w1 ⟨rfl, ⟨n, D0, hn, hown, hD⟩, hb1⟩
  have es : ((w.alloc (.map #[] 0)).alloc (.cells #[.pointer none, .slice none 0 0, .map (some w.heap.size)] 73 (0, 0))).heap.size = w.heap.size + 2 := by simp
  have b0 : Below w.heap.size w ((w.alloc (.map #[] 0)).alloc (.cells #[.pointer none, .slice none 0 0, .map (some w.heap.size)] 73 (0, 0))) := ((Below.refl _ w).alloc (Nat.le_refl _) _).alloc (by simp) _
  have m0 : (w.alloc (.map #[] 0)).ownsMap (H := Unit) Tryz.prog 3 (plainElem Tryz.prog 21) w.heap.size 0 (.map []) := World.ownsMap_made w Tryz.prog 3 (plainElem Tryz.prog 21)
  have m1 := m0.alloc (.cells #[.pointer none, .slice none 0 0, .map (some w.heap.size)] 73 (0, 0))
  have c0 : ((w.alloc (.map #[] 0)).alloc (.cells #[.pointer none, .slice none 0 0, .map (some w.heap.size)] 73 (0, 0))).heap[w.heap.size + 1]? = some (.cells #[.pointer none, .slice none 0 0, .map (some w.heap.size)] 73 (0, 0)) := by
    have := heap_alloc_new (w.alloc (.map #[] 0)) (.cells #[.pointer none, .slice none 0 0, .map (some w.heap.size)] 73 (0, 0))
    simpa using this
  generalize (w.alloc (.map #[] 0)).alloc (.cells #[.pointer none, .slice none 0 0, .map (some w.heap.size)] 73 (0, 0)) = w0 at *
  rw [es] at hown hb1 ⊢
  have m2 : w1.ownsMap (H := Unit) Tryz.prog 3 (plainElem Tryz.prog 21) w.heap.size 0 (.map []) := by
    obtain ⟨es, clock, h1, h2⟩ := m1
    exact ⟨es, clock, (hb1.block w.heap.size (by omega)).trans h1, h2⟩
  have c1 : w1.heap[w.heap.size + 1]? = some (.cells #[.pointer none, .slice none 0 0, .map (some w.heap.size)] 73 (0, 0)) := (hb1.block _ (by omega)).trans c0
  have b1 : Below w.heap.size w w1 := b0.trans (hb1.mono (by omega))
  have hs1 : w.heap.size + 3 ≤ w1.heap.size := by have := hown.lt; omega
  have HD : Hid (∀ c : Int, Maps.has D0 (.int .i32 c) = (escOf c).isSome ∧ ∀ p, escOf c = some p → D0.atKey (.int .i32 c) (.lit (.int .i64 0)) = .lit (.int .i64 p)) := hD
  clear hD m0 m1 c0 b0 hb1 hmm HE es
  go_wp2_with (first
    | (at_range; refine wpList_range_own _ rfl _ 88 rfl 21 3 Tryz.lawRune Tryz.underlying88 _ (w.heap.size + 2) n _ rfl hown ?_; intro w2 hrg0 hg0 hs0)
    | go_in)
  go_frame
  have HS : Hid (Maps.size D0 ≤ 1000) := Nat.le_trans hown.size_le hn
  have HP0 : Hid (SgnPart (.map []) (Maps.has D0)) := SgnPart.start fun c p hc => by rw [(HD.out c).1, hc]; rfl
  generalize hr : w1.heap.size = r at *
  go_loopw [3] (fun _ wr => ∃ (left : Lit → Bool) (cnt : Nat) (D : DataW Unit), wr.ranges Tryz.prog 21 (plainElem Tryz.prog 3) (w.heap.size + 2) r n D0 left cnt ∧ cnt ≤ Maps.size D0 ∧
      wr.ownsMap Tryz.prog 3 (plainElem Tryz.prog 21) w.heap.size (Maps.size D0 - cnt) D ∧ SgnPart D left ∧ (∀ kl, left kl = true → Maps.has D0 kl = true) ∧ wr.heap[w.heap.size + 1]? = some (.cells #[.pointer none, .slice none 0 0, .map (some w.heap.size)] 73 (0, 0)) ∧ Below w.heap.size w wr ∧ w2.heap.size ≤ wr.heap.size)
    (fun _ wr => wr.rangeLeft (w.heap.size + 2) r)
  case atStart =>
    exact ⟨_, _, .map [], hrg0, Nat.le_refl _, (m2.kept hg0 (by simp)).mono (Nat.zero_le _), HP0.out, fun kl h => h, (hg0.block _ (by omega) (by simp)).trans c1, b1.grown hg0 (by omega) (fun j hj => by cases hj), Nat.le_refl _⟩
  case round =>
    obtain ⟨left, cnt, D, hrg, hcs, hout, hP, hL, hc, hnx, hsz⟩ := hrel
    have HP : Hid (SgnPart D left) := hP
    have HL : Hid (∀ kl, left kl = true → Maps.has D0 kl = true) := hL
    clear hP hL
    go_wp2_with (first
      | (at_next; refine wpList_next_ranges_ii _ rfl _ rfl 21 3 .i32 .i64 Tryz.lawRune Tryz.underlying21 Tryz.underlying3 (w.heap.size + 2) r n _ _ _ rfl hrg ?_ ?_)
      | go_in)
    · intro hc0 hl0
      go_wp2
      go_ret
      exact ⟨rfl, hc, ⟨_, D, by have := HS.out; omega, hout, HP.out.done hl0⟩, hnx⟩
    · intro x p w3 cnt1 hwx hwc hlx hat hrg1 hlt hg1 hs1 hen
      have hout1 := hout.kept hg1 (by simp; omega)
      have hc3 := (hg1.block (w.heap.size + 1) (by omega) (by simp; omega)).trans hc
      have hx : escOf x = some p := by
        have h1 := HL.out _ hlx
        rw [(HD.out x).1] at h1
        obtain ⟨q, hq⟩ := Option.isSome_iff_exists.1 h1
        have := (HD.out x).2 q hq
        rw [hat] at this
        rw [hq]; simpa using this.symm
      have HX : Hid (escOf x = some p) := hx
      have hr := esc_sign hx
      have hr1 := hr.1
      have hr2 := hr.2.1
      have hr3 := hr.2.2.2.1
      have hr4 := hr.2.2.2.2
      have hk : keyOf Tryz.prog 3 (.int .i64 p) = some (.int .i64 p) := Maps.keyOf_int_mk Tryz.underlying3 hwc
      have hv := plainElem_int (H := Unit) Tryz.underlying21 hwx
      clear hx hr hat
      have hcell : w3.cell? ⟨w.heap.size + 1, 2, none⟩ = some (.map (some w.heap.size)) := by simp [World.cell?, hc3]
      go_wp2_with (first
        | (at_mapUpdate; refine wpList_mapUpdate_own _ rfl _ _ _ 71 rfl 3 21 Tryz.lawIntS Tryz.underlying71 _ w.heap.size _ _ rfl hout1 (by have := HS.out; unfold maxLen; omega) _ _ _ rfl rfl hk _ [] hv ?_; intro w4 hout2 hg2; go_frame)
        | go_in)
      have hrg2 := hrg1.kept hg2 (fun e => by have := Option.some.inj e; omega) (fun e => by have := Option.some.inj e; omega)
      go_roundw
      case rel =>
        refine ⟨_, cnt1, _, hrg2, by omega, hout2.mono (by omega), HP.out.step HX.out, fun kl hkl => HL.out kl (by simp only [Bool.and_eq_true] at hkl; exact hkl.1), (hg2.block (w.heap.size + 1) (by omega) (by simp)).trans hc3,
          (hnx.grown hg1 hnx.size (fun j hj => by cases hj; omega)).grown hg2 (by have := hnx.size; omega) (fun j hj => by cases hj; exact Nat.le_refl _), by have := hg2.size; omega⟩
      case measure => rw [hrg2.left_eq, hrg.left_eq]; exact hlt


end Go.Proofs.YtbjohedenfindaaGreatDoor

namespace Go.Proofs.YtbjohedenfindaaGreatDoor
open Go.RowKit
open Go.Maps (Keyed)
set_option linter.unusedVariables false
set_option maxRecDepth 100000

set_option maxHeartbeats 2000000 in
theorem plain_any (c : Nat) (hc : c ≤ 1114111) (w : World) : Calls Tryz.prog 114 #[.int .i32 (c : Int)] w fun e w' => e = .returned (.bool (plainB c)) ∧ w' = w := by
  by_cases h1 : c < 32
  · have hv : plainB c = false := by unfold plainB; simp; omega
    rw [hv]; clear hv
    go_enter Tryz.func114, Tryz.ntmps114
    go_wp2
    go_ret
    simp
  · by_cases h2 : c ≤ 126
    · have hv : plainB c = true := by unfold plainB; simp; omega
      rw [hv]; clear hv
      go_enter Tryz.func114, Tryz.ntmps114
      go_wp2
      go_ret
      simp
    · by_cases h3 : c < 161
      · have hv : plainB c = false := by unfold plainB; simp; omega
        rw [hv]; clear hv
        go_enter Tryz.func114, Tryz.ntmps114
        go_wp2
        go_ret
        simp
        omega
      · by_cases h4 : c ≤ 591
        · have hv : plainB c = decide (c ≠ 173) := by
            have e1 : decide (c ≤ 126) = false := by simp; omega
            have e2 : decide (161 ≤ c) = true := by simp; omega
            have e3 : decide (c ≤ 591) = true := by simp; omega
            unfold plainB
            rw [e1, e2, e3]
            simp
          rw [hv]; clear hv
          by_cases h5 : c = 173
          · subst h5
            go_enter Tryz.func114, Tryz.ntmps114
            go_wp2
            go_ret
            simp
          · go_enter Tryz.func114, Tryz.ntmps114
            go_wp2
            go_ret
            have h6 : (c : Int) ≠ 173 := by omega
            have h7 : ¬ (c : Int) ≤ 126 := by omega
            simp [h5, h6, h7]
        · have hv : plainB c = false := by unfold plainB; simp; omega
          rw [hv]; clear hv
          go_enter Tryz.func114, Tryz.ntmps114
          go_wp2
          go_ret
          simp
          omega

theorem enc_bytes (c : Nat) (h : c < 2048) : Utf8.encode (c : Int) = bytesB (encB c) := by
  have hv : Utf8.valid (c : Int) = true := by unfold Utf8.valid; simp; omega
  unfold Utf8.encode encB
  simp only [hv, if_true, Int.toNat_natCast]
  split
  · rfl
  · rfl

/-- the latter half of point: a sign behind a stroke, or the number -/
def PtTail (c : Nat) : List Nat := match signOf c with | some b => [92, b] | none => [92, 117, 123] ++ hexT c ++ [125]

theorem pt_yes {sg : Int → Bool} {c : Nat} (h1 : plainB c = true) (h2 : c ≠ 96) (h3 : sg (c : Int) = false) : ptB sg c = encB c := by
  unfold ptB; rw [h1, h3]; simp [h2]
theorem pt_no {sg : Int → Bool} {c : Nat} (h : plainB c = false ∨ c = 96 ∨ sg (c : Int) = true) : ptB sg c = PtTail c := by
  have hn : ¬ (plainB c && decide (c ≠ 96) && !sg (c : Int)) = true := by rcases h with h | h | h <;> simp [h]
  unfold ptB
  rw [if_neg hn]
  rfl

/-- a writer in a world: its signs, and the tables of the library -/
structure WrEnv (w : World) (b M : Nat) : Prop where
  cell : w.cell? ⟨b, 2, none⟩ = some (.map (some M))
  sgn : SgnMap w M
  db : w.cell? ⟨13, 15, none⟩ = some (.int .u8 4)
  big : 16 ≤ w.heap.size
theorem SgnMap.below {w w' : World} {M B : Nat} (h : SgnMap w M) (hb : Below B w w') (hM : M < B) : SgnMap w' M := by
  obtain ⟨n, D, hn, ⟨es, clock, h1, h2⟩, hD⟩ := h
  exact ⟨n, D, hn, ⟨es, clock, (hb.block M hM).trans h1, h2⟩, hD⟩
theorem SgnMap.lt {w : World} {M : Nat} (h : SgnMap w M) : M < w.heap.size := by
  obtain ⟨n, D, hn, hown, hD⟩ := h
  exact hown.lt
theorem WrEnv.below {w w' : World} {b M : Nat} (h : WrEnv w b M) (hb : Below w.heap.size w w') (hbl : b < w.heap.size) : WrEnv w' b M :=
  ⟨(hb.cell (p := ⟨b, 2, none⟩) hbl).trans h.cell, h.sgn.below hb h.sgn.lt, (hb.cell (p := ⟨13, 15, none⟩) (by show 13 < _; have := h.big; omega)).trans h.db, by have := h.big; have := hb.size; omega⟩

theorem Tryz.zeroRuneS (w : World) : (zeroValue 21).run Tryz.prog w = .ok (.int .i32 0) w := by kernel_rfl
set_option maxHeartbeats 4000000 in
theorem wpoint_any {w : World} {b M : Nat} (hE : WrEnv w b M) (hb : b < w.heap.size) (S : ByteArray) (sg : Int → Bool) (hs : SignsOf S sg) (c : Nat) (hc : c ≤ 1114111) :
    Calls Tryz.prog 86 #[.pointer (some ⟨b, 0, none⟩), .int .i64 (c : Int), .string S] w fun e w' => e = .returned (.string (bytesB (ptB sg c))) ∧ Below w.heap.size w w' := by
  have HPl : Hid (∀ w', Calls Tryz.prog 114 #[.int .i32 (c : Int)] w' fun e w'' => e = .returned (.bool (plainB c)) ∧ w'' = w') := plain_any c hc
  have HCo : Hid (∀ w', Calls Tryz.prog 115 #[.string S, .int .i32 (c : Int)] w' fun e w'' => e = .returned (.bool (sg (c : Int))) ∧ Below w'.heap.size w' w'') := con_any S sg hs c (by omega) (by omega)
  by_cases h1 : plainB c = true ∧ c ≠ 96 ∧ sg (c : Int) = false
  · obtain ⟨g1, g2, g3⟩ := h1
    rw [pt_yes g1 g2 g3, ← enc_bytes c (by simp only [plainB, Bool.or_eq_true, Bool.and_eq_true, decide_eq_true_eq] at g1; omega)]
    rw [g1] at HPl
    rw [g3] at HCo
    have g4 : (c : Int) ≠ 96 := by omega
    have g5 : ((c : Int) != 96) = true := by rw [bne_iff_ne]; exact g4
    clear g1 g3 hE
    go_enter Tryz.func86, Tryz.ntmps86
    go_wp2_with (first | (go_at_call 114; refine (HPl.out _).mono ?_; rintro e w' ⟨rfl, rfl⟩) | (go_at_call 115; refine (HCo.out _).mono ?_; rintro e w1 ⟨rfl, hb1⟩))
    go_ret
    exact ⟨rfl, hb1⟩
  · have hcond : plainB c = false ∨ (plainB c = true ∧ c = 96) ∨ (plainB c = true ∧ c ≠ 96 ∧ sg (c : Int) = true) := by
      cases e1 : plainB c
      · exact .inl rfl
      · by_cases e2 : c = 96
        · exact .inr (.inl ⟨rfl, e2⟩)
        · refine .inr (.inr ⟨rfl, e2, ?_⟩)
          cases e3 : sg (c : Int)
          · exact absurd ⟨e1, e2, e3⟩ h1
          · rfl
    rw [pt_no (by rcases hcond with h | h | h; exact .inl h; exact .inr (.inl h.2); exact .inr (.inr h.2.2))]
    have hk : keyOf Tryz.prog 3 (.int .i64 (c : Int)) = some (.int .i64 (c : Int)) := Maps.keyOf_int_mk Tryz.underlying3 (WalkArith.wf_i64 (by omega))
    have HK : Hid (∀ w', Below w.heap.size w w' → WrEnv w' b M) := fun w' h => hE.below h hb
    clear h1 hE
    cases hsg : signOf c with
    | some q =>
      have hP : PtTail c = [92, q] := by unfold PtTail; rw [hsg]
      rw [hP]
      have hq := (sign_esc hsg).2
      have HL : Hid (∀ w', Below w.heap.size w w' → ∃ n D, w'.ownsMap (H := Unit) Tryz.prog 3 (plainElem Tryz.prog 21) M n D ∧ Maps.has D (.int .i64 (c : Int)) = true ∧ D.atKey (.int .i64 (c : Int)) (.lit (.int .i32 0)) = .lit (.int .i32 (q : Int))) := fun w' h => by
        obtain ⟨n, D, hn, hown, hD⟩ := (HK.out w' h).sgn
        exact ⟨n, D, hown, by rw [(hD c).1, hsg]; rfl, (hD c).2 q hsg⟩
      have hen : Utf8.encode (q : Int) = bytesB [q] := by rw [enc_bytes q (by omega)]; unfold encB; rw [if_pos hq]
      have hsz : (Utf8.encode (q : Int)).size ≤ 4 := by rw [hen, bytesB_size]; simp
      have HEN : Hid (bytesB [92, q] = (⟨#[92]⟩ : ByteArray) ++ Utf8.encode (q : Int)) := by show _ = _; rw [hen, show (⟨#[92]⟩ : ByteArray) = bytesB [92] from rfl, bytesB_append]; rfl
      generalize hT : bytesB [92, q] = T at *
      generalize hU : Utf8.encode (q : Int) = U at *
      clear hP hsg hen hT
      rcases hcond with g1 | ⟨g1, g2⟩ | ⟨g1, g2, g3⟩
      · rw [g1] at HPl
        clear g1 HCo
        obtain ⟨n, D, hown, hh, hat⟩ := HL.out w (Below.refl _ _)
        have hcell := (HK.out w (Below.refl _ _)).cell
        have HH : Hid (Maps.has D (.int .i64 (c : Int)) = true) := hh
        have HA : Hid (D.atKey (.int .i64 (c : Int)) (.lit (.int .i32 0)) = .lit (.int .i32 (q : Int))) := hat
        clear hh hat
        go_enter Tryz.func86, Tryz.ntmps86
        go_wp2_with (first | (go_at_call 114; refine (HPl.out _).mono ?_; rintro e w' ⟨rfl, rfl⟩) | (at_lookup; refine wpList_lookup_own_ok_int _ rfl _ _ 71 rfl 3 21 .i32 Tryz.lawIntS Tryz.underlying71 Tryz.underlying21 (Tryz.zeroRuneS _) M n D rfl hown _ _ rfl hk ?_; intro z hz hwz; rw [HH.out]; obtain rfl : z = (q : Int) := by (have := hz.symm.trans HA.out; simpa using this)))
        go_ret
        exact ⟨by rw [HEN.out]; rfl, Below.refl _ _⟩
      · rw [g1] at HPl
        have g5 : ((c : Int) != 96) = false := by rw [bne_eq_false_iff_eq]; omega
        clear g2
        clear g1 HCo
        obtain ⟨n, D, hown, hh, hat⟩ := HL.out w (Below.refl _ _)
        have hcell := (HK.out w (Below.refl _ _)).cell
        have HH : Hid (Maps.has D (.int .i64 (c : Int)) = true) := hh
        have HA : Hid (D.atKey (.int .i64 (c : Int)) (.lit (.int .i32 0)) = .lit (.int .i32 (q : Int))) := hat
        clear hh hat
        go_enter Tryz.func86, Tryz.ntmps86
        go_wp2_with (first | (go_at_call 114; refine (HPl.out _).mono ?_; rintro e w' ⟨rfl, rfl⟩) | (at_lookup; refine wpList_lookup_own_ok_int _ rfl _ _ 71 rfl 3 21 .i32 Tryz.lawIntS Tryz.underlying71 Tryz.underlying21 (Tryz.zeroRuneS _) M n D rfl hown _ _ rfl hk ?_; intro z hz hwz; rw [HH.out]; obtain rfl : z = (q : Int) := by (have := hz.symm.trans HA.out; simpa using this)))
        go_ret
        exact ⟨by rw [HEN.out]; rfl, Below.refl _ _⟩
      · rw [g1] at HPl
        rw [g3] at HCo
        have g5 : ((c : Int) != 96) = true := by rw [bne_iff_ne]; omega
        clear g1 g2 g3
        go_enter Tryz.func86, Tryz.ntmps86
        go_wp2_with (first | (go_at_call 114; refine (HPl.out _).mono ?_; rintro e w' ⟨rfl, rfl⟩))
        go_at_call 115
        refine (HCo.out _).mono ?_
        rintro e w1 ⟨rfl, hb1⟩
        obtain ⟨n, D, hown, hh, hat⟩ := HL.out w1 hb1
        have hcell := (HK.out w1 hb1).cell
        have HH : Hid (Maps.has D (.int .i64 (c : Int)) = true) := hh
        have HA : Hid (D.atKey (.int .i64 (c : Int)) (.lit (.int .i32 0)) = .lit (.int .i32 (q : Int))) := hat
        clear hh hat
        go_wp2_with (first | (at_lookup; refine wpList_lookup_own_ok_int _ rfl _ _ 71 rfl 3 21 .i32 Tryz.lawIntS Tryz.underlying71 Tryz.underlying21 (Tryz.zeroRuneS _) M n D rfl hown _ _ rfl hk ?_; intro z hz hwz; rw [HH.out]; obtain rfl : z = (q : Int) := by (have := hz.symm.trans HA.out; simpa using this)))
        go_ret
        exact ⟨by rw [HEN.out]; rfl, hb1⟩
    | none =>
      have hP : PtTail c = [92, 117, 123] ++ hexT c ++ [125] := by unfold PtTail; rw [hsg]
      rw [hP]
      have HL : Hid (∀ w', Below w.heap.size w w' → ∃ n D, w'.ownsMap (H := Unit) Tryz.prog 3 (plainElem Tryz.prog 21) M n D ∧ Maps.has D (.int .i64 (c : Int)) = false) := fun w' h => by
        obtain ⟨n, D, hn, hown, hD⟩ := (HK.out w' h).sgn
        exact ⟨n, D, hown, by rw [(hD c).1, hsg]; rfl⟩
      have hsz : (bytesB (hexT c)).size ≤ 8 := by
        have hl : 1 ≤ (hexT c).length ∧ (hexT c).length ≤ 6 := hexB_len 7 c 6 (by omega) (by omega) (by omega)
        rw [bytesB_size]; omega
      have HEN : Hid (bytesB ([92, 117, 123] ++ hexT c ++ [125]) = ((⟨#[92, 117, 123]⟩ : ByteArray) ++ bytesB (hexT c)) ++ (⟨#[125]⟩ : ByteArray)) := by show _ = _; rw [show (⟨#[92, 117, 123]⟩ : ByteArray) = bytesB [92, 117, 123] from rfl, show (⟨#[125]⟩ : ByteArray) = bytesB [125] from rfl, bytesB_append, bytesB_append]
      have HF : Hid (∀ w', Below w.heap.size w w' → Calls Tryz.prog 116 #[.int .i64 (c : Int), .int .i64 16] w' fun e w'' => e = .returned (.string (bytesB (hexT c))) ∧ Below w'.heap.size w' w'') := fun w' h => format_16 c hc w' (HK.out w' h).db (HK.out w' h).big
      generalize hT : bytesB ([92, 117, 123] ++ hexT c ++ [125]) = T at *
      generalize hU : bytesB (hexT c) = U at *
      clear hP hsg hT hU
      rcases hcond with g1 | ⟨g1, g2⟩ | ⟨g1, g2, g3⟩
      · rw [g1] at HPl
        clear g1 HCo
        obtain ⟨n, D, hown, hh⟩ := HL.out w (Below.refl _ _)
        have hcell := (HK.out w (Below.refl _ _)).cell
        have HH : Hid (Maps.has D (.int .i64 (c : Int)) = false) := hh
        clear hh
        go_enter Tryz.func86, Tryz.ntmps86
        go_wp2_with (first | (go_at_call 114; refine (HPl.out _).mono ?_; rintro e w' ⟨rfl, rfl⟩) | (at_lookup; refine wpList_lookup_own_ok_int _ rfl _ _ 71 rfl 3 21 .i32 Tryz.lawIntS Tryz.underlying71 Tryz.underlying21 (Tryz.zeroRuneS _) M n D rfl hown _ _ rfl hk ?_; intro z hz hwz; rw [HH.out]) | (go_at_call 116; refine (HF.out _ (Below.refl _ _)).mono ?_; rintro e w2 ⟨rfl, hb2⟩))
        go_ret
        exact ⟨by rw [HEN.out]; rfl, hb2⟩
      · rw [g1] at HPl
        have g5 : ((c : Int) != 96) = false := by rw [bne_eq_false_iff_eq]; omega
        clear g2
        clear g1 HCo
        obtain ⟨n, D, hown, hh⟩ := HL.out w (Below.refl _ _)
        have hcell := (HK.out w (Below.refl _ _)).cell
        have HH : Hid (Maps.has D (.int .i64 (c : Int)) = false) := hh
        clear hh
        go_enter Tryz.func86, Tryz.ntmps86
        go_wp2_with (first | (go_at_call 114; refine (HPl.out _).mono ?_; rintro e w' ⟨rfl, rfl⟩) | (at_lookup; refine wpList_lookup_own_ok_int _ rfl _ _ 71 rfl 3 21 .i32 Tryz.lawIntS Tryz.underlying71 Tryz.underlying21 (Tryz.zeroRuneS _) M n D rfl hown _ _ rfl hk ?_; intro z hz hwz; rw [HH.out]) | (go_at_call 116; refine (HF.out _ (Below.refl _ _)).mono ?_; rintro e w2 ⟨rfl, hb2⟩))
        go_ret
        exact ⟨by rw [HEN.out]; rfl, hb2⟩
      · rw [g1] at HPl
        rw [g3] at HCo
        have g5 : ((c : Int) != 96) = true := by rw [bne_iff_ne]; omega
        clear g1 g2 g3
        go_enter Tryz.func86, Tryz.ntmps86
        go_wp2_with (first | (go_at_call 114; refine (HPl.out _).mono ?_; rintro e w' ⟨rfl, rfl⟩))
        go_at_call 115
        refine (HCo.out _).mono ?_
        rintro e w1 ⟨rfl, hb1⟩
        obtain ⟨n, D, hown, hh⟩ := HL.out w1 hb1
        have hcell := (HK.out w1 hb1).cell
        have HH : Hid (Maps.has D (.int .i64 (c : Int)) = false) := hh
        clear hh
        go_wp2_with (first | (at_lookup; refine wpList_lookup_own_ok_int _ rfl _ _ 71 rfl 3 21 .i32 Tryz.lawIntS Tryz.underlying71 Tryz.underlying21 (Tryz.zeroRuneS _) M n D rfl hown _ _ rfl hk ?_; intro z hz hwz; rw [HH.out]) | (go_at_call 116; refine (HF.out _ hb1).mono ?_; rintro e w2 ⟨rfl, hb2⟩))
        go_ret
        exact ⟨by rw [HEN.out]; rfl, hb1.trans (hb2.mono hb1.size)⟩

end Go.Proofs.YtbjohedenfindaaGreatDoor
