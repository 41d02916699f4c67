/- Texts of the proof, put together: MFind, MFindB. -/
import Derived.Test.YtbjohedenfindaaGreatDoorPb31
import Derived.Deep.RegionHeld3
namespace Go.Proofs.YtbjohedenfindaaGreatDoor
open Go.RowKit
set_option linter.unusedVariables false
set_option maxRecDepth 100000

section
variable {zs : List Int} {Φ : Nat → Option Tm} {m : Nat}

/-- what find sees of a spot -/
structure Spot (Φ : Nat → Option Tm) (m : Nat) (w : World) (sb re : Nat) (t : Tm) (ka : Option Addr) (kc : Nat) : Prop where
  hsb : sb < w.heap.size
  ssb : Still Φ m sb
  hre : re < w.heap.size
  sre : Still Φ m re
  c0 : w.cell? ⟨sb, 0, none⟩ = some (.pointer (some ⟨re, 0, none⟩))
  c1 : w.cell? ⟨sb, 1, none⟩ = some (.slice ka t.kids.length kc)
  r0 : w.cell? ⟨re, 0, none⟩ = some (.int .i64 t.kind)
  r2 : w.cell? ⟨re, 2, none⟩ = some (.int .i64 t.mn)
  r3 : w.cell? ⟨re, 3, none⟩ = some (.int .i64 t.mx)
  cap : t.kids.length ≤ kc
  kid : ∀ j, j < t.kids.length → ∃ g off b1, ka = some ⟨g, off, none⟩ ∧ g < w.heap.size ∧ Still Φ m g ∧ w.cell? ⟨g, off + j, none⟩ = some (.pointer (some ⟨b1, 0, none⟩)) ∧ SP Φ m w (.pointer (some ⟨b1, 0, none⟩)) (t.kids.getD j nothT)
theorem seg_one (zs : List Int) (a n : Nat) (hn : a + n ≤ zs.length) (c : Int) : (zs.drop a).take n = [c] ↔ n = 1 ∧ zs.getD a 0 = c := by
  have h1 : ∀ ha : a < zs.length, (zs.drop a).take 1 = [zs.getD a 0] := fun ha => by
    rw [List.drop_eq_getElem_cons ha, List.getD_eq_getElem?_getD, List.getElem?_eq_getElem ha]; rfl
  constructor
  · intro h
    have hl := seg_len zs a n hn
    rw [h] at hl
    have e1 : n = 1 := by simpa using hl.symm
    subst e1
    rw [h1 (by omega)] at h
    injection h with h
    exact ⟨rfl, h⟩
  · rintro ⟨rfl, h⟩
    rw [h1 (by omega), h]
theorem bits_set {s : List Rg} {a : Nat} (hzs : ∀ c ∈ zs, 0 ≤ c ∧ c ≤ 1114111) (ha : a ≤ zs.length) : (a < zs.length → hasB s (zs.getD a 0) = true → BitsOf (InL zs (setT s) a) (2 ^ 1)) ∧ ((a < zs.length → hasB s (zs.getD a 0) = false) → BitsOf (InL zs (setT s) a) 0) := by
  have hb : a < zs.length → hasB s (zs.getD a 0) = hasL s (zs.getD a 0) := fun h => by
    have := hzs _ (show zs.getD a 0 ∈ zs by rw [List.getD_eq_getElem?_getD, List.getElem?_eq_getElem h]; exact List.getElem_mem h)
    generalize zs.getD a 0 = c at *
    simp [hasB, this]
  have hin : ∀ n, InL zs (setT s) a n ↔ n = 1 ∧ a < zs.length ∧ hasL s (zs.getD a 0) = true := fun n => by
    constructor
    · rintro ⟨h1, h2⟩
      obtain ⟨c, h3, h4⟩ := (M_set s _).1 h2
      obtain ⟨h5, h6⟩ := (seg_one zs a n h1 c).1 h3
      subst h6; exact ⟨h5, by omega, h4⟩
    · rintro ⟨rfl, h1, h2⟩
      exact ⟨by omega, (M_set s _).2 ⟨_, (seg_one zs a 1 (by omega) _).2 ⟨rfl, rfl⟩, h2⟩⟩
  refine ⟨fun h1 h2 n => ?_, fun h n => ?_⟩
  · rw [hin, Nat.testBit_two_pow]
    rw [hb h1] at h2
    simp only [decide_eq_true_eq]
    exact ⟨fun e => ⟨e.symm, h1, h2⟩, fun e => e.1.symm⟩
  · rw [hin]
    simp only [Nat.zero_testBit, Bool.false_eq_true, false_iff, not_and]
    rintro _ h1 h2
    have := h h1
    rw [hb h1, h2] at this; simp at this

set_option maxHeartbeats 4000000 in
theorem find_set {s : List Rg} (hz : zs.length ≤ 40) (hzs : ∀ c ∈ zs, 0 ≤ c ∧ c ≤ 1114111) {ok : Nat → Prop} {w : World} {sb re a kept kc sn sc : Nat} {ka sa : Option Addr} (hS : Spot Φ m w sb re (setT s) ka kc) (r1 : w.cell? ⟨re, 1, none⟩ = some (.slice sa sn sc)) (hR : Rngs w (.slice sa sn sc) s) (hl : s.length ≤ 1000000) (hMS : MS zs Φ m ok w kept) (ha : a ≤ zs.length) :
    Calls Tryz.prog 61 #[.pointer (some ⟨m, 0, none⟩), .pointer (some ⟨sb, 0, none⟩), .int .i64 a] w fun e w' => Gives zs Φ m ok w (InL zs (setT s) a) e w' := by
  obtain ⟨b1, b0⟩ := bits_set (s := s) hzs ha
  have HB1 : Hid (a < zs.length → hasB s (zs.getD a 0) = true → BitsOf (InL zs (setT s) a) (2 ^ 1)) := b1
  have HB0 : Hid ((a < zs.length → hasB s (zs.getD a 0) = false) → BitsOf (InL zs (setT s) a) 0) := b0
  have HMS : Hid (MS zs Φ m ok w kept) := hMS
  obtain ⟨ta, tc, ht1, ht2⟩ := hMS.text
  have c0 := hS.c0
  have r0 : w.cell? ⟨re, 0, none⟩ = some (.int .i64 1) := hS.r0
  have mt : w.cell? ⟨m, 0, none⟩ = some (.slice ta zs.length tc) := by simp [World.cell?, ht1]
  have HJ : Hid (∀ w1, Below w.heap.size w w1 → Calls Tryz.prog 93 #[.int .i64 1] w1 fun e w' => ∃ v, e = .returned v ∧ OwnL w' w1.heap.size v (2 ^ 1) ∧ Below w1.heap.size w1 w') := fun w1 _ => justOne_any 1 (by omega)
  clear b1 b0 hMS ht1
  generalize InL zs (setT s) a = Q at *
  by_cases hlt : a < zs.length
  · obtain ⟨g, rfl, hg, hgo, hu⟩ := ht2 a hlt
    have HHas : Hid (∀ w1, Below w.heap.size w w1 → Calls Tryz.prog 92 #[.slice sa sn sc, .int .i64 (zs.getD a 0)] w1 fun e w' => e = .returned (.bool (hasB s (zs.getD a 0))) ∧ Below w1.heap.size w1 w') := fun w1 hb => by
      refine phas_any _ _ s w1 hl ?_
      rcases hR with h | ⟨b, off, c, h1, h2, h3⟩
      · exact .inl h
      · exact .inr ⟨b, off, c, h1, Nat.lt_of_lt_of_le h2 hb.size, fun j hj => ⟨(hb.cell (p := ⟨b, off + j * 2, none⟩) h2).trans (h3 j hj).1, (hb.cell (p := ⟨b, off + j * 2 + 1, none⟩) h2).trans (h3 j hj).2⟩⟩
    have HB1' : Hid (hasB s (zs.getD a 0) = true → BitsOf Q (2 ^ 1)) := fun h => HB1.out hlt h
    have HB0' : Hid (hasB s (zs.getD a 0) = false → BitsOf Q 0) := fun h => HB0.out fun _ => h
    generalize hasB s (zs.getD a 0) = hb at *
    generalize zs.getD a 0 = pt at *
    have hsb := hS.hsb
    have hre := hS.hre
    clear HB1 HB0 ht2 hS hR
    have hroom : decide ((zs.length : Int) - (a : Int) > 0) = true := by simp; omega
    have hi0 : (0 : Int) ≤ (a : Int) := by omega
    have hi1 : (a : Int) < (zs.length : Int) := by omega
    have HK1 : Hid (∀ w4, Below w.drew.heap.size w.drew w4 → w4.cell? ⟨sb, 0, none⟩ = some (.pointer (some ⟨re, 0, none⟩)) ∧ w4.cell? ⟨re, 1, none⟩ = some (.slice sa sn sc) ∧ w4.cell? ⟨m, 0, none⟩ = some (.slice (some ⟨g, 0, none⟩) zs.length tc) ∧ w4.cell? ⟨g, a, none⟩ = some (.int .i64 pt)) := fun w4 hb => ⟨(hb.cell (p := ⟨sb, 0, none⟩) hsb).trans c0, (hb.cell (p := ⟨re, 1, none⟩) hre).trans r1, (hb.cell (p := ⟨m, 0, none⟩) HMS.out.mlt).trans mt, (hb.cell (p := ⟨g, a, none⟩) hg).trans hu⟩
    go_enter Tryz.func61, Tryz.ntmps61
    go_wp2
    go_region_held3 (fun w' => w'.cell? ⟨sb, 0, none⟩ = some (.pointer (some ⟨re, 0, none⟩)) ∧ w'.cell? ⟨re, 1, none⟩ = some (.slice sa sn sc) ∧ w'.cell? ⟨m, 0, none⟩ = some (.slice (some ⟨g, 0, none⟩) zs.length tc) ∧ w'.cell? ⟨g, a, none⟩ = some (.int .i64 pt)) (go_keep) ((go_at_call 92; refine (HHas.out _ ?_).mono ?_; exact below_drew1 (Below.refl _ _); rintro e w4 ⟨rfl, hb4⟩; have f1 := HK1.out w4 hb4; obtain ⟨f1, f2, f3, f4⟩ := f1))
    all_goals
      have hbw : Below w.heap.size w w4 := (below_drew1 (Below.refl w.heap.size w)).trans hb4
      have HM4 : Hid (MS zs Φ m ok w4 kept) := HMS.out.below hbw
      clear f1 f2 f3 f4 c0 r0 r1 mt hu
      cases hbb : hb
      · subst hbb
        have HQ := HB0'.out rfl
        go_wp2
        go_ret
        exact ⟨_, 0, kept, rfl, .inl ⟨rfl, _, _, rfl⟩, HQ, HM4.out.imp (fun b _ h => .inl h) (fun b h => HMS.out.orNew b h), Fr.below hbw⟩
      · subst hbb
        have HQ := HB1'.out rfl
        have HJJ := HJ.out w4 hbw
        go_wp2_with fail
        refine HJJ.mono ?_
        rintro e w5 ⟨v5, rfl, hO5, hb5⟩
        have HO5 : Hid (OwnL w5 w4.heap.size v5 (2 ^ 1)) := hO5
        have hbw5 := hbw.trans (hb5.mono hbw.size)
        clear hO5 HJJ
        go_wp2
        go_ret
        exact ⟨_, 2 ^ 1, kept, rfl, HO5.out.len.imp (fun b h => .inr (Nat.le_trans hbw.size h)), HQ, (HM4.out.below hb5).imp (fun b _ h => .inl h) (fun b h => HMS.out.orNew b h), Fr.below hbw5⟩
  · have HQ := HB0.out (fun h => absurd h hlt)
    have hroom : decide ((zs.length : Int) - (a : Int) > 0) = false := by simp; omega
    clear HB1 HB0 ht2 hS hR HJ
    go_enter Tryz.func61, Tryz.ntmps61
    go_wp2
    go_quiet (fail)
    go_wp2
    go_ret
    exact ⟨_, 0, kept, rfl, .inl ⟨rfl, _, _, rfl⟩, HQ, (HMS.out.below (below_drewN _ _)).imp (fun b _ h => .inl h) (fun b h => HMS.out.orNew b h), Fr.below (below_drewN _ _)⟩
end
end Go.Proofs.YtbjohedenfindaaGreatDoor

namespace Go.Proofs.YtbjohedenfindaaGreatDoor
open Go.RowKit
set_option linter.unusedVariables false
set_option maxRecDepth 100000

theorem rowM_snoc : ∀ (l : List (List Int → Prop)) (X : List Int → Prop) (w : List Int), rowM (l ++ [X]) w ↔ ∃ a b, w = a ++ b ∧ rowM l a ∧ X b
  | [], X, w => by
    simp only [List.nil_append, rowM]
    constructor
    · rintro ⟨a, b, h1, h2, h3⟩; subst h3; exact ⟨[], a, by simpa using h1, rfl, h2⟩
    · rintro ⟨a, b, h1, h2, h3⟩; subst h2; exact ⟨b, [], by simpa using h1, h3, rfl⟩
  | Y :: l, X, w => by
    simp only [List.cons_append, rowM]
    constructor
    · rintro ⟨a, b, h1, h2, h3⟩
      obtain ⟨c, d, h4, h5, h6⟩ := (rowM_snoc l X b).1 h3
      exact ⟨a ++ c, d, by rw [h1, h4]; simp, ⟨a, c, rfl, h2, h5⟩, h6⟩
    · rintro ⟨a, b, h1, ⟨c, d, h2, h3, h4⟩, h5⟩
      exact ⟨c, d ++ b, by rw [h1, h2]; simp, h3, (rowM_snoc l X _).2 ⟨d, b, rfl, h4, h5⟩⟩
section
variable {zs : List Int} {Φ : Nat → Option Tm} {m : Nat}

def RowL (zs : List Int) (l : List Tm) (a j n : Nat) : Prop := a + n ≤ zs.length ∧ rowM ((l.take j).map M) ((zs.drop a).take n)
theorem row_next {l : List Tm} {a j : Nat} (hj : j < l.length) (n : Nat) : (∃ k, k ≤ n ∧ RowL zs l a j k ∧ InL zs (l.getD j nothT) (a + k) (n - k)) ↔ RowL zs l a (j + 1) n := by
  have e : (l.take (j + 1)).map M = (l.take j).map M ++ [M (l.getD j nothT)] := by
    rw [List.take_succ_eq_append_getElem hj, List.map_append]; simp [hj]
  unfold RowL
  rw [e]
  constructor
  · rintro ⟨k, h1, h2, h3⟩
    have hn : a + n ≤ zs.length := by have := h3.1; omega
    exact ⟨hn, (rowM_snoc _ _ _).2 ⟨_, _, seg_split zs a k n h1 hn, h2.2, h3.2⟩⟩
  · rintro ⟨h1, h2⟩
    obtain ⟨x, y, e, h3, h4⟩ := (rowM_snoc _ _ _).1 h2
    obtain ⟨p1, p2, p3⟩ := seg_parts zs a n h1 e
    refine ⟨x.length, p1, ⟨by omega, by rw [← p2]; exact h3⟩, by omega, by rw [← p3]; exact h4⟩
theorem row_zero {l : List Tm} {a : Nat} (ha : a ≤ zs.length) : BitsOf (RowL zs l a 0) (2 ^ 0) := by
  have := pow_zero (t := nothT) (zs := zs) ha
  exact this.congr fun n => by simp only [PowL, RowL, List.take_zero, List.map_nil, powM, rowM]
theorem row_all {l : List Tm} {a : Nat} (n : Nat) : RowL zs l a l.length n ↔ InL zs (sevT 2 l) a n := by
  unfold RowL InL
  rw [List.take_length, sevT, M_row]

set_option maxHeartbeats 4000000 in
theorem find_row {l : List Tm} (hz : zs.length ≤ 40) (hF : ∀ x ∈ l, FromC zs Φ m x) (hln : l.length ≤ 10000000) {ok : Nat → Prop} {w : World} {sb re a kept kc : Nat} {ka : Option Addr} (hS : Spot Φ m w sb re (sevT 2 l) ka kc) (hMS : MS zs Φ m ok w kept) (ha : a ≤ zs.length) :
    Calls Tryz.prog 61 #[.pointer (some ⟨m, 0, none⟩), .pointer (some ⟨sb, 0, none⟩), .int .i64 a] w fun e w' => Gives zs Φ m ok w (InL zs (sevT 2 l) a) e w' := by
  have HMS : Hid (MS zs Φ m ok w kept) := hMS
  obtain ⟨ta, tc, ht1, _⟩ := hMS.text
  have c0 := hS.c0
  have c1 : w.cell? ⟨sb, 1, none⟩ = some (.slice ka l.length kc) := hS.c1
  have r0 : w.cell? ⟨re, 0, none⟩ = some (.int .i64 2) := hS.r0
  have mt : w.cell? ⟨m, 0, none⟩ = some (.slice ta zs.length tc) := by simp [World.cell?, ht1]
  have HJ1 : Hid (Calls Tryz.prog 93 #[.int .i64 0] w fun e w' => ∃ v, e = .returned v ∧ OwnL w' w.heap.size v (2 ^ 0) ∧ Below w.heap.size w w') := justOne_any 0 (by omega)
  have HCell : Hid (∀ w', Fr Φ m w w' → w'.cell? ⟨sb, 1, none⟩ = some (.slice ka l.length kc)) := fun w' hf => (hf.cell hS.hsb hS.ssb).trans c1
  have HK : Hid (∀ j, j < l.length → ∃ g off b1, ka = some ⟨g, off, none⟩ ∧ (∀ w', Fr Φ m w w' → w'.cell? ⟨g, off + j, none⟩ = some (.pointer (some ⟨b1, 0, none⟩))) ∧ ∀ (okA : Nat → Prop) (wr : World) (lv : Value) (N kp : Nat), Fr Φ m w wr → OwnL wr w.heap.size lv N → BitsOf (RowL zs l a j) N → MS zs Φ m okA wr kp → Calls Tryz.prog 94 #[.pointer (some ⟨m, 0, none⟩), lv, .pointer (some ⟨b1, 0, none⟩), .int .i64 a] wr fun e w' => GivesO zs Φ m okA wr (RowL zs l a (j + 1)) e w') := fun j hj => by
    obtain ⟨g, off, b1, h1, h2, h3, h4, h5⟩ := hS.kid j hj
    refine ⟨g, off, b1, h1, fun w' hf => (hf.cell h2 h3).trans h4, fun okA wr lv N kp hf hO hB hM => ?_⟩
    have h := mbehind_any hz (hF _ (getD_mem l j hj)) (h5.fr hf) hM (hO.len.imp fun b hb => HMS.out.fresh hb) hB (fun n hn => hn.1)
    refine h.mono fun e w' hG => ?_
    obtain ⟨v, N2, k2, h1, h2, h3, h4, h5⟩ := hG.all
    exact ⟨v, N2, k2, h1, h2, h3.congr (row_next hj), h4, h5⟩
  have HEnd : Hid (∀ N, BitsOf (RowL zs l a l.length) N → BitsOf (InL zs (sevT 2 l) a) N) := fun N h => h.congr row_all
  have HR0 : Hid (BitsOf (RowL zs l a 0) (2 ^ 0)) := row_zero ha
  generalize InL zs (sevT 2 l) a = Q at *
  clear hF hMS ht1 hS
  go_enter Tryz.func61, Tryz.ntmps61
  go_wp2_with fail
  refine HJ1.out.mono ?_
  rintro e w1 ⟨v1, rfl, hO1, hb1⟩
  have d1 := HCell.out w1 (Fr.below hb1)
  have HO1 : Hid (OwnL w1 w.heap.size v1 (2 ^ 0)) := hO1
  have HB1 : Hid (Below w.heap.size w w1) := hb1
  have hlt1 := hO1.lt
  have HM1 : Hid (MS zs Φ m (fun b => orNew ok w b ∧ v1.ownBlock ≠ some b) w1 kept) := ((HMS.out.imp (ok' := fun b => ok b ∧ b < w.heap.size) (fun b hb hk => ⟨hk, hb⟩) (fun b hb => HMS.out.still b hb.1)).below hb1).imp (fun b _ hb => ⟨.inl hb.1, fun e => by
    have := (hlt1 b e).1; have := hb.2; omega⟩) fun b hb => HMS.out.orNew b hb.1
  clear hO1 hb1 c0 c1 r0 mt hlt1
  go_wp2
  go_loopw [8, 61, 10] (fun ov iv kv wr => ∃ i : Nat, i ≤ l.length ∧ iv = .int .i64 i ∧ ∃ N kp, OwnL wr w.heap.size ov N ∧ BitsOf (RowL zs l a i) N ∧ MS zs Φ m (fun b => orNew ok w b ∧ ov.ownBlock ≠ some b) wr kp ∧ Fr Φ m w wr) (fun _ iv _ _ => l.length - (intOf iv).toNat)
  case atStart => exact ⟨0, Nat.zero_le _, rfl, _, kept, HO1.out, HR0.out, HM1.out, Fr.below HB1.out⟩
  case round =>
    obtain ⟨i, hi, rfl, N, kp, hO, hB, hM, hf⟩ := hrel
    clear HO1 HB1 HM1 d1
    by_cases hlt : i < l.length
    · obtain ⟨g, off, b1, rfl, hu, hc⟩ := HK.out i hlt
      have hu' := hu wr hf
      have HC : Hid (Calls Tryz.prog 94 #[.pointer (some ⟨m, 0, none⟩), u8, .pointer (some ⟨b1, 0, none⟩), .int .i64 a] wr fun e w' => GivesO zs Φ m (fun b => orNew ok w b ∧ u8.ownBlock ≠ some b) wr (RowL zs l a (i + 1)) e w') := hc _ wr u8 N kp hf hO hB hM
      have HNN : Hid (∀ w2 v2 kp2, MS zs Φ m (fun b => orNew (fun b => orNew ok w b ∧ u8.ownBlock ≠ some b) wr b ∧ Value.ownBlock v2 ≠ some b) w2 kp2 → MS zs Φ m (fun b => orNew ok w b ∧ Value.ownBlock v2 ≠ some b) w2 kp2) := fun w2 v2 kp2 h => h.imp (fun b _ hb => ⟨hb.1.elim (fun h => h.1) fun h => .inr (Nat.le_trans hf.size h), hb.2⟩) fun b hb => HMS.out.orNew b hb.1
      clear hO hB hM hu hc
      go_wp2_with fail
      refine HC.out.mono ?_
      intro e w2 hG
      obtain ⟨v2, N2, kp2, rfl, hO2, hB2, hM2, hf2⟩ := hG.all
      have HO2 : Hid (OwnL w2 w.heap.size v2 N2) := hO2.base hf.size
      have HB2 : Hid (BitsOf (RowL zs l a (i + 1)) N2) := hB2
      have HM2 : Hid (MS zs Φ m (fun b => orNew ok w b ∧ Value.ownBlock v2 ≠ some b) w2 kp2) := HNN.out w2 v2 kp2 hM2
      have hf12 := hf.trans hf2
      clear hG hO2 hB2 hM2 HNN
      go_wp2
      go_roundw
      case rel => exact ⟨i + 1, by omega, by go_num, N2, kp2, HO2.out, HB2.out, HM2.out, hf12⟩
      case measure => simp [intOf]; omega
    · have hi2 : i = l.length := by omega
      subst hi2
      have HO : Hid (OwnL wr w.heap.size u8 N) := hO
      have HB2 : Hid (BitsOf Q N) := HEnd.out N hB
      have HM : Hid (MS zs Φ m (fun b => orNew ok w b ∧ u8.ownBlock ≠ some b) wr kp) := hM
      clear hO hB hM HEnd
      go_wp2
      go_ret
      exact ⟨_, N, kp, rfl, HO.out.len.imp (fun b h => .inr h), HB2.out, HM.out.imp (fun b _ h => h.1) (fun b h => HMS.out.orNew b h), hf⟩

/-! ## One of several -/
def OrL (zs : List Int) (l : List Tm) (a j n : Nat) : Prop := ∃ i, i < j ∧ InL zs (l.getD i nothT) a n
theorem or_next {l : List Tm} {a j N N2 : Nat} (h : BitsOf (OrL zs l a j) N) (h2 : BitsOf (InL zs (l.getD j nothT) a) N2) : BitsOf (OrL zs l a (j + 1)) (N ||| N2 * 2 ^ 0) := by
  intro n
  rw [Nat.pow_zero, Nat.mul_one, Nat.testBit_or, Bool.or_eq_true, h n, h2 n]
  constructor
  · rintro (⟨i, h1, h2⟩ | h1)
    · exact ⟨i, by omega, h2⟩
    · exact ⟨j, by omega, h1⟩
  · rintro ⟨i, h1, h3⟩
    by_cases e : i = j
    · subst e; exact .inr h3
    · exact .inl ⟨i, by omega, h3⟩
theorem or_all {l : List Tm} {a : Nat} (n : Nat) : OrL zs l a l.length n ↔ InL zs (sevT 3 l) a n := by
  unfold OrL InL
  rw [sevT, M_or]
  constructor
  · rintro ⟨i, h1, h2, h3⟩; exact ⟨h2, _, getD_mem l i h1, h3⟩
  · rintro ⟨h1, x, hx, h2⟩
    obtain ⟨i, hi, rfl⟩ := List.getElem_of_mem hx
    exact ⟨i, hi, h1, by simpa [hi] using h2⟩

set_option maxHeartbeats 4000000 in
theorem find_or {l : List Tm} (hz : zs.length ≤ 40) (hF : ∀ x ∈ l, FromC zs Φ m x) (hln : l.length ≤ 10000000) {ok : Nat → Prop} {w : World} {sb re a kept kc : Nat} {ka : Option Addr} (hS : Spot Φ m w sb re (sevT 3 l) ka kc) (hMS : MS zs Φ m ok w kept) (ha : a ≤ zs.length) :
    Calls Tryz.prog 61 #[.pointer (some ⟨m, 0, none⟩), .pointer (some ⟨sb, 0, none⟩), .int .i64 a] w fun e w' => Gives zs Φ m ok w (InL zs (sevT 3 l) a) e w' := by
  have HMS : Hid (MS zs Φ m ok w kept) := hMS
  obtain ⟨ta, tc, ht1, _⟩ := hMS.text
  have c0 := hS.c0
  have c1 : w.cell? ⟨sb, 1, none⟩ = some (.slice ka l.length kc) := hS.c1
  have r0 : w.cell? ⟨re, 0, none⟩ = some (.int .i64 3) := hS.r0
  have mt : w.cell? ⟨m, 0, none⟩ = some (.slice ta zs.length tc) := by simp [World.cell?, ht1]
  have HK : Hid (∀ j, j < l.length → ∃ g off b1, ka = some ⟨g, off, none⟩ ∧ (∀ w', Fr Φ m w w' → w'.cell? ⟨g, off + j, none⟩ = some (.pointer (some ⟨b1, 0, none⟩))) ∧ ∀ (okA : Nat → Prop) (wr : World) (kp : Nat), Fr Φ m w wr → MS zs Φ m okA wr kp → Calls Tryz.prog 33 #[.pointer (some ⟨m, 0, none⟩), .pointer (some ⟨b1, 0, none⟩), .int .i64 a] wr fun e w' => Gives zs Φ m okA wr (InL zs (l.getD j nothT) a) e w') := fun j hj => by
    obtain ⟨g, off, b1, h1, h2, h3, h4, h5⟩ := hS.kid j hj
    exact ⟨g, off, b1, h1, fun w' hf => (hf.cell h2 h3).trans h4, fun okA wr kp hf hM => hF _ (getD_mem l j hj) okA wr _ a kp (h5.fr hf) hM ha⟩
  have HEnd : Hid (∀ N, BitsOf (OrL zs l a l.length) N → BitsOf (InL zs (sevT 3 l) a) N) := fun N h => h.congr or_all
  generalize InL zs (sevT 3 l) a = Q at *
  clear hF hMS ht1 hS
  go_enter Tryz.func61, Tryz.ntmps61
  go_wp2
  go_loopw [11, 79, 13] (fun ov iv kv wr => ∃ i : Nat, i ≤ l.length ∧ iv = .int .i64 i ∧ ∃ N kp, OwnL wr w.heap.size ov N ∧ BitsOf (OrL zs l a i) N ∧ MS zs Φ m (fun b => orNew ok w b ∧ ov.ownBlock ≠ some b) wr kp ∧ Fr Φ m w wr) (fun _ iv _ _ => l.length - (intOf iv).toNat)
  case atStart => exact ⟨0, Nat.zero_le _, rfl, 0, kept, ⟨[], .inl ⟨rfl, rfl⟩, World.ownsRow_nil _ _ _ _⟩, (fun n => by simp [OrL]), HMS.out.imp (fun b _ hb => ⟨.inl hb, by simp [Value.ownBlock]⟩) (fun b hb => HMS.out.orNew b hb.1), Fr.refl _⟩
  case round =>
    obtain ⟨i, hi, rfl, N, kp, hO, hB, hM, hf⟩ := hrel
    clear c0 c1 r0 mt
    by_cases hlt : i < l.length
    · obtain ⟨g, off, b1, rfl, hu, hc⟩ := HK.out i hlt
      have hu' := hu wr hf
      have HC : Hid (Calls Tryz.prog 33 #[.pointer (some ⟨m, 0, none⟩), .pointer (some ⟨b1, 0, none⟩), .int .i64 a] wr fun e w' => Gives zs Φ m (fun b => orNew ok w b ∧ u11.ownBlock ≠ some b) wr (InL zs (l.getD i nothT) a) e w') := hc _ wr kp hf hM
      have hltO := hO.lt
      have hStO : ∀ k, u11.ownBlock = some k → Still Φ m k := fun k hk => HMS.out.fresh (hltO k hk).1
      have hN64 : N < 2 ^ 64 := Nat.lt_trans (hB.lt fun n hn => by obtain ⟨_, _, h⟩ := hn; have := h.1; omega) (by decide)
      have HJ : Hid (∀ w2 v N2, Fr Φ m wr w2 → LenV (orNew (fun b => orNew ok w b ∧ u11.ownBlock ≠ some b) wr) w2 v N2 → BitsOf (InL zs (l.getD i nothT) a) N2 → Calls Tryz.prog 95 #[u11, v, .int .i64 0] w2 fun e w' => Lens w2 w.heap.size u11.ownBlock (N ||| N2 * 2 ^ 0) e w') := fun w2 v N2 hf2 hv hb2 => by
        have hN2 : N2 < 2 ^ 64 := Nat.lt_trans (hb2.lt fun n hn => by have := hn.1; omega) (by decide)
        exact ljoin_any 0 (Nat.le_trans hf.size hf2.size) (by omega) hN64 (by simpa using hN2) (hO.fr hf2 hStO) hv
      have HMM : Hid (∀ w2 w3 v3 kp2, Fr Φ m wr w2 → MS zs Φ m (orNew (fun b => orNew ok w b ∧ u11.ownBlock ≠ some b) wr) w2 kp2 → w2.grownBy w3 u11.ownBlock → (∀ k, v3.ownBlock = some k → u11.ownBlock = some k ∨ w2.heap.size ≤ k) → MS zs Φ m (fun b => orNew ok w b ∧ Value.ownBlock v3 ≠ some b) w3 kp2 ∧ Fr Φ m w w3) := fun w2 w3 v3 kp2 hf2 hM2 hg hat => by
        refine ⟨hM2.lens (okA := orNew ok w) ?_ hStO hg hat (HMS.out.orNew), (hf.trans hf2).own (fun k hk => (hltO k hk).1) hg⟩
        intro b hb2 hb
        rcases hb with hb | hb
        · exact hb
        · exact ⟨.inr (Nat.le_trans hf.size hb), fun e => by have := (hltO b e).2; omega⟩
      have HTh : Hid (∀ N2, BitsOf (InL zs (l.getD i nothT) a) N2 → BitsOf (OrL zs l a (i + 1)) (N ||| N2 * 2 ^ 0)) := fun N2 h2 => or_next hB h2
      clear hO hB hM hltO hStO hu hc
      go_wp2_with fail
      refine HC.out.mono ?_
      intro e w3 hG
      obtain ⟨v3, N3, kp3, rfl, hv3, hb3, hM3, hf3⟩ := hG.all
      have HJ3 := HJ.out w3 v3 N3 hf3 hv3 hb3
      have HM3 : Hid (∀ w4 v4, w3.grownBy w4 u11.ownBlock → (∀ k, Value.ownBlock v4 = some k → u11.ownBlock = some k ∨ w3.heap.size ≤ k) → MS zs Φ m (fun b => orNew ok w b ∧ Value.ownBlock v4 ≠ some b) w4 kp3 ∧ Fr Φ m w w4) := fun w4 v4 hg hat => HMM.out w3 w4 v4 kp3 hf3 hM3 hg hat
      have HTT : Hid (BitsOf (OrL zs l a (i + 1)) (N ||| N3 * 2 ^ 0)) := HTh.out N3 hb3
      clear hG hv3 hb3 hM3 HTh HMM HJ
      go_wp2_with fail
      refine HJ3.mono ?_
      rintro e w4 ⟨v4, rfl, hO4, hg4, hat4⟩
      obtain ⟨hM4, hf4⟩ := HM3.out w4 v4 hg4 hat4
      have HO4 : Hid (OwnL w4 w.heap.size v4 (N ||| N3 * 2 ^ 0)) := hO4
      have HM4 : Hid (MS zs Φ m (fun b => orNew ok w b ∧ Value.ownBlock v4 ≠ some b) w4 kp3) := hM4
      clear hO4 hg4 hat4 hM4 HM3
      go_wp2
      go_roundw
      case rel => exact ⟨i + 1, by omega, by go_num, _, kp3, HO4.out, HTT.out, HM4.out, hf4⟩
      case measure => simp [intOf]; omega
    · have hi2 : i = l.length := by omega
      subst hi2
      have HO : Hid (OwnL wr w.heap.size u11 N) := hO
      have HB2 : Hid (BitsOf Q N) := HEnd.out N hB
      have HM : Hid (MS zs Φ m (fun b => orNew ok w b ∧ u11.ownBlock ≠ some b) wr kp) := hM
      clear hO hB hM HEnd
      go_wp2
      go_ret
      exact ⟨_, N, kp, rfl, HO.out.len.imp (fun b h => .inr h), HB2.out, HM.out.imp (fun b _ h => h.1) (fun b h => HMS.out.orNew b h), hf⟩

set_option maxHeartbeats 4000000 in
theorem find_rep {x : Tm} {lo : Nat} {hi : Int} (hz : zs.length ≤ 40) (hF : FromC zs Φ m x) (hlo : lo ≤ 50) (hhi : hi = -1 ∨ ((lo : Int) ≤ hi ∧ hi ≤ 50)) {ok : Nat → Prop} {w : World} {sb re a kept kc : Nat} {ka : Option Addr} (hS : Spot Φ m w sb re (repT x (lo : Int) hi) ka kc) (hMS : MS zs Φ m ok w kept) (ha : a ≤ zs.length) :
    Calls Tryz.prog 61 #[.pointer (some ⟨m, 0, none⟩), .pointer (some ⟨sb, 0, none⟩), .int .i64 a] w fun e w' => Gives zs Φ m ok w (InL zs (repT x (lo : Int) hi) a) e w' := by
  obtain ⟨ta, tc, ht1, _⟩ := hMS.text
  have c0 := hS.c0
  have r0 : w.cell? ⟨re, 0, none⟩ = some (.int .i64 6) := hS.r0
  have mt : w.cell? ⟨m, 0, none⟩ = some (.slice ta zs.length tc) := by simp [World.cell?, ht1]
  obtain ⟨g, off, b1, e1, h2, h3, h4, h5⟩ := hS.kid 0 (by simp [repT])
  have c1 : w.cell? ⟨sb, 1, none⟩ = some (.slice (some ⟨g, off, none⟩) 1 kc) := by have := hS.c1; rw [e1] at this; exact this
  have HC : Hid (Calls Tryz.prog 98 #[.pointer (some ⟨m, 0, none⟩), .pointer (some ⟨sb, 0, none⟩), .int .i64 a] w fun e w' => Gives zs Φ m ok w (InL zs (repT x (lo : Int) hi) a) e w') := (mrepeat_any hz hF hlo hhi hS.hsb hS.ssb hS.hre hS.sre c0 c1 h4 hS.r2 hS.r3 h5 hMS ha).mono fun e w' h => h.gives hMS.orNew
  generalize InL zs (repT x (lo : Int) hi) a = Q at *
  clear hS hMS ht1 h4 h5 hF c1
  go_enter Tryz.func61, Tryz.ntmps61
  go_wp2_with fail
  refine HC.out.mono ?_
  intro e w1 hG
  obtain ⟨v1, N1, kp1, rfl, h1⟩ := hG.all
  clear hG
  go_wp2
  go_ret
  exact ⟨_, N1, kp1, rfl, h1⟩
end
end Go.Proofs.YtbjohedenfindaaGreatDoor
