/- Texts of the proof, put together: MRep, MFind. -/
import Derived.Test.YtbjohedenfindaaGreatDoorMg36
import Derived.Deep.RegionHeld3
namespace Go.Proofs.YtbjohedenfindaaGreatDoor
open Go.RowKit
set_option linter.unusedVariables false
set_option maxRecDepth 100000

section
variable {zs : List Int} {Φ : Nat → Option Tm} {m : Nat}

def PowL (zs : List Int) (t : Tm) (a r n : Nat) : Prop := a + n ≤ zs.length ∧ powM (M t) r ((zs.drop a).take n)
theorem pow_zero {t : Tm} {a : Nat} (ha : a ≤ zs.length) : BitsOf (PowL zs t a 0) (2 ^ 0) := by
  intro n
  constructor
  · intro h
    have : n = 0 := by
      cases n with
      | zero => rfl
      | succ n => simp [Nat.testBit_succ] at h
    subst this
    exact ⟨by omega, by simp [powM]⟩
  · rintro ⟨h1, h2⟩
    have h3 := seg_len zs a n h1
    rw [show List.take n (List.drop a zs) = [] from h2] at h3
    have : n = 0 := by simpa using h3.symm
    subst this; decide
theorem pow_next {t : Tm} {a r : Nat} (n : Nat) : (∃ k, k ≤ n ∧ PowL zs t a r k ∧ InL zs t (a + k) (n - k)) ↔ PowL zs t a (r + 1) n := by
  constructor
  · rintro ⟨k, h1, h2, h3⟩
    have hn : a + n ≤ zs.length := by have := h3.1; omega
    exact ⟨hn, (powM_snoc _ r _).2 ⟨_, _, seg_split zs a k n h1 hn, h2.2, h3.2⟩⟩
  · rintro ⟨h1, h2⟩
    obtain ⟨x, y, e, h3, h4⟩ := (powM_snoc _ r _).1 h2
    obtain ⟨p1, p2, p3⟩ := seg_parts zs a n h1 e
    refine ⟨x.length, p1, ⟨by omega, by rw [← p2]; exact h3⟩, by omega, by rw [← p3]; exact h4⟩
theorem powM_add (X : List Int → Prop) : ∀ (r s : Nat) (l : List Int), powM X (r + s) l ↔ ∃ a b, l = a ++ b ∧ powM X r a ∧ powM X s b
  | 0, s, l => by
    rw [Nat.zero_add]
    constructor
    · intro h; exact ⟨[], l, rfl, rfl, h⟩
    · rintro ⟨a, b, h1, h2, h3⟩
      have h2' : a = [] := h2
      subst h2'; rw [h1]; simpa using h3
  | r + 1, s, l => by
    rw [show r + 1 + s = (r + s) + 1 by omega]
    constructor
    · rintro ⟨a, b, h1, h2, h3⟩
      obtain ⟨c, d, h4, h5, h6⟩ := (powM_add X r s b).1 h3
      exact ⟨a ++ c, d, by rw [h1, h4]; simp, ⟨a, c, rfl, h2, h5⟩, h6⟩
    · rintro ⟨a, b, h1, ⟨c, d, h2, h3, h4⟩, h5⟩
      exact ⟨c, d ++ b, by rw [h1, h2]; simp, h3, (powM_add X r s _).2 ⟨d, b, rfl, h4, h5⟩⟩
theorem star_rep {t : Tm} {a lo : Nat} (n : Nat) : StarL zs t a (PowL zs t a lo) n ↔ InL zs (repT t (lo : Int) (-1)) a n := by
  constructor
  · rintro ⟨h1, k, h2, h3, r, h4⟩
    exact ⟨h1, (M_rep _ _ _ _).2 ⟨lo + r, by omega, .inl rfl, (powM_add _ lo r _).2 ⟨_, _, seg_split zs a k n h2 h1, h3.2, h4⟩⟩⟩
  · rintro ⟨h1, h2⟩
    obtain ⟨c, h3, _, h4⟩ := (M_rep _ _ _ _).1 h2
    obtain ⟨r, rfl⟩ : ∃ r, c = lo + r := ⟨c - lo, by omega⟩
    obtain ⟨x, y, e, h5, h6⟩ := (powM_add _ lo r _).1 h4
    obtain ⟨p1, p2, p3⟩ := seg_parts zs a n h1 e
    exact ⟨h1, x.length, p1, ⟨by omega, by rw [← p2]; exact h5⟩, r, by rw [← p3]; exact h6⟩
def SomeL (zs : List Int) (t : Tm) (a lo i n : Nat) : Prop := ∃ r, lo ≤ r ∧ r ≤ lo + i ∧ PowL zs t a r n
theorem some_rep {t : Tm} {a lo hi : Nat} (h : lo ≤ hi) (n : Nat) : SomeL zs t a lo (hi - lo) n ↔ InL zs (repT t (lo : Int) (hi : Int)) a n := by
  constructor
  · rintro ⟨r, h1, h2, h3, h4⟩
    exact ⟨h3, (M_rep _ _ _ _).2 ⟨r, by omega, .inr (by omega), h4⟩⟩
  · rintro ⟨h1, h2⟩
    obtain ⟨c, h3, h4, h5⟩ := (M_rep _ _ _ _).1 h2
    exact ⟨c, by omega, by omega, h1, h5⟩
theorem some_next {t : Tm} {a lo i N N2 : Nat} (h : BitsOf (SomeL zs t a lo i) N) (h2 : BitsOf (PowL zs t a (lo + i + 1)) N2) : BitsOf (SomeL zs t a lo (i + 1)) (N ||| N2 * 2 ^ 0) := by
  intro n
  rw [Nat.pow_zero, Nat.mul_one, Nat.testBit_or, Bool.or_eq_true, h n, h2 n]
  constructor
  · rintro (⟨r, h1, h2, h3⟩ | h1)
    · exact ⟨r, h1, by omega, h3⟩
    · exact ⟨lo + i + 1, by omega, by omega, h1⟩
  · rintro ⟨r, h1, h2, h3⟩
    by_cases e : r = lo + i + 1
    · subst e; exact .inr h3
    · exact .inl ⟨r, h1, by omega, h3⟩
theorem OwnL.base {w : World} {B B' : Nat} {v : Value} {N : Nat} (h : OwnL w B v N) (hb : B' ≤ B) : OwnL w B' v N := by
  obtain ⟨xs, hx, hown⟩ := h
  refine ⟨xs, hx, hown.1, ?_⟩
  rcases hown.2 with h' | ⟨g, cap, cur, h1, h2, h3⟩
  · exact .inl h'
  · exact .inr ⟨g, cap, cur, h1, Nat.le_trans hb h2, h3⟩
theorem powL_le {t : Tm} {a r n : Nat} (h : PowL zs t a r n) : a + n ≤ zs.length := h.1

set_option maxHeartbeats 8000000 in
theorem mrepeat_any {x : Tm} {lo : Nat} {hi : Int} (hz : zs.length ≤ 40) (hF : FromC zs Φ m x) (hlo : lo ≤ 50) (hhi : hi = -1 ∨ ((lo : Int) ≤ hi ∧ hi ≤ 50)) {ok : Nat → Prop} {w : World} {sb re g off b1 kc : Nat} {a kept : Nat} (hsb : sb < w.heap.size) (hssb : Still Φ m sb) (hre : re < w.heap.size) (hsre : Still Φ m re)
    (c0 : w.cell? ⟨sb, 0, none⟩ = some (.pointer (some ⟨re, 0, none⟩))) (c1 : w.cell? ⟨sb, 1, none⟩ = some (.slice (some ⟨g, off, none⟩) 1 kc)) (cu : w.cell? ⟨g, off, none⟩ = some (.pointer (some ⟨b1, 0, none⟩))) (r2 : w.cell? ⟨re, 2, none⟩ = some (.int .i64 (lo : Int))) (r3 : w.cell? ⟨re, 3, none⟩ = some (.int .i64 hi))
    (hSP : SP Φ m w (.pointer (some ⟨b1, 0, none⟩)) x) (hMS : MS zs Φ m ok w kept) (ha : a ≤ zs.length) :
    Calls Tryz.prog 98 #[.pointer (some ⟨m, 0, none⟩), .pointer (some ⟨sb, 0, none⟩), .int .i64 a] w fun e w' => GivesO zs Φ m ok w (InL zs (repT x lo hi) a) e w' := by
  have HF : Hid (FromC zs Φ m x) := hF
  have HSP : Hid (SP Φ m w (.pointer (some ⟨b1, 0, none⟩)) x) := hSP
  have HMS : Hid (MS zs Φ m ok w kept) := hMS
  have HCell : Hid (∀ w', Fr Φ m w w' → w'.cell? ⟨sb, 0, none⟩ = some (.pointer (some ⟨re, 0, none⟩)) ∧ w'.cell? ⟨re, 2, none⟩ = some (.int .i64 (lo : Int)) ∧ w'.cell? ⟨re, 3, none⟩ = some (.int .i64 hi)) := fun w' hf => ⟨(hf.cell hsb hssb).trans c0, (hf.cell hre hsre).trans r2, (hf.cell hre hsre).trans r3⟩
  have HJ1 : Hid (Calls Tryz.prog 93 #[.int .i64 0] w fun e w' => ∃ v, e = .returned v ∧ OwnL w' w.heap.size v (2 ^ 0) ∧ Below w.heap.size w w') := justOne_any 0 (by omega)
  have HBh : Hid (∀ (okA : Nat → Prop) (wr : World) (lv : Value) (N kp i : Nat), Fr Φ m w wr → OwnL wr w.heap.size lv N → BitsOf (PowL zs x a i) N → MS zs Φ m okA wr kp → Calls Tryz.prog 94 #[.pointer (some ⟨m, 0, none⟩), lv, .pointer (some ⟨b1, 0, none⟩), .int .i64 a] wr fun e w' => GivesO zs Φ m okA wr (PowL zs x a (i + 1)) e w') := fun okA wr lv N kp i hf hO hB hM => by
    have h := mbehind_any hz HF.out (HSP.out.fr hf) hM (hO.len.imp fun b hb => HMS.out.fresh hb) hB (fun n hn => powL_le hn)
    refine h.mono fun e w' hG => ?_
    obtain ⟨v, N2, k2, h1, h2, h3, h4, h5⟩ := hG.all
    exact ⟨v, N2, k2, h1, h2, h3.congr pow_next, h4, h5⟩
  have HNx : Hid (∀ (wr w2 : World) (lv v2 : Value) (kp : Nat), Fr Φ m w wr → OwnL w2 wr.heap.size v2 0 ∨ True → MS zs Φ m (fun b => orNew (fun b => orNew ok w b ∧ lv.ownBlock ≠ some b) wr b ∧ v2.ownBlock ≠ some b) w2 kp → MS zs Φ m (fun b => orNew ok w b ∧ Value.ownBlock v2 ≠ some b) w2 kp) := fun wr w2 lv v2 kp hf _ hM => hM.imp (fun b _ hb => ⟨hb.1.elim (fun h => h.1) fun h => .inr (Nat.le_trans hf.size h), hb.2⟩) fun b hb => HMS.out.orNew b hb.1
  have HOn : Hid (hi = -1 → ∀ (wr : World) (lv : Value) (N kp : Nat), Fr Φ m w wr → OwnL wr w.heap.size lv N → BitsOf (PowL zs x a lo) N → MS zs Φ m (fun b => orNew ok w b ∧ lv.ownBlock ≠ some b) wr kp → Calls Tryz.prog 122 #[.pointer (some ⟨m, 0, none⟩), lv, .pointer (some ⟨b1, 0, none⟩), .int .i64 a] wr fun e w' => GivesO zs Φ m ok w (InL zs (repT x lo hi) a) e w') := fun hh wr lv N kp hf hO hB hM => by
    have hlt := hO.lt
    have h := onAndOn_any (ok := orNew ok w) (ws := w) (B := w.heap.size) hz HF.out (Nat.le_refl _) hf HSP.out hO hf.size (fun k hk => HMS.out.fresh (hlt k hk).1) (fun k hk => HMS.out.fresh hk) hM HMS.out.orNew hB (fun n hn => powL_le hn)
    refine h.mono fun e w' hG => ?_
    obtain ⟨v, N2, k2, h1, h2, h3, h4, h5, h6, h7, h8, h9, h10⟩ := hG.all
    refine ⟨v, N2, k2, h1, h2, h3.congr fun n => by rw [hh]; exact star_rep n, ?_, ⟨h6.trans hf.os, h7.trans hf.tape, h8.trans hf.output, Nat.le_trans hf.size h5, fun b hb hs => (h9 b (Nat.lt_of_lt_of_le hb hf.size) hs (fun e => by have := (hlt b e).1; omega)).trans (hf.block b hb hs)⟩⟩
    exact h4.imp (fun b _ hb => ⟨hb.1.elim id fun h => .inr (Nat.le_trans hf.size h), hb.2⟩) fun b hb => HMS.out.orNew b hb.1
  have HSR : Hid (∀ (h : Nat), hi = (h : Int) → lo ≤ h → ∀ n, SomeL zs x a lo (h - lo) n ↔ InL zs (repT x (lo : Int) hi) a n) := fun h hh hl n => by rw [hh]; exact some_rep hl n
  have HS0 : Hid (∀ N, BitsOf (PowL zs x a lo) N → BitsOf (SomeL zs x a lo 0) N) := fun N h => h.congr fun n => ⟨fun h => ⟨lo, Nat.le_refl _, by omega, h⟩, fun ⟨r, h1, h2, h3⟩ => by
    have : r = lo := by omega
    subst this; exact h3⟩
  have HP0 : Hid (BitsOf (PowL zs x a 0) (2 ^ 0)) := pow_zero ha
  generalize repT x (lo : Int) hi = rt at *
  clear hF hSP hMS
  go_enter Tryz.func98, Tryz.ntmps98
  go_wp2_with fail
  refine HJ1.out.mono ?_
  rintro e w1 ⟨v1, rfl, hO1, hb1⟩
  obtain ⟨d0, d2, d3⟩ := HCell.out w1 (Fr.below hb1)
  have HO1 : Hid (OwnL w1 w.heap.size v1 (2 ^ 0)) := hO1
  have HB1 : Hid (Below w.heap.size w w1) := hb1
  have hlt1 := hO1.lt
  have HM1 : Hid (MS zs Φ m (fun b => orNew ok w b ∧ v1.ownBlock ≠ some b) w1 kept) := ((HMS.out.imp (ok' := fun b => ok b ∧ b < w.heap.size) (fun b hb hk => ⟨hk, hb⟩) (fun b hb => HMS.out.still b hb.1)).below hb1).imp (fun b _ hb => ⟨.inl hb.1, fun e => by
    have := (hlt1 b e).1; have := hb.2; omega⟩) fun b hb => HMS.out.orNew b hb.1
  clear hO1 hb1 c0 c1 cu r2 r3
  clear hlt1
  go_wp2
  go_loopw [8, 24] (fun lv iv wr => ∃ i : Nat, i ≤ lo ∧ iv = .int .i64 i ∧ ∃ N kp, OwnL wr w.heap.size lv N ∧ BitsOf (PowL zs x a i) N ∧ MS zs Φ m (fun b => orNew ok w b ∧ lv.ownBlock ≠ some b) wr kp ∧ Fr Φ m w wr) (fun _ iv _ => lo - (intOf iv).toNat)
  case atStart => exact ⟨0, Nat.zero_le _, rfl, _, kept, HO1.out, HP0.out, HM1.out, Fr.below HB1.out⟩
  case round =>
    obtain ⟨i, hi', rfl, N, kp, hO, hB, hM, hf⟩ := hrel
    obtain ⟨e0, e2, e3⟩ := HCell.out wr hf
    clear d0 d2 d3 HO1 HB1 HM1
    by_cases hlt : i < lo
    · have HC : Hid (Calls Tryz.prog 94 #[.pointer (some ⟨m, 0, none⟩), u8, .pointer (some ⟨b1, 0, none⟩), .int .i64 a] wr fun e w' => GivesO zs Φ m (fun b => orNew ok w b ∧ u8.ownBlock ≠ some b) wr (PowL zs x a (i + 1)) e w') := HBh.out _ wr u8 N kp i hf hO hB hM
      have HNN : Hid (∀ w2 v2 kp2, MS zs Φ m (fun b => orNew (fun b => orNew ok w b ∧ u8.ownBlock ≠ some b) wr b ∧ Value.ownBlock v2 ≠ some b) w2 kp2 → MS zs Φ m (fun b => orNew ok w b ∧ Value.ownBlock v2 ≠ some b) w2 kp2) := fun w2 v2 kp2 h => HNx.out wr w2 u8 v2 kp2 hf (.inr trivial) h
      clear hO hB hM
      go_wp2_with fail
      refine HC.out.mono ?_
      intro e w2 hG
      obtain ⟨v2, N2, kp2, rfl, hO2, hB2, hM2, hf2⟩ := hG.all
      have HO2 : Hid (OwnL w2 w.heap.size v2 N2) := hO2.base hf.size
      have HB2 : Hid (BitsOf (PowL zs x a (i + 1)) N2) := hB2
      have HM2 : Hid (MS zs Φ m (fun b => orNew ok w b ∧ Value.ownBlock v2 ≠ some b) w2 kp2) := HNN.out w2 v2 kp2 hM2
      have hf12 := hf.trans hf2
      clear hG hO2 hB2 hM2 HNN
      go_wp2
      go_roundw
      case rel => exact ⟨i + 1, by omega, by go_num, N2, kp2, HO2.out, HB2.out, HM2.out, hf12⟩
      case measure => simp [intOf]; omega
    · have hi2 : i = lo := by omega
      subst hi2
      by_cases hm1 : hi = -1
      · have HC : Hid (Calls Tryz.prog 122 #[.pointer (some ⟨m, 0, none⟩), u8, .pointer (some ⟨b1, 0, none⟩), .int .i64 a] wr fun e w' => GivesO zs Φ m ok w (InL zs rt a) e w') := HOn.out hm1 wr u8 N kp hf hO hB hM
        subst hm1
        clear hO hB hM HBh HNx HOn HSR HS0
        go_wp2_with fail
        refine HC.out.mono ?_
        intro e w2 hG
        obtain ⟨v2, N2, kp2, rfl, h2⟩ := hG.all
        have H2 : Hid (OwnL w2 w.heap.size v2 N2 ∧ BitsOf (InL zs rt a) N2 ∧ MS zs Φ m (fun b => orNew ok w b ∧ Value.ownBlock v2 ≠ some b) w2 kp2 ∧ Fr Φ m w w2) := h2
        clear hG h2
        go_wp2
        go_ret
        exact ⟨_, N2, kp2, rfl, H2.out⟩
      · obtain ⟨h, rfl⟩ : ∃ h : Nat, hi = (h : Int) := ⟨hi.toNat, by omega⟩
        have hil : i ≤ h := by omega
        have hq : ((h : Int) == -1) = false := by rw [beq_eq_false_iff_ne]; omega
        have hsub : IntKind.i64.wrap ((h : Int) - (i : Int)) = ((h - i : Nat) : Int) := by rw [wrap_id _ (by omega) (by omega)]; omega
        have HO0 : Hid (OwnL wr w.heap.size u8 N) := hO
        have HB0 : Hid (BitsOf (PowL zs x a i) N) := hB
        have HBS : Hid (BitsOf (SomeL zs x a i 0) N) := HS0.out N hB
        have HM0 : Hid (MS zs Φ m (fun b => orNew ok w b ∧ u8.ownBlock ≠ some b) wr kp) := hM
        clear hO hB hM HOn HS0 hm1
        go_wp2
        go_quiet (fail)
        go_wp2
        go_loopw [8, 9, 61] (fun lv ov iv wx => ∃ j : Nat, j ≤ h - i ∧ iv = .int .i64 j ∧ ∃ NL NO kp, OwnL wx w.heap.size lv NL ∧ BitsOf (PowL zs x a (i + j)) NL ∧ OwnL wx w.heap.size ov NO ∧ BitsOf (SomeL zs x a i j) NO ∧ MS zs Φ m (fun b => orNew ok w b ∧ ov.ownBlock ≠ some b) wx kp ∧ Fr Φ m w wx) (fun _ _ iv _ => (h - i) - (intOf iv).toNat)
        case atStart => exact ⟨0, Nat.zero_le _, rfl, N, N, kp, HO0.out, HB0.out, HO0.out, HBS.out, HM0.out.below (below_drewN _ _), hf.trans (Fr.below (below_drewN _ _))⟩
        case round =>
          obtain ⟨j, hj, rfl, NL, NO, kp', hOl, hBl, hOo, hBo, hMo, hfx⟩ := hrel
          clear HO0 HB0 HBS HM0 e0 e2 e3
          by_cases hltj : j < h - i
          · have hltO := hOo.lt
            have hStO : ∀ k, u9.ownBlock = some k → Still Φ m k := fun k hk => HMS.out.fresh (hltO k hk).1
            have hNO : NO < 2 ^ 64 := Nat.lt_trans (hBo.lt fun n hn => by obtain ⟨r, _, _, h3⟩ := hn; have := h3.1; omega) (by decide)
            have HC : Hid (Calls Tryz.prog 94 #[.pointer (some ⟨m, 0, none⟩), u8, .pointer (some ⟨b1, 0, none⟩), .int .i64 a] wr fun e w' => GivesO zs Φ m (fun b => orNew ok w b ∧ u9.ownBlock ≠ some b) wr (PowL zs x a (i + j + 1)) e w') := HBh.out _ wr u8 NL kp' (i + j) hfx hOl hBl hMo
            have HJn : Hid (∀ w2 v2 N2, Fr Φ m wr w2 → OwnL w2 wr.heap.size v2 N2 → BitsOf (PowL zs x a (i + j + 1)) N2 → Calls Tryz.prog 95 #[u9, v2, .int .i64 0] w2 fun e w' => Lens w2 w.heap.size u9.ownBlock (NO ||| N2 * 2 ^ 0) e w') := fun w2 v2 N2 hf2 hv hb2 => by
              have hN2 : N2 < 2 ^ 64 := Nat.lt_trans (hb2.lt fun n hn => by have := hn.1; omega) (by decide)
              exact ljoin_any (ok := fun b => wr.heap.size ≤ b) 0 (Nat.le_trans hfx.size hf2.size) (by omega) hNO (by simpa using hN2) (hOo.fr hf2 hStO) hv.len
            have HAft : Hid (∀ w2 w3 v2 v3 N2 kp2, Fr Φ m wr w2 → OwnL w2 wr.heap.size v2 N2 → MS zs Φ m (fun b => orNew (fun b => orNew ok w b ∧ u9.ownBlock ≠ some b) wr b ∧ v2.ownBlock ≠ some b) w2 kp2 → w2.grownBy w3 u9.ownBlock → (∀ k, v3.ownBlock = some k → u9.ownBlock = some k ∨ w2.heap.size ≤ k) → OwnL w3 w.heap.size v2 N2 ∧ MS zs Φ m (fun b => orNew ok w b ∧ Value.ownBlock v3 ≠ some b) w3 kp2 ∧ Fr Φ m w w3) := fun w2 w3 v2 v3 N2 kp2 hf2 hO2 hM2 hg hat => by
              have hl2 := hO2.lt
              refine ⟨?_, hM2.lens (okA := orNew ok w) ?_ hStO hg hat HMS.out.orNew, (hfx.trans hf2).own (fun k hk => (hltO k hk).1) hg⟩
              · obtain ⟨xs, hx, hown⟩ := hO2.base hfx.size
                refine ⟨xs, hx, hown.kept hg ?_⟩
                cases hv : v2.ownBlock with
                | none => exact .inl rfl
                | some k =>
                  right
                  intro e
                  have := (hltO k e.symm).2; have := (hl2 k hv).1; omega
              · intro b hb2 hb
                refine ⟨hb.1.elim (fun h => h.1) fun h => .inr (Nat.le_trans hfx.size h), hb.1.elim (fun h => h.2) fun h e => ?_⟩
                have := (hltO b e).2; omega
            have HSn : Hid (∀ N2, BitsOf (PowL zs x a (i + j + 1)) N2 → BitsOf (SomeL zs x a i (j + 1)) (NO ||| N2 * 2 ^ 0)) := fun N2 h2 => some_next hBo h2
            clear hOl hBl hOo hBo hMo hltO hStO HBh HNx HSR
            go_wp2_with fail
            refine HC.out.mono ?_
            intro e w2 hG
            obtain ⟨v2, N2, kp2, rfl, hO2, hB2, hM2, hf2⟩ := hG.all
            have HJ2 := HJn.out w2 v2 N2 hf2 hO2 hB2
            have HA2 := fun w3 v3 hg hat => HAft.out w2 w3 v2 v3 N2 kp2 hf2 hO2 hM2 hg hat
            have HA3 : Hid (∀ w3 v3, w2.grownBy w3 u9.ownBlock → (∀ k, Value.ownBlock v3 = some k → u9.ownBlock = some k ∨ w2.heap.size ≤ k) → OwnL w3 w.heap.size v2 N2 ∧ MS zs Φ m (fun b => orNew ok w b ∧ Value.ownBlock v3 ≠ some b) w3 kp2 ∧ Fr Φ m w w3) := HA2
            have HB2 : Hid (BitsOf (PowL zs x a (i + j + 1)) N2) := hB2
            have HS2 : Hid (BitsOf (SomeL zs x a i (j + 1)) (NO ||| N2 * 2 ^ 0)) := HSn.out N2 hB2
            clear hG hO2 hB2 hM2 HJn HAft HSn HA2
            go_wp2_with fail
            refine HJ2.mono ?_
            rintro e w3 ⟨v3, rfl, hO3, hg3, hat3⟩
            obtain ⟨hOl3, hM3, hf3⟩ := HA3.out w3 v3 hg3 hat3
            have HO3 : Hid (OwnL w3 w.heap.size v3 (NO ||| N2 * 2 ^ 0)) := hO3
            have HOl3 : Hid (OwnL w3 w.heap.size v2 N2) := hOl3
            have HM3 : Hid (MS zs Φ m (fun b => orNew ok w b ∧ Value.ownBlock v3 ≠ some b) w3 kp2) := hM3
            clear hO3 hg3 hat3 hOl3 hM3 HA3
            go_wp2
            go_roundw
            case rel => exact ⟨j + 1, by omega, by go_num, N2, _, kp2, HOl3.out, HB2.out, HO3.out, HS2.out, HM3.out, hf3⟩
            case measure => simp [intOf]; omega
          · have hj2 : j = h - i := by omega
            have HO : Hid (OwnL wr w.heap.size u9 NO) := hOo
            have HBo : Hid (BitsOf (InL zs rt a) NO) := by
              rw [hj2] at hBo
              exact hBo.congr (HSR.out h rfl hil)
            have HM : Hid (MS zs Φ m (fun b => orNew ok w b ∧ u9.ownBlock ≠ some b) wr kp') := hMo
            clear hOl hBl hOo hBo hMo HBh HNx HSR hj2
            go_wp2
            go_ret
            exact ⟨_, NO, kp', rfl, HO.out, HBo.out, HM.out, hfx⟩
end
end Go.Proofs.YtbjohedenfindaaGreatDoor

namespace Go.Proofs.YtbjohedenfindaaGreatDoor
open Go.RowKit
set_option linter.unusedVariables false
set_option maxRecDepth 100000

section
variable {zs : List Int} {Φ : Nat → Option Tm} {m : Nat}

/-- what find sees of a spot -/
structure Spot (Φ : Nat → Option Tm) (m : Nat) (w : World) (sb re : Nat) (t : Tm) (ka : Option Addr) (kc : Nat) : Prop where
  hsb : sb < w.heap.size
  ssb : Still Φ m sb
  hre : re < w.heap.size
  sre : Still Φ m re
  c0 : w.cell? ⟨sb, 0, none⟩ = some (.pointer (some ⟨re, 0, none⟩))
  c1 : w.cell? ⟨sb, 1, none⟩ = some (.slice ka t.kids.length kc)
  r0 : w.cell? ⟨re, 0, none⟩ = some (.int .i64 t.kind)
  r2 : w.cell? ⟨re, 2, none⟩ = some (.int .i64 t.mn)
  r3 : w.cell? ⟨re, 3, none⟩ = some (.int .i64 t.mx)
  cap : t.kids.length ≤ kc
  kid : ∀ j, j < t.kids.length → ∃ g off b1, ka = some ⟨g, off, none⟩ ∧ g < w.heap.size ∧ Still Φ m g ∧ w.cell? ⟨g, off + j, none⟩ = some (.pointer (some ⟨b1, 0, none⟩)) ∧ SP Φ m w (.pointer (some ⟨b1, 0, none⟩)) (t.kids.getD j nothT)
theorem seg_one (zs : List Int) (a n : Nat) (hn : a + n ≤ zs.length) (c : Int) : (zs.drop a).take n = [c] ↔ n = 1 ∧ zs.getD a 0 = c := by
  have h1 : ∀ ha : a < zs.length, (zs.drop a).take 1 = [zs.getD a 0] := fun ha => by
    rw [List.drop_eq_getElem_cons ha, List.getD_eq_getElem?_getD, List.getElem?_eq_getElem ha]; rfl
  constructor
  · intro h
    have hl := seg_len zs a n hn
    rw [h] at hl
    have e1 : n = 1 := by simpa using hl.symm
    subst e1
    rw [h1 (by omega)] at h
    injection h with h
    exact ⟨rfl, h⟩
  · rintro ⟨rfl, h⟩
    rw [h1 (by omega), h]
theorem bits_set {s : List Rg} {a : Nat} (hzs : ∀ c ∈ zs, 0 ≤ c ∧ c ≤ 1114111) (ha : a ≤ zs.length) : (a < zs.length → hasB s (zs.getD a 0) = true → BitsOf (InL zs (setT s) a) (2 ^ 1)) ∧ ((a < zs.length → hasB s (zs.getD a 0) = false) → BitsOf (InL zs (setT s) a) 0) := by
  have hb : a < zs.length → hasB s (zs.getD a 0) = hasL s (zs.getD a 0) := fun h => by
    have := hzs _ (show zs.getD a 0 ∈ zs by rw [List.getD_eq_getElem?_getD, List.getElem?_eq_getElem h]; exact List.getElem_mem h)
    generalize zs.getD a 0 = c at *
    simp [hasB, this]
  have hin : ∀ n, InL zs (setT s) a n ↔ n = 1 ∧ a < zs.length ∧ hasL s (zs.getD a 0) = true := fun n => by
    constructor
    · rintro ⟨h1, h2⟩
      obtain ⟨c, h3, h4⟩ := (M_set s _).1 h2
      obtain ⟨h5, h6⟩ := (seg_one zs a n h1 c).1 h3
      subst h6; exact ⟨h5, by omega, h4⟩
    · rintro ⟨rfl, h1, h2⟩
      exact ⟨by omega, (M_set s _).2 ⟨_, (seg_one zs a 1 (by omega) _).2 ⟨rfl, rfl⟩, h2⟩⟩
  refine ⟨fun h1 h2 n => ?_, fun h n => ?_⟩
  · rw [hin, Nat.testBit_two_pow]
    rw [hb h1] at h2
    simp only [decide_eq_true_eq]
    exact ⟨fun e => ⟨e.symm, h1, h2⟩, fun e => e.1.symm⟩
  · rw [hin]
    simp only [Nat.zero_testBit, Bool.false_eq_true, false_iff, not_and]
    rintro _ h1 h2
    have := h h1
    rw [hb h1, h2] at this; simp at this

set_option maxHeartbeats 4000000 in
theorem find_set {s : List Rg} (hz : zs.length ≤ 40) (hzs : ∀ c ∈ zs, 0 ≤ c ∧ c ≤ 1114111) {ok : Nat → Prop} {w : World} {sb re a kept kc sn sc : Nat} {ka sa : Option Addr} (hS : Spot Φ m w sb re (setT s) ka kc) (r1 : w.cell? ⟨re, 1, none⟩ = some (.slice sa sn sc)) (hR : Rngs w (.slice sa sn sc) s) (hl : s.length ≤ 1000000) (hMS : MS zs Φ m ok w kept) (ha : a ≤ zs.length) :
    Calls Tryz.prog 61 #[.pointer (some ⟨m, 0, none⟩), .pointer (some ⟨sb, 0, none⟩), .int .i64 a] w fun e w' => Gives zs Φ m ok w (InL zs (setT s) a) e w' := by
  obtain ⟨b1, b0⟩ := bits_set (s := s) hzs ha
  have HB1 : Hid (a < zs.length → hasB s (zs.getD a 0) = true → BitsOf (InL zs (setT s) a) (2 ^ 1)) := b1
  have HB0 : Hid ((a < zs.length → hasB s (zs.getD a 0) = false) → BitsOf (InL zs (setT s) a) 0) := b0
  have HMS : Hid (MS zs Φ m ok w kept) := hMS
  obtain ⟨ta, tc, ht1, ht2⟩ := hMS.text
  have c0 := hS.c0
  have r0 : w.cell? ⟨re, 0, none⟩ = some (.int .i64 1) := hS.r0
  have mt : w.cell? ⟨m, 0, none⟩ = some (.slice ta zs.length tc) := by simp [World.cell?, ht1]
  have HJ : Hid (∀ w1, Below w.heap.size w w1 → Calls Tryz.prog 93 #[.int .i64 1] w1 fun e w' => ∃ v, e = .returned v ∧ OwnL w' w1.heap.size v (2 ^ 1) ∧ Below w1.heap.size w1 w') := fun w1 _ => justOne_any 1 (by omega)
  clear b1 b0 hMS ht1
  generalize InL zs (setT s) a = Q at *
  by_cases hlt : a < zs.length
  · obtain ⟨g, rfl, hg, hgo, hu⟩ := ht2 a hlt
    have HHas : Hid (∀ w1, Below w.heap.size w w1 → Calls Tryz.prog 92 #[.slice sa sn sc, .int .i64 (zs.getD a 0)] w1 fun e w' => e = .returned (.bool (hasB s (zs.getD a 0))) ∧ Below w1.heap.size w1 w') := fun w1 hb => by
      refine phas_any _ _ s w1 hl ?_
      rcases hR with h | ⟨b, off, c, h1, h2, h3⟩
      · exact .inl h
      · exact .inr ⟨b, off, c, h1, Nat.lt_of_lt_of_le h2 hb.size, fun j hj => ⟨(hb.cell (p := ⟨b, off + j * 2, none⟩) h2).trans (h3 j hj).1, (hb.cell (p := ⟨b, off + j * 2 + 1, none⟩) h2).trans (h3 j hj).2⟩⟩
    have HB1' : Hid (hasB s (zs.getD a 0) = true → BitsOf Q (2 ^ 1)) := fun h => HB1.out hlt h
    have HB0' : Hid (hasB s (zs.getD a 0) = false → BitsOf Q 0) := fun h => HB0.out fun _ => h
    generalize hasB s (zs.getD a 0) = hb at *
    generalize zs.getD a 0 = pt at *
    have hsb := hS.hsb
    have hre := hS.hre
    clear HB1 HB0 ht2 hS hR
    have hroom : decide ((zs.length : Int) - (a : Int) > 0) = true := by simp; omega
    have hi0 : (0 : Int) ≤ (a : Int) := by omega
    have hi1 : (a : Int) < (zs.length : Int) := by omega
    have HK1 : Hid (∀ w4, Below w.drew.heap.size w.drew w4 → w4.cell? ⟨sb, 0, none⟩ = some (.pointer (some ⟨re, 0, none⟩)) ∧ w4.cell? ⟨re, 1, none⟩ = some (.slice sa sn sc) ∧ w4.cell? ⟨m, 0, none⟩ = some (.slice (some ⟨g, 0, none⟩) zs.length tc) ∧ w4.cell? ⟨g, a, none⟩ = some (.int .i64 pt)) := fun w4 hb => ⟨(hb.cell (p := ⟨sb, 0, none⟩) hsb).trans c0, (hb.cell (p := ⟨re, 1, none⟩) hre).trans r1, (hb.cell (p := ⟨m, 0, none⟩) HMS.out.mlt).trans mt, (hb.cell (p := ⟨g, a, none⟩) hg).trans hu⟩
    go_enter Tryz.func61, Tryz.ntmps61
    go_wp2
    go_region_held3 (fun w' => w'.cell? ⟨sb, 0, none⟩ = some (.pointer (some ⟨re, 0, none⟩)) ∧ w'.cell? ⟨re, 1, none⟩ = some (.slice sa sn sc) ∧ w'.cell? ⟨m, 0, none⟩ = some (.slice (some ⟨g, 0, none⟩) zs.length tc) ∧ w'.cell? ⟨g, a, none⟩ = some (.int .i64 pt)) (go_keep) ((go_at_call 92; refine (HHas.out _ ?_).mono ?_; exact below_drew1 (Below.refl _ _); rintro e w4 ⟨rfl, hb4⟩; have f1 := HK1.out w4 hb4; obtain ⟨f1, f2, f3, f4⟩ := f1))
    all_goals
      have hbw : Below w.heap.size w w4 := (below_drew1 (Below.refl w.heap.size w)).trans hb4
      have HM4 : Hid (MS zs Φ m ok w4 kept) := HMS.out.below hbw
      clear f1 f2 f3 f4 c0 r0 r1 mt hu
      cases hbb : hb
      · subst hbb
        have HQ := HB0'.out rfl
        go_wp2
        go_ret
        exact ⟨_, 0, kept, rfl, .inl ⟨rfl, _, _, rfl⟩, HQ, HM4.out.imp (fun b _ h => .inl h) (fun b h => HMS.out.orNew b h), Fr.below hbw⟩
      · subst hbb
        have HQ := HB1'.out rfl
        have HJJ := HJ.out w4 hbw
        go_wp2_with fail
        refine HJJ.mono ?_
        rintro e w5 ⟨v5, rfl, hO5, hb5⟩
        have HO5 : Hid (OwnL w5 w4.heap.size v5 (2 ^ 1)) := hO5
        have hbw5 := hbw.trans (hb5.mono hbw.size)
        clear hO5 HJJ
        go_wp2
        go_ret
        exact ⟨_, 2 ^ 1, kept, rfl, HO5.out.len.imp (fun b h => .inr (Nat.le_trans hbw.size h)), HQ, (HM4.out.below hb5).imp (fun b _ h => .inl h) (fun b h => HMS.out.orNew b h), Fr.below hbw5⟩
  · have HQ := HB0.out (fun h => absurd h hlt)
    have hroom : decide ((zs.length : Int) - (a : Int) > 0) = false := by simp; omega
    clear HB1 HB0 ht2 hS hR HJ
    go_enter Tryz.func61, Tryz.ntmps61
    go_wp2
    go_quiet (fail)
    go_wp2
    go_ret
    exact ⟨_, 0, kept, rfl, .inl ⟨rfl, _, _, rfl⟩, HQ, (HMS.out.below (below_drewN _ _)).imp (fun b _ h => .inl h) (fun b h => HMS.out.orNew b h), Fr.below (below_drewN _ _)⟩
end
end Go.Proofs.YtbjohedenfindaaGreatDoor
