/- Texts of the proof, put together: MOn, MRep. -/
import Derived.Test.YtbjohedenfindaaGreatDoorPb30
namespace Go.Proofs.YtbjohedenfindaaGreatDoor
open Go.RowKit
set_option linter.unusedVariables false
set_option maxRecDepth 100000

theorem powM_snoc (X : List Int → Prop) : ∀ (r : Nat) (l : List Int), powM X (r + 1) l ↔ ∃ a b, l = a ++ b ∧ powM X r a ∧ X b
  | 0, l => by
    simp only [powM]
    constructor
    · rintro ⟨a, b, h1, h2, h3⟩; subst h3; exact ⟨[], a, by simpa using h1, rfl, h2⟩
    · rintro ⟨a, b, h1, h2, h3⟩; subst h2; exact ⟨b, [], by simpa using h1, h3, rfl⟩
  | r + 1, l => by
    constructor
    · rintro ⟨a, b, h1, h2, h3⟩
      obtain ⟨c, d, h4, h5, h6⟩ := (powM_snoc X r b).1 h3
      exact ⟨a ++ c, d, by rw [h1, h4]; simp, ⟨a, c, rfl, h2, h5⟩, h6⟩
    · rintro ⟨a, b, h1, ⟨c, d, h2, h3, h4⟩, h5⟩
      exact ⟨c, d ++ b, by rw [h1, h2]; simp, h3, (powM_snoc X r _).2 ⟨d, b, rfl, h4, h5⟩⟩
/-- a stretch is two stretches -/
theorem seg_split (zs : List Int) (a k n : Nat) (hk : k ≤ n) (hn : a + n ≤ zs.length) : (zs.drop a).take n = (zs.drop a).take k ++ (zs.drop (a + k)).take (n - k) := by
  have h1 : (zs.drop a).take n = (zs.drop a).take (k + (n - k)) := by rw [show k + (n - k) = n by omega]
  rw [h1, List.take_add, List.drop_drop]
theorem seg_len (zs : List Int) (a n : Nat) (hn : a + n ≤ zs.length) : ((zs.drop a).take n).length = n := by simp; omega
/-- each splitting of a stretch is one of these -/
theorem seg_parts (zs : List Int) (a n : Nat) (hn : a + n ≤ zs.length) {x y : List Int} (h : (zs.drop a).take n = x ++ y) : x.length ≤ n ∧ x = (zs.drop a).take x.length ∧ y = (zs.drop (a + x.length)).take (n - x.length) := by
  have hl := seg_len zs a n hn
  have hx : x.length ≤ n := by rw [h] at hl; simp at hl; omega
  have h2 := seg_split zs a x.length n hx hn
  rw [h] at h2
  have hl2 : ((zs.drop a).take x.length).length = x.length := seg_len zs a _ (by omega)
  obtain ⟨e1, e2⟩ := List.append_inj h2 hl2.symm
  exact ⟨hx, e1, e2⟩

section
variable {zs : List Int} {Φ : Nat → Option Tm} {m : Nat}

def SS (zs : List Int) (t : Tm) (a : Nat) (P : Nat → Prop) : Nat → Nat → Prop
  | 0, n => P n
  | i + 1, n => SS zs t a P i n ∨ (SS zs t a P i i ∧ i ≤ n ∧ InL zs t (a + i) (n - i))
theorem SS.mono {t : Tm} {a : Nat} {P : Nat → Prop} {i n : Nat} (h : SS zs t a P i n) : ∀ d, SS zs t a P (i + d) n
  | 0 => h
  | d + 1 => .inl (SS.mono h d)
theorem SS.late {t : Tm} {a : Nat} {P : Nat → Prop} {n : Nat} : ∀ i, n < i → SS zs t a P i n → SS zs t a P n n
  | 0, h, _ => by omega
  | i + 1, h, hs => by
    rcases hs with hs | ⟨h1, h2, h3⟩
    · by_cases e : n = i
      · subst e; exact hs
      · exact SS.late i (by omega) hs
    · have e : n = i := by omega
      subst e; exact h1
/-- some text, then any number of them -/
def StarL (zs : List Int) (t : Tm) (a : Nat) (P : Nat → Prop) (n : Nat) : Prop := a + n ≤ zs.length ∧ ∃ k, k ≤ n ∧ P k ∧ ∃ r, powM (M t) r ((zs.drop (a + k)).take (n - k))
theorem SS_star {t : Tm} {a : Nat} {P : Nat → Prop} (hP : ∀ n, P n → a + n ≤ zs.length) : ∀ i n, SS zs t a P i n → StarL zs t a P n
  | 0, n, h => ⟨hP n h, n, Nat.le_refl _, h, 0, by simp [powM]⟩
  | i + 1, n, h => by
    rcases h with h | ⟨h1, h2, h3⟩
    · exact SS_star hP i n h
    · obtain ⟨k1, k, k2, k3, r, k4⟩ := SS_star hP i i h1
      have hn : a + n ≤ zs.length := by have := h3.1; omega
      refine ⟨hn, k, by omega, k3, r + 1, (powM_snoc _ r _).2 ⟨_, _, ?_, k4, h3.2⟩⟩
      have := seg_split zs (a + k) (i - k) (n - k) (by omega) (by omega)
      rw [this, show a + k + (i - k) = a + i by omega, show n - k - (i - k) = n - i by omega]
theorem star_SS {t : Tm} {a : Nat} {P : Nat → Prop} (hz : zs.length ≤ 40) (n : Nat) (h : StarL zs t a P n) : SS zs t a P 64 n := by
  obtain ⟨hn, k, hk, hp, r, hr⟩ := h
  have hk0 : SS zs t a P 64 k := by have := SS.mono (i := 0) (show SS zs t a P 0 k from hp) 64; simpa using this
  clear hp
  induction r generalizing k with
  | zero =>
    have : n - k = 0 := by
      have h1 : (List.take (n - k) (List.drop (a + k) zs)) = [] := hr
      have h2 := seg_len zs (a + k) (n - k) (by omega)
      rw [h1] at h2; simpa using h2.symm
    have : k = n := by omega
    subst this; exact hk0
  | succ r ih =>
    obtain ⟨x, y, h1, h2, h3⟩ := hr
    obtain ⟨p1, p2, p3⟩ := seg_parts zs (a + k) (n - k) (by omega) h1
    refine ih (k + x.length) (by omega) ?_ ?_
    · rw [p3] at h3
      rw [show a + (k + x.length) = a + k + x.length by omega, show n - (k + x.length) = n - k - x.length by omega]
      exact h3
    · have hkk := SS.late 64 (by omega) hk0
      have : SS zs t a P (k + 1) (k + x.length) := .inr ⟨hkk, by omega, by omega, by rw [show k + x.length - k = x.length by omega, ← p2]; exact h2⟩
      have := SS.mono this (63 - k)
      rwa [show k + 1 + (63 - k) = 64 by omega] at this
theorem SS_le {t : Tm} {a : Nat} {P : Nat → Prop} (hz : zs.length ≤ 40) (hP : ∀ n, P n → a + n ≤ zs.length) {i n : Nat} (h : SS zs t a P i n) : a + n ≤ zs.length := (SS_star hP i n h).1
theorem SS_step {t : Tm} {a i N N2 : Nat} {P : Nat → Prop} (h : BitsOf (SS zs t a P i) N) (hi : SS zs t a P i i) (h2 : BitsOf (InL zs t (a + i)) N2) : BitsOf (SS zs t a P (i + 1)) (N ||| N2 * 2 ^ i) := by
  intro n
  rw [Nat.testBit_or, Bool.or_eq_true, h n, Nat.testBit_mul_two_pow]
  simp only [Bool.and_eq_true, decide_eq_true_eq, h2 (n - i)]
  exact ⟨fun h => h.elim .inl fun h => .inr ⟨hi, h⟩, fun h => h.elim .inl fun h => .inr h.2⟩
theorem SS_skip {t : Tm} {a i N : Nat} {P : Nat → Prop} (h : BitsOf (SS zs t a P i) N) (hi : ¬ SS zs t a P i i) : BitsOf (SS zs t a P (i + 1)) N :=
  h.congr fun n => ⟨.inl, fun h => h.elim id fun h => absurd h.1 hi⟩

/-- what a call gives that goes on with a row of its caller's own -/
structure GivesR (zs : List Int) (Φ : Nat → Option Tm) (m : Nat) (ok : Nat → Prop) (w : World) (B : Nat) (ov : Value) (P : Nat → Prop) (e : Ending) (w' : World) : Prop where
  all : ∃ v N kept, e = .returned v ∧ OwnL w' B v N ∧ BitsOf P N ∧ MS zs Φ m (fun b => orNew ok w b ∧ v.ownBlock ≠ some b) w' kept ∧ w.heap.size ≤ w'.heap.size ∧ w'.os = w.os ∧ w'.tape = w.tape ∧ w'.output = w.output ∧ (∀ b, b < w.heap.size → Still Φ m b → ov.ownBlock ≠ some b → w'.heap[b]? = w.heap[b]?) ∧ ∀ k, v.ownBlock = some k → ov.ownBlock = some k ∨ w.heap.size ≤ k

theorem OwnL.kk {w : World} {B : Nat} {v : Value} {N : Nat} (h : OwnL w B v N) : ∃ a k c, v = .slice a k c ∧ k ≤ 1 ∧ (k = 0 → N = 0) := by
  rcases h.slice with ⟨h0, rfl⟩ | ⟨g, c, rfl, h0⟩ | ⟨g, c, rfl, _⟩
  · exact ⟨_, _, _, rfl, by omega, fun _ => h0⟩
  · exact ⟨_, _, _, rfl, by omega, fun _ => h0⟩
  · exact ⟨_, _, _, rfl, by omega, by omega⟩

set_option maxHeartbeats 4000000 in
theorem onAndOn_any {t : Tm} (hz : zs.length ≤ 40) (hF : FromC zs Φ m t) {ok : Nat → Prop} {ws w : World} {v0 sv : Value} {N0 a kept B : Nat} {P : Nat → Prop} (hws : ws.heap.size ≤ B) (hfr : Fr Φ m ws w) (hSP : SP Φ m ws sv t) (hO0 : OwnL w B v0 N0) (hBw : B ≤ w.heap.size) (hst0 : ∀ k, v0.ownBlock = some k → Still Φ m k) (hBst : ∀ k, B ≤ k → Still Φ m k) (hMS : MS zs Φ m (fun b => ok b ∧ v0.ownBlock ≠ some b) w kept) (hokS : ∀ b, ok b → Still Φ m b) (hP : BitsOf P N0) (hPb : ∀ n, P n → a + n ≤ zs.length) :
    Calls Tryz.prog 122 #[.pointer (some ⟨m, 0, none⟩), v0, sv, .int .i64 a] w fun e w' => GivesR zs Φ m ok w B v0 (StarL zs t a P) e w' := by
  have HF : Hid (FromC zs Φ m t) := hF
  have HSP : Hid (SP Φ m ws sv t) := hSP
  have HFR : Hid (Fr Φ m ws w) := hfr
  have HMS : Hid (MS zs Φ m (fun b => ok b ∧ v0.ownBlock ≠ some b) w kept) := hMS
  have HPb : Hid (∀ n, P n → a + n ≤ zs.length) := hPb
  have HEnd : Hid (∀ (N i : Nat), BitsOf (SS zs t a P i) N → ((i = 64) ∨ (i = 0 ∧ N = 0)) → BitsOf (StarL zs t a P) N) := fun N i h hi => by
    rcases hi with rfl | ⟨rfl, rfl⟩
    · exact h.congr fun n => ⟨SS_star hPb 64 n, star_SS hz n⟩
    · refine fun n => ⟨fun h' => by simp at h', fun h' => ?_⟩
      exfalso
      obtain ⟨_, k, _, hk, _⟩ := h'
      have := (h k).2 hk
      simp at this
  have HO0 : Hid (OwnL w B v0 N0) := hO0
  have HP : Hid (BitsOf P N0) := hP
  have HSt : Hid (∀ k, B ≤ k → Still Φ m k) := hBst
  have HokS : Hid (∀ b, ok b → Still Φ m b) := hokS
  obtain ⟨sb, hsv⟩ : ∃ sb, sv = .pointer (some ⟨sb, 0, none⟩) := by
    obtain ⟨n, h⟩ := hSP
    cases n with
    | zero => exact h.elim
    | succ n => obtain ⟨sb, _, _, _, _, h1, _⟩ := h; exact ⟨sb, h1⟩
  subst hsv
  have hfl := hO0.lt
  clear hF hSP hfr hMS hP hPb hBst hokS hO0 hst0
  go_enter Tryz.func122, Tryz.ntmps122
  go_wp2
  go_loopw [1, 9] (fun ov iv wr => ∃ i : Nat, i ≤ 64 ∧ iv = .int .i64 i ∧ ∃ N kept, OwnL wr B ov N ∧ BitsOf (SS zs t a P i) N ∧ (i = 0 ∨ slenOf ov = 1) ∧ MS zs Φ m (fun b => orNew ok w b ∧ ov.ownBlock ≠ some b) wr kept ∧ w.heap.size ≤ wr.heap.size ∧ wr.os = w.os ∧ wr.tape = w.tape ∧ wr.output = w.output ∧ (∀ b, b < w.heap.size → Still Φ m b → v0.ownBlock ≠ some b → wr.heap[b]? = w.heap[b]?) ∧ ∀ k, ov.ownBlock = some k → v0.ownBlock = some k ∨ w.heap.size ≤ k) (fun _ iv _ => 64 - (intOf iv).toNat)
  case atStart => exact ⟨0, Nat.zero_le _, rfl, N0, kept, HO0.out, HP.out, .inl rfl, HMS.out.imp (fun b _ hb => ⟨.inl hb.1, hb.2⟩) (fun b hb => hb.1.elim (HokS.out b) fun h => HSt.out b (Nat.le_trans hBw h)), Nat.le_refl _, rfl, rfl, rfl, fun _ _ _ _ => rfl, fun k hk => .inl hk⟩
  case round =>
    obtain ⟨i, hi, rfl, N, kp, hO, hB, hn0, hM, hs1, hs2, hs3, hs4, hs5, hs6⟩ := hrel
    obtain ⟨oa, kk, oc, rfl, hkk, hk0⟩ := hO.kk
    have HLE : Hid (Calls Tryz.prog 120 #[.slice oa kk oc] wr fun e w' => e = .returned (.int .i64 ((kk : Int) * 64)) ∧ w' = wr) := lend_any oa kk oc wr hkk
    by_cases hlt : i < kk * 64
    · have hi64 : i < 64 := by omega
      have hk1 : kk = 1 := by omega
      subst hk1
      have hN64 : N < 2 ^ 64 := Nat.lt_trans (hB.lt fun n hn => by have := SS_le hz HPb.out hn; omega) (by decide)
      have HL : Hid (Calls Tryz.prog 35 #[.slice oa 1 oc, .int .i64 i] wr fun e w' => e = .returned (.bool (N.testBit i)) ∧ w' = wr) := lhas_any hO.len hN64 hi64
      have hFw : Fr Φ m ws wr := ⟨hs2.trans HFR.out.os, hs3.trans HFR.out.tape, hs4.trans HFR.out.output, Nat.le_trans HFR.out.size hs1, fun b hb hs => (hs5 b (Nat.lt_of_lt_of_le hb HFR.out.size) hs (fun e => by have := (hfl b e).1; omega)).trans (HFR.out.block b hb hs)⟩
      have hltO := hO.lt
      have hStO : ∀ k, (Value.slice oa 1 oc).ownBlock = some k → Still Φ m k := fun k hk => HSt.out k (hltO k hk).1
      have HS5 : Hid (∀ b, b < w.heap.size → Still Φ m b → v0.ownBlock ≠ some b → wr.heap[b]? = w.heap[b]?) := hs5
      have HS6 : Hid (∀ k, (Value.slice oa 1 oc).ownBlock = some k → v0.ownBlock = some k ∨ w.heap.size ≤ k) := hs6
      cases hb : N.testBit i
      · rw [hb] at HL
        have HB2 : Hid (BitsOf (SS zs t a P (i + 1)) N) := SS_skip hB (fun h => by have := (hB i).2 h; rw [hb] at this; simp at this)
        have HO : Hid (OwnL wr B (.slice oa 1 oc) N) := hO
        have HM : Hid (MS zs Φ m (fun b => orNew ok w b ∧ (Value.slice oa 1 oc).ownBlock ≠ some b) wr kp) := hM
        clear hO hB hM hs5 hs6 hb hn0 hFw hltO hStO
        go_wp2_with fail
        refine HLE.out.mono ?_
        rintro e w2 ⟨rfl, rfl⟩
        go_wp2_with fail
        refine HL.out.mono ?_
        rintro e w2 ⟨rfl, rfl⟩
        go_wp2
        go_roundw
        case rel => exact ⟨i + 1, by omega, by go_num, N, kp, HO.out, HB2.out, .inr rfl, HM.out, hs1, hs2, hs3, hs4, HS5.out, HS6.out⟩
        case measure => simp [intOf]; omega
      · rw [hb] at HL
        have hSi : SS zs t a P i i := (hB i).1 hb
        have hai : a + i ≤ zs.length := SS_le hz HPb.out hSi
        have hNne : N ≠ 0 := fun e => by rw [e] at hb; simp at hb
        have HC : Hid (Calls Tryz.prog 33 #[.pointer (some ⟨m, 0, none⟩), .pointer (some ⟨sb, 0, none⟩), .int .i64 ((a + i : Nat) : Int)] wr fun e w' => Gives zs Φ m (fun b => orNew ok w b ∧ (Value.slice oa 1 oc).ownBlock ≠ some b) wr (InL zs t (a + i)) e w') := HF.out _ wr _ (a + i) kp (HSP.out.fr hFw) hM hai
        have HJ : Hid (∀ w2 v N2, Fr Φ m wr w2 → LenV (orNew (fun b => orNew ok w b ∧ (Value.slice oa 1 oc).ownBlock ≠ some b) wr) w2 v N2 → BitsOf (InL zs t (a + i)) N2 → Calls Tryz.prog 95 #[.slice oa 1 oc, v, .int .i64 i] w2 fun e w' => Lens w2 B (Value.slice oa 1 oc).ownBlock (N ||| N2 * 2 ^ i) e w') := fun w2 v N2 hf2 hv hb2 => ljoin_any i (Nat.le_trans hBw (Nat.le_trans hs1 hf2.size)) hi64 hN64 (shift_lt hz hb2) (hO.fr hf2 hStO) hv
        have HMM : Hid (∀ w2 w3 v3 kp2, Fr Φ m wr w2 → MS zs Φ m (orNew (fun b => orNew ok w b ∧ (Value.slice oa 1 oc).ownBlock ≠ some b) wr) w2 kp2 → w2.grownBy w3 (Value.slice oa 1 oc).ownBlock → (∀ k, v3.ownBlock = some k → (Value.slice oa 1 oc).ownBlock = some k ∨ w2.heap.size ≤ k) → MS zs Φ m (fun b => orNew ok w b ∧ Value.ownBlock v3 ≠ some b) w3 kp2 ∧ w.heap.size ≤ w3.heap.size ∧ w3.os = w.os ∧ w3.tape = w.tape ∧ w3.output = w.output ∧ (∀ b, b < w.heap.size → Still Φ m b → v0.ownBlock ≠ some b → w3.heap[b]? = w.heap[b]?) ∧ ∀ k, v3.ownBlock = some k → v0.ownBlock = some k ∨ w.heap.size ≤ k) := fun w2 w3 v3 kp2 hf2 hM2 hg hat => by
          refine ⟨hM2.lens (okA := orNew ok w) ?_ hStO hg hat (fun b hb => hb.elim (HokS.out b) fun h => HSt.out b (Nat.le_trans hBw h)), Nat.le_trans hs1 (Nat.le_trans hf2.size hg.size), hg.os.trans (hf2.os.trans hs2), hg.tape.trans (hf2.tape.trans hs3), hg.output.trans (hf2.output.trans hs4), ?_, ?_⟩
          · intro b hb2 hb
            rcases hb with hb | hb
            · exact hb
            · exact ⟨.inr (Nat.le_trans hs1 hb), fun e => by have := (hltO b e).2; omega⟩
          · intro b hb1 hbs hne
            rw [hg.block b (Nat.lt_of_lt_of_le hb1 (Nat.le_trans hs1 hf2.size)) ?_, hf2.block b (Nat.lt_of_lt_of_le hb1 hs1) hbs]
            · exact HS5.out b hb1 hbs hne
            · intro e
              rcases HS6.out b e.symm with h' | h'
              · exact hne h'
              · omega
          · intro k hk
            rcases hat k hk with h' | h'
            · exact HS6.out k h'
            · exact .inr (Nat.le_trans hs1 (Nat.le_trans hf2.size h'))
        have HTh : Hid (∀ N2, BitsOf (InL zs t (a + i)) N2 → BitsOf (SS zs t a P (i + 1)) (N ||| N2 * 2 ^ i)) := fun N2 h2 => SS_step hB hSi h2
        have HADD : Hid ((a : Int) + (i : Int) = ((a + i : Nat) : Int)) := by show _ = _; omega
        have HSL : Hid (∀ w4 v4 N2, OwnL w4 B v4 (N ||| N2 * 2 ^ i) → slenOf v4 = 1) := fun w4 v4 N2 h4 => by
          obtain ⟨a4, k4, c4, rfl, h5, h6⟩ := h4.kk
          simp only [slenOf]
          rcases Nat.eq_zero_or_pos k4 with h0 | h0
          · have := h6 h0
            exact absurd (Nat.or_eq_zero_iff.1 this).1 hNne
          · omega
        clear hO hB hM hb hltO hStO hs5 hs6 hn0 hFw HS5 HS6
        go_wp2_with fail
        refine HLE.out.mono ?_
        rintro e w2 ⟨rfl, rfl⟩
        go_wp2_with fail
        refine HL.out.mono ?_
        rintro e w2 ⟨rfl, rfl⟩
        go_wp2_with fail
        rw [HADD.out]
        refine HC.out.mono ?_
        intro e w3 hG
        obtain ⟨v3, N3, kp3, rfl, hv3, hb3, hM3, hf3⟩ := hG.all
        have HJ3 := HJ.out w3 v3 N3 hf3 hv3 hb3
        have HM3 := fun w4 v4 hg hat => HMM.out w3 w4 v4 kp3 hf3 hM3 hg hat
        have HM3' : Hid (∀ w4 v4, w3.grownBy w4 (Value.slice oa 1 oc).ownBlock → (∀ k, Value.ownBlock v4 = some k → (Value.slice oa 1 oc).ownBlock = some k ∨ w3.heap.size ≤ k) → MS zs Φ m (fun b => orNew ok w b ∧ Value.ownBlock v4 ≠ some b) w4 kp3 ∧ w.heap.size ≤ w4.heap.size ∧ w4.os = w.os ∧ w4.tape = w.tape ∧ w4.output = w.output ∧ (∀ b, b < w.heap.size → Still Φ m b → v0.ownBlock ≠ some b → w4.heap[b]? = w.heap[b]?) ∧ ∀ k, v4.ownBlock = some k → v0.ownBlock = some k ∨ w.heap.size ≤ k) := HM3
        have HTT : Hid (BitsOf (SS zs t a P (i + 1)) (N ||| N3 * 2 ^ i)) := HTh.out N3 hb3
        clear hG hv3 hb3 hM3 HTh HMM HJ HM3
        go_wp2_with fail
        refine HJ3.mono ?_
        rintro e w4 ⟨v4, rfl, hO4, hg4, hat4⟩
        have H4 := HM3'.out w4 v4 hg4 hat4
        have HH4 : Hid (MS zs Φ m (fun b => orNew ok w b ∧ Value.ownBlock v4 ≠ some b) w4 kp3 ∧ w.heap.size ≤ w4.heap.size ∧ w4.os = w.os ∧ w4.tape = w.tape ∧ w4.output = w.output ∧ (∀ b, b < w.heap.size → Still Φ m b → v0.ownBlock ≠ some b → w4.heap[b]? = w.heap[b]?) ∧ ∀ k, v4.ownBlock = some k → v0.ownBlock = some k ∨ w.heap.size ≤ k) := H4
        have HO4 : Hid (OwnL w4 B v4 (N ||| N3 * 2 ^ i)) := hO4
        clear hO4 hg4 hat4 H4 HM3'
        go_wp2
        go_roundw
        case rel => exact ⟨i + 1, by omega, by go_num, _, kp3, HO4.out, HTT.out, .inr (HSL.out w4 v4 N3 HO4.out), HH4.out⟩
        case measure => simp [intOf]; omega
    · have hfin : (i = 64) ∨ (i = 0 ∧ N = 0) := by
        rcases Nat.eq_zero_or_pos kk with h0 | h0
        · have := hk0 h0
          rcases hn0 with h | h
          · exact .inr ⟨h, this⟩
          · simp only [slenOf] at h; omega
        · left; omega
      have hcast : ¬ ((i : Int) < (kk : Int) * 64) := by omega
      have HO : Hid (OwnL wr B (.slice oa kk oc) N) := hO
      have HB2 : Hid (BitsOf (StarL zs t a P) N) := HEnd.out N i hB hfin
      have HM : Hid (MS zs Φ m (fun b => orNew ok w b ∧ (Value.slice oa kk oc).ownBlock ≠ some b) wr kp) := hM
      have HS5 : Hid (∀ b, b < w.heap.size → Still Φ m b → v0.ownBlock ≠ some b → wr.heap[b]? = w.heap[b]?) := hs5
      have HS6 : Hid (∀ k, (Value.slice oa kk oc).ownBlock = some k → v0.ownBlock = some k ∨ w.heap.size ≤ k) := hs6
      clear hO hB hM hs5 hs6 hfin hn0
      go_wp2_with fail
      refine HLE.out.mono ?_
      rintro e w2 ⟨rfl, rfl⟩
      go_wp2
      go_ret
      exact ⟨_, N, kp, rfl, HO.out, HB2.out, HM.out, hs1, hs2, hs3, hs4, HS5.out, HS6.out⟩
end
end Go.Proofs.YtbjohedenfindaaGreatDoor

namespace Go.Proofs.YtbjohedenfindaaGreatDoor
open Go.RowKit
set_option linter.unusedVariables false
set_option maxRecDepth 100000

section
variable {zs : List Int} {Φ : Nat → Option Tm} {m : Nat}

def PowL (zs : List Int) (t : Tm) (a r n : Nat) : Prop := a + n ≤ zs.length ∧ powM (M t) r ((zs.drop a).take n)
theorem pow_zero {t : Tm} {a : Nat} (ha : a ≤ zs.length) : BitsOf (PowL zs t a 0) (2 ^ 0) := by
  intro n
  constructor
  · intro h
    have : n = 0 := by
      cases n with
      | zero => rfl
      | succ n => simp [Nat.testBit_succ] at h
    subst this
    exact ⟨by omega, by simp [powM]⟩
  · rintro ⟨h1, h2⟩
    have h3 := seg_len zs a n h1
    rw [show List.take n (List.drop a zs) = [] from h2] at h3
    have : n = 0 := by simpa using h3.symm
    subst this; decide
theorem pow_next {t : Tm} {a r : Nat} (n : Nat) : (∃ k, k ≤ n ∧ PowL zs t a r k ∧ InL zs t (a + k) (n - k)) ↔ PowL zs t a (r + 1) n := by
  constructor
  · rintro ⟨k, h1, h2, h3⟩
    have hn : a + n ≤ zs.length := by have := h3.1; omega
    exact ⟨hn, (powM_snoc _ r _).2 ⟨_, _, seg_split zs a k n h1 hn, h2.2, h3.2⟩⟩
  · rintro ⟨h1, h2⟩
    obtain ⟨x, y, e, h3, h4⟩ := (powM_snoc _ r _).1 h2
    obtain ⟨p1, p2, p3⟩ := seg_parts zs a n h1 e
    refine ⟨x.length, p1, ⟨by omega, by rw [← p2]; exact h3⟩, by omega, by rw [← p3]; exact h4⟩
theorem powM_add (X : List Int → Prop) : ∀ (r s : Nat) (l : List Int), powM X (r + s) l ↔ ∃ a b, l = a ++ b ∧ powM X r a ∧ powM X s b
  | 0, s, l => by
    rw [Nat.zero_add]
    constructor
    · intro h; exact ⟨[], l, rfl, rfl, h⟩
    · rintro ⟨a, b, h1, h2, h3⟩
      have h2' : a = [] := h2
      subst h2'; rw [h1]; simpa using h3
  | r + 1, s, l => by
    rw [show r + 1 + s = (r + s) + 1 by omega]
    constructor
    · rintro ⟨a, b, h1, h2, h3⟩
      obtain ⟨c, d, h4, h5, h6⟩ := (powM_add X r s b).1 h3
      exact ⟨a ++ c, d, by rw [h1, h4]; simp, ⟨a, c, rfl, h2, h5⟩, h6⟩
    · rintro ⟨a, b, h1, ⟨c, d, h2, h3, h4⟩, h5⟩
      exact ⟨c, d ++ b, by rw [h1, h2]; simp, h3, (powM_add X r s _).2 ⟨d, b, rfl, h4, h5⟩⟩
theorem star_rep {t : Tm} {a lo : Nat} (n : Nat) : StarL zs t a (PowL zs t a lo) n ↔ InL zs (repT t (lo : Int) (-1)) a n := by
  constructor
  · rintro ⟨h1, k, h2, h3, r, h4⟩
    exact ⟨h1, (M_rep _ _ _ _).2 ⟨lo + r, by omega, .inl rfl, (powM_add _ lo r _).2 ⟨_, _, seg_split zs a k n h2 h1, h3.2, h4⟩⟩⟩
  · rintro ⟨h1, h2⟩
    obtain ⟨c, h3, _, h4⟩ := (M_rep _ _ _ _).1 h2
    obtain ⟨r, rfl⟩ : ∃ r, c = lo + r := ⟨c - lo, by omega⟩
    obtain ⟨x, y, e, h5, h6⟩ := (powM_add _ lo r _).1 h4
    obtain ⟨p1, p2, p3⟩ := seg_parts zs a n h1 e
    exact ⟨h1, x.length, p1, ⟨by omega, by rw [← p2]; exact h5⟩, r, by rw [← p3]; exact h6⟩
def SomeL (zs : List Int) (t : Tm) (a lo i n : Nat) : Prop := ∃ r, lo ≤ r ∧ r ≤ lo + i ∧ PowL zs t a r n
theorem some_rep {t : Tm} {a lo hi : Nat} (h : lo ≤ hi) (n : Nat) : SomeL zs t a lo (hi - lo) n ↔ InL zs (repT t (lo : Int) (hi : Int)) a n := by
  constructor
  · rintro ⟨r, h1, h2, h3, h4⟩
    exact ⟨h3, (M_rep _ _ _ _).2 ⟨r, by omega, .inr (by omega), h4⟩⟩
  · rintro ⟨h1, h2⟩
    obtain ⟨c, h3, h4, h5⟩ := (M_rep _ _ _ _).1 h2
    exact ⟨c, by omega, by omega, h1, h5⟩
theorem some_next {t : Tm} {a lo i N N2 : Nat} (h : BitsOf (SomeL zs t a lo i) N) (h2 : BitsOf (PowL zs t a (lo + i + 1)) N2) : BitsOf (SomeL zs t a lo (i + 1)) (N ||| N2 * 2 ^ 0) := by
  intro n
  rw [Nat.pow_zero, Nat.mul_one, Nat.testBit_or, Bool.or_eq_true, h n, h2 n]
  constructor
  · rintro (⟨r, h1, h2, h3⟩ | h1)
    · exact ⟨r, h1, by omega, h3⟩
    · exact ⟨lo + i + 1, by omega, by omega, h1⟩
  · rintro ⟨r, h1, h2, h3⟩
    by_cases e : r = lo + i + 1
    · subst e; exact .inr h3
    · exact .inl ⟨r, h1, by omega, h3⟩
theorem OwnL.base {w : World} {B B' : Nat} {v : Value} {N : Nat} (h : OwnL w B v N) (hb : B' ≤ B) : OwnL w B' v N := by
  obtain ⟨xs, hx, hown⟩ := h
  refine ⟨xs, hx, hown.1, ?_⟩
  rcases hown.2 with h' | ⟨g, cap, cur, h1, h2, h3⟩
  · exact .inl h'
  · exact .inr ⟨g, cap, cur, h1, Nat.le_trans hb h2, h3⟩
theorem powL_le {t : Tm} {a r n : Nat} (h : PowL zs t a r n) : a + n ≤ zs.length := h.1

set_option maxHeartbeats 8000000 in
theorem mrepeat_any {x : Tm} {lo : Nat} {hi : Int} (hz : zs.length ≤ 40) (hF : FromC zs Φ m x) (hlo : lo ≤ 50) (hhi : hi = -1 ∨ ((lo : Int) ≤ hi ∧ hi ≤ 50)) {ok : Nat → Prop} {w : World} {sb re g off b1 kc : Nat} {a kept : Nat} (hsb : sb < w.heap.size) (hssb : Still Φ m sb) (hre : re < w.heap.size) (hsre : Still Φ m re)
    (c0 : w.cell? ⟨sb, 0, none⟩ = some (.pointer (some ⟨re, 0, none⟩))) (c1 : w.cell? ⟨sb, 1, none⟩ = some (.slice (some ⟨g, off, none⟩) 1 kc)) (cu : w.cell? ⟨g, off, none⟩ = some (.pointer (some ⟨b1, 0, none⟩))) (r2 : w.cell? ⟨re, 2, none⟩ = some (.int .i64 (lo : Int))) (r3 : w.cell? ⟨re, 3, none⟩ = some (.int .i64 hi))
    (hSP : SP Φ m w (.pointer (some ⟨b1, 0, none⟩)) x) (hMS : MS zs Φ m ok w kept) (ha : a ≤ zs.length) :
    Calls Tryz.prog 98 #[.pointer (some ⟨m, 0, none⟩), .pointer (some ⟨sb, 0, none⟩), .int .i64 a] w fun e w' => GivesO zs Φ m ok w (InL zs (repT x lo hi) a) e w' := by
  have HF : Hid (FromC zs Φ m x) := hF
  have HSP : Hid (SP Φ m w (.pointer (some ⟨b1, 0, none⟩)) x) := hSP
  have HMS : Hid (MS zs Φ m ok w kept) := hMS
  have HCell : Hid (∀ w', Fr Φ m w w' → w'.cell? ⟨sb, 0, none⟩ = some (.pointer (some ⟨re, 0, none⟩)) ∧ w'.cell? ⟨re, 2, none⟩ = some (.int .i64 (lo : Int)) ∧ w'.cell? ⟨re, 3, none⟩ = some (.int .i64 hi)) := fun w' hf => ⟨(hf.cell hsb hssb).trans c0, (hf.cell hre hsre).trans r2, (hf.cell hre hsre).trans r3⟩
  have HJ1 : Hid (Calls Tryz.prog 93 #[.int .i64 0] w fun e w' => ∃ v, e = .returned v ∧ OwnL w' w.heap.size v (2 ^ 0) ∧ Below w.heap.size w w') := justOne_any 0 (by omega)
  have HBh : Hid (∀ (okA : Nat → Prop) (wr : World) (lv : Value) (N kp i : Nat), Fr Φ m w wr → OwnL wr w.heap.size lv N → BitsOf (PowL zs x a i) N → MS zs Φ m okA wr kp → Calls Tryz.prog 94 #[.pointer (some ⟨m, 0, none⟩), lv, .pointer (some ⟨b1, 0, none⟩), .int .i64 a] wr fun e w' => GivesO zs Φ m okA wr (PowL zs x a (i + 1)) e w') := fun okA wr lv N kp i hf hO hB hM => by
    have h := mbehind_any hz HF.out (HSP.out.fr hf) hM (hO.len.imp fun b hb => HMS.out.fresh hb) hB (fun n hn => powL_le hn)
    refine h.mono fun e w' hG => ?_
    obtain ⟨v, N2, k2, h1, h2, h3, h4, h5⟩ := hG.all
    exact ⟨v, N2, k2, h1, h2, h3.congr pow_next, h4, h5⟩
  have HNx : Hid (∀ (wr w2 : World) (lv v2 : Value) (kp : Nat), Fr Φ m w wr → OwnL w2 wr.heap.size v2 0 ∨ True → MS zs Φ m (fun b => orNew (fun b => orNew ok w b ∧ lv.ownBlock ≠ some b) wr b ∧ v2.ownBlock ≠ some b) w2 kp → MS zs Φ m (fun b => orNew ok w b ∧ Value.ownBlock v2 ≠ some b) w2 kp) := fun wr w2 lv v2 kp hf _ hM => hM.imp (fun b _ hb => ⟨hb.1.elim (fun h => h.1) fun h => .inr (Nat.le_trans hf.size h), hb.2⟩) fun b hb => HMS.out.orNew b hb.1
  have HOn : Hid (hi = -1 → ∀ (wr : World) (lv : Value) (N kp : Nat), Fr Φ m w wr → OwnL wr w.heap.size lv N → BitsOf (PowL zs x a lo) N → MS zs Φ m (fun b => orNew ok w b ∧ lv.ownBlock ≠ some b) wr kp → Calls Tryz.prog 122 #[.pointer (some ⟨m, 0, none⟩), lv, .pointer (some ⟨b1, 0, none⟩), .int .i64 a] wr fun e w' => GivesO zs Φ m ok w (InL zs (repT x lo hi) a) e w') := fun hh wr lv N kp hf hO hB hM => by
    have hlt := hO.lt
    have h := onAndOn_any (ok := orNew ok w) (ws := w) (B := w.heap.size) hz HF.out (Nat.le_refl _) hf HSP.out hO hf.size (fun k hk => HMS.out.fresh (hlt k hk).1) (fun k hk => HMS.out.fresh hk) hM HMS.out.orNew hB (fun n hn => powL_le hn)
    refine h.mono fun e w' hG => ?_
    obtain ⟨v, N2, k2, h1, h2, h3, h4, h5, h6, h7, h8, h9, h10⟩ := hG.all
    refine ⟨v, N2, k2, h1, h2, h3.congr fun n => by rw [hh]; exact star_rep n, ?_, ⟨h6.trans hf.os, h7.trans hf.tape, h8.trans hf.output, Nat.le_trans hf.size h5, fun b hb hs => (h9 b (Nat.lt_of_lt_of_le hb hf.size) hs (fun e => by have := (hlt b e).1; omega)).trans (hf.block b hb hs)⟩⟩
    exact h4.imp (fun b _ hb => ⟨hb.1.elim id fun h => .inr (Nat.le_trans hf.size h), hb.2⟩) fun b hb => HMS.out.orNew b hb.1
  have HSR : Hid (∀ (h : Nat), hi = (h : Int) → lo ≤ h → ∀ n, SomeL zs x a lo (h - lo) n ↔ InL zs (repT x (lo : Int) hi) a n) := fun h hh hl n => by rw [hh]; exact some_rep hl n
  have HS0 : Hid (∀ N, BitsOf (PowL zs x a lo) N → BitsOf (SomeL zs x a lo 0) N) := fun N h => h.congr fun n => ⟨fun h => ⟨lo, Nat.le_refl _, by omega, h⟩, fun ⟨r, h1, h2, h3⟩ => by
    have : r = lo := by omega
    subst this; exact h3⟩
  have HP0 : Hid (BitsOf (PowL zs x a 0) (2 ^ 0)) := pow_zero ha
  generalize repT x (lo : Int) hi = rt at *
  clear hF hSP hMS
  go_enter Tryz.func98, Tryz.ntmps98
  go_wp2_with fail
  refine HJ1.out.mono ?_
  rintro e w1 ⟨v1, rfl, hO1, hb1⟩
  obtain ⟨d0, d2, d3⟩ := HCell.out w1 (Fr.below hb1)
  have HO1 : Hid (OwnL w1 w.heap.size v1 (2 ^ 0)) := hO1
  have HB1 : Hid (Below w.heap.size w w1) := hb1
  have hlt1 := hO1.lt
  have HM1 : Hid (MS zs Φ m (fun b => orNew ok w b ∧ v1.ownBlock ≠ some b) w1 kept) := ((HMS.out.imp (ok' := fun b => ok b ∧ b < w.heap.size) (fun b hb hk => ⟨hk, hb⟩) (fun b hb => HMS.out.still b hb.1)).below hb1).imp (fun b _ hb => ⟨.inl hb.1, fun e => by
    have := (hlt1 b e).1; have := hb.2; omega⟩) fun b hb => HMS.out.orNew b hb.1
  clear hO1 hb1 c0 c1 cu r2 r3
  clear hlt1
  go_wp2
  go_loopw [8, 24] (fun lv iv wr => ∃ i : Nat, i ≤ lo ∧ iv = .int .i64 i ∧ ∃ N kp, OwnL wr w.heap.size lv N ∧ BitsOf (PowL zs x a i) N ∧ MS zs Φ m (fun b => orNew ok w b ∧ lv.ownBlock ≠ some b) wr kp ∧ Fr Φ m w wr) (fun _ iv _ => lo - (intOf iv).toNat)
  case atStart => exact ⟨0, Nat.zero_le _, rfl, _, kept, HO1.out, HP0.out, HM1.out, Fr.below HB1.out⟩
  case round =>
    obtain ⟨i, hi', rfl, N, kp, hO, hB, hM, hf⟩ := hrel
    obtain ⟨e0, e2, e3⟩ := HCell.out wr hf
    clear d0 d2 d3 HO1 HB1 HM1
    by_cases hlt : i < lo
    · have HC : Hid (Calls Tryz.prog 94 #[.pointer (some ⟨m, 0, none⟩), u8, .pointer (some ⟨b1, 0, none⟩), .int .i64 a] wr fun e w' => GivesO zs Φ m (fun b => orNew ok w b ∧ u8.ownBlock ≠ some b) wr (PowL zs x a (i + 1)) e w') := HBh.out _ wr u8 N kp i hf hO hB hM
      have HNN : Hid (∀ w2 v2 kp2, MS zs Φ m (fun b => orNew (fun b => orNew ok w b ∧ u8.ownBlock ≠ some b) wr b ∧ Value.ownBlock v2 ≠ some b) w2 kp2 → MS zs Φ m (fun b => orNew ok w b ∧ Value.ownBlock v2 ≠ some b) w2 kp2) := fun w2 v2 kp2 h => HNx.out wr w2 u8 v2 kp2 hf (.inr trivial) h
      clear hO hB hM
      go_wp2_with fail
      refine HC.out.mono ?_
      intro e w2 hG
      obtain ⟨v2, N2, kp2, rfl, hO2, hB2, hM2, hf2⟩ := hG.all
      have HO2 : Hid (OwnL w2 w.heap.size v2 N2) := hO2.base hf.size
      have HB2 : Hid (BitsOf (PowL zs x a (i + 1)) N2) := hB2
      have HM2 : Hid (MS zs Φ m (fun b => orNew ok w b ∧ Value.ownBlock v2 ≠ some b) w2 kp2) := HNN.out w2 v2 kp2 hM2
      have hf12 := hf.trans hf2
      clear hG hO2 hB2 hM2 HNN
      go_wp2
      go_roundw
      case rel => exact ⟨i + 1, by omega, by go_num, N2, kp2, HO2.out, HB2.out, HM2.out, hf12⟩
      case measure => simp [intOf]; omega
    · have hi2 : i = lo := by omega
      subst hi2
      by_cases hm1 : hi = -1
      · have HC : Hid (Calls Tryz.prog 122 #[.pointer (some ⟨m, 0, none⟩), u8, .pointer (some ⟨b1, 0, none⟩), .int .i64 a] wr fun e w' => GivesO zs Φ m ok w (InL zs rt a) e w') := HOn.out hm1 wr u8 N kp hf hO hB hM
        subst hm1
        clear hO hB hM HBh HNx HOn HSR HS0
        go_wp2_with fail
        refine HC.out.mono ?_
        intro e w2 hG
        obtain ⟨v2, N2, kp2, rfl, h2⟩ := hG.all
        have H2 : Hid (OwnL w2 w.heap.size v2 N2 ∧ BitsOf (InL zs rt a) N2 ∧ MS zs Φ m (fun b => orNew ok w b ∧ Value.ownBlock v2 ≠ some b) w2 kp2 ∧ Fr Φ m w w2) := h2
        clear hG h2
        go_wp2
        go_ret
        exact ⟨_, N2, kp2, rfl, H2.out⟩
      · obtain ⟨h, rfl⟩ : ∃ h : Nat, hi = (h : Int) := ⟨hi.toNat, by omega⟩
        have hil : i ≤ h := by omega
        have hq : ((h : Int) == -1) = false := by rw [beq_eq_false_iff_ne]; omega
        have hsub : IntKind.i64.wrap ((h : Int) - (i : Int)) = ((h - i : Nat) : Int) := by rw [wrap_id _ (by omega) (by omega)]; omega
        have HO0 : Hid (OwnL wr w.heap.size u8 N) := hO
        have HB0 : Hid (BitsOf (PowL zs x a i) N) := hB
        have HBS : Hid (BitsOf (SomeL zs x a i 0) N) := HS0.out N hB
        have HM0 : Hid (MS zs Φ m (fun b => orNew ok w b ∧ u8.ownBlock ≠ some b) wr kp) := hM
        clear hO hB hM HOn HS0 hm1
        go_wp2
        go_quiet (fail)
        go_wp2
        go_loopw [8, 9, 61] (fun lv ov iv wx => ∃ j : Nat, j ≤ h - i ∧ iv = .int .i64 j ∧ ∃ NL NO kp, OwnL wx w.heap.size lv NL ∧ BitsOf (PowL zs x a (i + j)) NL ∧ OwnL wx w.heap.size ov NO ∧ BitsOf (SomeL zs x a i j) NO ∧ MS zs Φ m (fun b => orNew ok w b ∧ ov.ownBlock ≠ some b) wx kp ∧ Fr Φ m w wx) (fun _ _ iv _ => (h - i) - (intOf iv).toNat)
        case atStart => exact ⟨0, Nat.zero_le _, rfl, N, N, kp, HO0.out, HB0.out, HO0.out, HBS.out, HM0.out.below (below_drewN _ _), hf.trans (Fr.below (below_drewN _ _))⟩
        case round =>
          obtain ⟨j, hj, rfl, NL, NO, kp', hOl, hBl, hOo, hBo, hMo, hfx⟩ := hrel
          clear HO0 HB0 HBS HM0 e0 e2 e3
          by_cases hltj : j < h - i
          · have hltO := hOo.lt
            have hStO : ∀ k, u9.ownBlock = some k → Still Φ m k := fun k hk => HMS.out.fresh (hltO k hk).1
            have hNO : NO < 2 ^ 64 := Nat.lt_trans (hBo.lt fun n hn => by obtain ⟨r, _, _, h3⟩ := hn; have := h3.1; omega) (by decide)
            have HC : Hid (Calls Tryz.prog 94 #[.pointer (some ⟨m, 0, none⟩), u8, .pointer (some ⟨b1, 0, none⟩), .int .i64 a] wr fun e w' => GivesO zs Φ m (fun b => orNew ok w b ∧ u9.ownBlock ≠ some b) wr (PowL zs x a (i + j + 1)) e w') := HBh.out _ wr u8 NL kp' (i + j) hfx hOl hBl hMo
            have HJn : Hid (∀ w2 v2 N2, Fr Φ m wr w2 → OwnL w2 wr.heap.size v2 N2 → BitsOf (PowL zs x a (i + j + 1)) N2 → Calls Tryz.prog 95 #[u9, v2, .int .i64 0] w2 fun e w' => Lens w2 w.heap.size u9.ownBlock (NO ||| N2 * 2 ^ 0) e w') := fun w2 v2 N2 hf2 hv hb2 => by
              have hN2 : N2 < 2 ^ 64 := Nat.lt_trans (hb2.lt fun n hn => by have := hn.1; omega) (by decide)
              exact ljoin_any (ok := fun b => wr.heap.size ≤ b) 0 (Nat.le_trans hfx.size hf2.size) (by omega) hNO (by simpa using hN2) (hOo.fr hf2 hStO) hv.len
            have HAft : Hid (∀ w2 w3 v2 v3 N2 kp2, Fr Φ m wr w2 → OwnL w2 wr.heap.size v2 N2 → MS zs Φ m (fun b => orNew (fun b => orNew ok w b ∧ u9.ownBlock ≠ some b) wr b ∧ v2.ownBlock ≠ some b) w2 kp2 → w2.grownBy w3 u9.ownBlock → (∀ k, v3.ownBlock = some k → u9.ownBlock = some k ∨ w2.heap.size ≤ k) → OwnL w3 w.heap.size v2 N2 ∧ MS zs Φ m (fun b => orNew ok w b ∧ Value.ownBlock v3 ≠ some b) w3 kp2 ∧ Fr Φ m w w3) := fun w2 w3 v2 v3 N2 kp2 hf2 hO2 hM2 hg hat => by
              have hl2 := hO2.lt
              refine ⟨?_, hM2.lens (okA := orNew ok w) ?_ hStO hg hat HMS.out.orNew, (hfx.trans hf2).own (fun k hk => (hltO k hk).1) hg⟩
              · obtain ⟨xs, hx, hown⟩ := hO2.base hfx.size
                refine ⟨xs, hx, hown.kept hg ?_⟩
                cases hv : v2.ownBlock with
                | none => exact .inl rfl
                | some k =>
                  right
                  intro e
                  have := (hltO k e.symm).2; have := (hl2 k hv).1; omega
              · intro b hb2 hb
                refine ⟨hb.1.elim (fun h => h.1) fun h => .inr (Nat.le_trans hfx.size h), hb.1.elim (fun h => h.2) fun h e => ?_⟩
                have := (hltO b e).2; omega
            have HSn : Hid (∀ N2, BitsOf (PowL zs x a (i + j + 1)) N2 → BitsOf (SomeL zs x a i (j + 1)) (NO ||| N2 * 2 ^ 0)) := fun N2 h2 => some_next hBo h2
            clear hOl hBl hOo hBo hMo hltO hStO HBh HNx HSR
            go_wp2_with fail
            refine HC.out.mono ?_
            intro e w2 hG
            obtain ⟨v2, N2, kp2, rfl, hO2, hB2, hM2, hf2⟩ := hG.all
            have HJ2 := HJn.out w2 v2 N2 hf2 hO2 hB2
            have HA2 := fun w3 v3 hg hat => HAft.out w2 w3 v2 v3 N2 kp2 hf2 hO2 hM2 hg hat
            have HA3 : Hid (∀ w3 v3, w2.grownBy w3 u9.ownBlock → (∀ k, Value.ownBlock v3 = some k → u9.ownBlock = some k ∨ w2.heap.size ≤ k) → OwnL w3 w.heap.size v2 N2 ∧ MS zs Φ m (fun b => orNew ok w b ∧ Value.ownBlock v3 ≠ some b) w3 kp2 ∧ Fr Φ m w w3) := HA2
            have HB2 : Hid (BitsOf (PowL zs x a (i + j + 1)) N2) := hB2
            have HS2 : Hid (BitsOf (SomeL zs x a i (j + 1)) (NO ||| N2 * 2 ^ 0)) := HSn.out N2 hB2
            clear hG hO2 hB2 hM2 HJn HAft HSn HA2
            go_wp2_with fail
            refine HJ2.mono ?_
            rintro e w3 ⟨v3, rfl, hO3, hg3, hat3⟩
            obtain ⟨hOl3, hM3, hf3⟩ := HA3.out w3 v3 hg3 hat3
            have HO3 : Hid (OwnL w3 w.heap.size v3 (NO ||| N2 * 2 ^ 0)) := hO3
            have HOl3 : Hid (OwnL w3 w.heap.size v2 N2) := hOl3
            have HM3 : Hid (MS zs Φ m (fun b => orNew ok w b ∧ Value.ownBlock v3 ≠ some b) w3 kp2) := hM3
            clear hO3 hg3 hat3 hOl3 hM3 HA3
            go_wp2
            go_roundw
            case rel => exact ⟨j + 1, by omega, by go_num, N2, _, kp2, HOl3.out, HB2.out, HO3.out, HS2.out, HM3.out, hf3⟩
            case measure => simp [intOf]; omega
          · have hj2 : j = h - i := by omega
            have HO : Hid (OwnL wr w.heap.size u9 NO) := hOo
            have HBo : Hid (BitsOf (InL zs rt a) NO) := by
              rw [hj2] at hBo
              exact hBo.congr (HSR.out h rfl hil)
            have HM : Hid (MS zs Φ m (fun b => orNew ok w b ∧ u9.ownBlock ≠ some b) wr kp') := hMo
            clear hOl hBl hOo hBo hMo HBh HNx HSR hj2
            go_wp2
            go_ret
            exact ⟨_, NO, kp', rfl, HO.out, HBo.out, HM.out, hfx⟩
end
end Go.Proofs.YtbjohedenfindaaGreatDoor
