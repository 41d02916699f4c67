/- Texts of the proof, put together: MFindB, MFindC. -/
import Derived.Test.YtbjohedenfindaaGreatDoorMg37
namespace Go.Proofs.YtbjohedenfindaaGreatDoor
open Go.RowKit
set_option linter.unusedVariables false
set_option maxRecDepth 100000

theorem rowM_snoc : ∀ (l : List (List Int → Prop)) (X : List Int → Prop) (w : List Int), rowM (l ++ [X]) w ↔ ∃ a b, w = a ++ b ∧ rowM l a ∧ X b
  | [], X, w => by
    simp only [List.nil_append, rowM]
    constructor
    · rintro ⟨a, b, h1, h2, h3⟩; subst h3; exact ⟨[], a, by simpa using h1, rfl, h2⟩
    · rintro ⟨a, b, h1, h2, h3⟩; subst h2; exact ⟨b, [], by simpa using h1, h3, rfl⟩
  | Y :: l, X, w => by
    simp only [List.cons_append, rowM]
    constructor
    · rintro ⟨a, b, h1, h2, h3⟩
      obtain ⟨c, d, h4, h5, h6⟩ := (rowM_snoc l X b).1 h3
      exact ⟨a ++ c, d, by rw [h1, h4]; simp, ⟨a, c, rfl, h2, h5⟩, h6⟩
    · rintro ⟨a, b, h1, ⟨c, d, h2, h3, h4⟩, h5⟩
      exact ⟨c, d ++ b, by rw [h1, h2]; simp, h3, (rowM_snoc l X _).2 ⟨d, b, rfl, h4, h5⟩⟩
section
variable {zs : List Int} {Φ : Nat → Option Tm} {m : Nat}

def RowL (zs : List Int) (l : List Tm) (a j n : Nat) : Prop := a + n ≤ zs.length ∧ rowM ((l.take j).map M) ((zs.drop a).take n)
theorem row_next {l : List Tm} {a j : Nat} (hj : j < l.length) (n : Nat) : (∃ k, k ≤ n ∧ RowL zs l a j k ∧ InL zs (l.getD j nothT) (a + k) (n - k)) ↔ RowL zs l a (j + 1) n := by
  have e : (l.take (j + 1)).map M = (l.take j).map M ++ [M (l.getD j nothT)] := by
    rw [List.take_succ_eq_append_getElem hj, List.map_append]; simp [hj]
  unfold RowL
  rw [e]
  constructor
  · rintro ⟨k, h1, h2, h3⟩
    have hn : a + n ≤ zs.length := by have := h3.1; omega
    exact ⟨hn, (rowM_snoc _ _ _).2 ⟨_, _, seg_split zs a k n h1 hn, h2.2, h3.2⟩⟩
  · rintro ⟨h1, h2⟩
    obtain ⟨x, y, e, h3, h4⟩ := (rowM_snoc _ _ _).1 h2
    obtain ⟨p1, p2, p3⟩ := seg_parts zs a n h1 e
    refine ⟨x.length, p1, ⟨by omega, by rw [← p2]; exact h3⟩, by omega, by rw [← p3]; exact h4⟩
theorem row_zero {l : List Tm} {a : Nat} (ha : a ≤ zs.length) : BitsOf (RowL zs l a 0) (2 ^ 0) := by
  have := pow_zero (t := nothT) (zs := zs) ha
  exact this.congr fun n => by simp only [PowL, RowL, List.take_zero, List.map_nil, powM, rowM]
theorem row_all {l : List Tm} {a : Nat} (n : Nat) : RowL zs l a l.length n ↔ InL zs (sevT 2 l) a n := by
  unfold RowL InL
  rw [List.take_length, sevT, M_row]

set_option maxHeartbeats 4000000 in
theorem find_row {l : List Tm} (hz : zs.length ≤ 40) (hF : ∀ x ∈ l, FromC zs Φ m x) (hln : l.length ≤ 10000000) {ok : Nat → Prop} {w : World} {sb re a kept kc : Nat} {ka : Option Addr} (hS : Spot Φ m w sb re (sevT 2 l) ka kc) (hMS : MS zs Φ m ok w kept) (ha : a ≤ zs.length) :
    Calls Tryz.prog 61 #[.pointer (some ⟨m, 0, none⟩), .pointer (some ⟨sb, 0, none⟩), .int .i64 a] w fun e w' => Gives zs Φ m ok w (InL zs (sevT 2 l) a) e w' := by
  have HMS : Hid (MS zs Φ m ok w kept) := hMS
  obtain ⟨ta, tc, ht1, _⟩ := hMS.text
  have c0 := hS.c0
  have c1 : w.cell? ⟨sb, 1, none⟩ = some (.slice ka l.length kc) := hS.c1
  have r0 : w.cell? ⟨re, 0, none⟩ = some (.int .i64 2) := hS.r0
  have mt : w.cell? ⟨m, 0, none⟩ = some (.slice ta zs.length tc) := by simp [World.cell?, ht1]
  have HJ1 : Hid (Calls Tryz.prog 93 #[.int .i64 0] w fun e w' => ∃ v, e = .returned v ∧ OwnL w' w.heap.size v (2 ^ 0) ∧ Below w.heap.size w w') := justOne_any 0 (by omega)
  have HCell : Hid (∀ w', Fr Φ m w w' → w'.cell? ⟨sb, 1, none⟩ = some (.slice ka l.length kc)) := fun w' hf => (hf.cell hS.hsb hS.ssb).trans c1
  have HK : Hid (∀ j, j < l.length → ∃ g off b1, ka = some ⟨g, off, none⟩ ∧ (∀ w', Fr Φ m w w' → w'.cell? ⟨g, off + j, none⟩ = some (.pointer (some ⟨b1, 0, none⟩))) ∧ ∀ (okA : Nat → Prop) (wr : World) (lv : Value) (N kp : Nat), Fr Φ m w wr → OwnL wr w.heap.size lv N → BitsOf (RowL zs l a j) N → MS zs Φ m okA wr kp → Calls Tryz.prog 94 #[.pointer (some ⟨m, 0, none⟩), lv, .pointer (some ⟨b1, 0, none⟩), .int .i64 a] wr fun e w' => GivesO zs Φ m okA wr (RowL zs l a (j + 1)) e w') := fun j hj => by
    obtain ⟨g, off, b1, h1, h2, h3, h4, h5⟩ := hS.kid j hj
    refine ⟨g, off, b1, h1, fun w' hf => (hf.cell h2 h3).trans h4, fun okA wr lv N kp hf hO hB hM => ?_⟩
    have h := mbehind_any hz (hF _ (getD_mem l j hj)) (h5.fr hf) hM (hO.len.imp fun b hb => HMS.out.fresh hb) hB (fun n hn => hn.1)
    refine h.mono fun e w' hG => ?_
    obtain ⟨v, N2, k2, h1, h2, h3, h4, h5⟩ := hG.all
    exact ⟨v, N2, k2, h1, h2, h3.congr (row_next hj), h4, h5⟩
  have HEnd : Hid (∀ N, BitsOf (RowL zs l a l.length) N → BitsOf (InL zs (sevT 2 l) a) N) := fun N h => h.congr row_all
  have HR0 : Hid (BitsOf (RowL zs l a 0) (2 ^ 0)) := row_zero ha
  generalize InL zs (sevT 2 l) a = Q at *
  clear hF hMS ht1 hS
  go_enter Tryz.func61, Tryz.ntmps61
  go_wp2_with fail
  refine HJ1.out.mono ?_
  rintro e w1 ⟨v1, rfl, hO1, hb1⟩
  have d1 := HCell.out w1 (Fr.below hb1)
  have HO1 : Hid (OwnL w1 w.heap.size v1 (2 ^ 0)) := hO1
  have HB1 : Hid (Below w.heap.size w w1) := hb1
  have hlt1 := hO1.lt
  have HM1 : Hid (MS zs Φ m (fun b => orNew ok w b ∧ v1.ownBlock ≠ some b) w1 kept) := ((HMS.out.imp (ok' := fun b => ok b ∧ b < w.heap.size) (fun b hb hk => ⟨hk, hb⟩) (fun b hb => HMS.out.still b hb.1)).below hb1).imp (fun b _ hb => ⟨.inl hb.1, fun e => by
    have := (hlt1 b e).1; have := hb.2; omega⟩) fun b hb => HMS.out.orNew b hb.1
  clear hO1 hb1 c0 c1 r0 mt hlt1
  go_wp2
  go_loopw [8, 61, 10] (fun ov iv kv wr => ∃ i : Nat, i ≤ l.length ∧ iv = .int .i64 i ∧ ∃ N kp, OwnL wr w.heap.size ov N ∧ BitsOf (RowL zs l a i) N ∧ MS zs Φ m (fun b => orNew ok w b ∧ ov.ownBlock ≠ some b) wr kp ∧ Fr Φ m w wr) (fun _ iv _ _ => l.length - (intOf iv).toNat)
  case atStart => exact ⟨0, Nat.zero_le _, rfl, _, kept, HO1.out, HR0.out, HM1.out, Fr.below HB1.out⟩
  case round =>
    obtain ⟨i, hi, rfl, N, kp, hO, hB, hM, hf⟩ := hrel
    clear HO1 HB1 HM1 d1
    by_cases hlt : i < l.length
    · obtain ⟨g, off, b1, rfl, hu, hc⟩ := HK.out i hlt
      have hu' := hu wr hf
      have HC : Hid (Calls Tryz.prog 94 #[.pointer (some ⟨m, 0, none⟩), u8, .pointer (some ⟨b1, 0, none⟩), .int .i64 a] wr fun e w' => GivesO zs Φ m (fun b => orNew ok w b ∧ u8.ownBlock ≠ some b) wr (RowL zs l a (i + 1)) e w') := hc _ wr u8 N kp hf hO hB hM
      have HNN : Hid (∀ w2 v2 kp2, MS zs Φ m (fun b => orNew (fun b => orNew ok w b ∧ u8.ownBlock ≠ some b) wr b ∧ Value.ownBlock v2 ≠ some b) w2 kp2 → MS zs Φ m (fun b => orNew ok w b ∧ Value.ownBlock v2 ≠ some b) w2 kp2) := fun w2 v2 kp2 h => h.imp (fun b _ hb => ⟨hb.1.elim (fun h => h.1) fun h => .inr (Nat.le_trans hf.size h), hb.2⟩) fun b hb => HMS.out.orNew b hb.1
      clear hO hB hM hu hc
      go_wp2_with fail
      refine HC.out.mono ?_
      intro e w2 hG
      obtain ⟨v2, N2, kp2, rfl, hO2, hB2, hM2, hf2⟩ := hG.all
      have HO2 : Hid (OwnL w2 w.heap.size v2 N2) := hO2.base hf.size
      have HB2 : Hid (BitsOf (RowL zs l a (i + 1)) N2) := hB2
      have HM2 : Hid (MS zs Φ m (fun b => orNew ok w b ∧ Value.ownBlock v2 ≠ some b) w2 kp2) := HNN.out w2 v2 kp2 hM2
      have hf12 := hf.trans hf2
      clear hG hO2 hB2 hM2 HNN
      go_wp2
      go_roundw
      case rel => exact ⟨i + 1, by omega, by go_num, N2, kp2, HO2.out, HB2.out, HM2.out, hf12⟩
      case measure => simp [intOf]; omega
    · have hi2 : i = l.length := by omega
      subst hi2
      have HO : Hid (OwnL wr w.heap.size u8 N) := hO
      have HB2 : Hid (BitsOf Q N) := HEnd.out N hB
      have HM : Hid (MS zs Φ m (fun b => orNew ok w b ∧ u8.ownBlock ≠ some b) wr kp) := hM
      clear hO hB hM HEnd
      go_wp2
      go_ret
      exact ⟨_, N, kp, rfl, HO.out.len.imp (fun b h => .inr h), HB2.out, HM.out.imp (fun b _ h => h.1) (fun b h => HMS.out.orNew b h), hf⟩

/-! ## One of several -/
def OrL (zs : List Int) (l : List Tm) (a j n : Nat) : Prop := ∃ i, i < j ∧ InL zs (l.getD i nothT) a n
theorem or_next {l : List Tm} {a j N N2 : Nat} (h : BitsOf (OrL zs l a j) N) (h2 : BitsOf (InL zs (l.getD j nothT) a) N2) : BitsOf (OrL zs l a (j + 1)) (N ||| N2 * 2 ^ 0) := by
  intro n
  rw [Nat.pow_zero, Nat.mul_one, Nat.testBit_or, Bool.or_eq_true, h n, h2 n]
  constructor
  · rintro (⟨i, h1, h2⟩ | h1)
    · exact ⟨i, by omega, h2⟩
    · exact ⟨j, by omega, h1⟩
  · rintro ⟨i, h1, h3⟩
    by_cases e : i = j
    · subst e; exact .inr h3
    · exact .inl ⟨i, by omega, h3⟩
theorem or_all {l : List Tm} {a : Nat} (n : Nat) : OrL zs l a l.length n ↔ InL zs (sevT 3 l) a n := by
  unfold OrL InL
  rw [sevT, M_or]
  constructor
  · rintro ⟨i, h1, h2, h3⟩; exact ⟨h2, _, getD_mem l i h1, h3⟩
  · rintro ⟨h1, x, hx, h2⟩
    obtain ⟨i, hi, rfl⟩ := List.getElem_of_mem hx
    exact ⟨i, hi, h1, by simpa [hi] using h2⟩

set_option maxHeartbeats 4000000 in
theorem find_or {l : List Tm} (hz : zs.length ≤ 40) (hF : ∀ x ∈ l, FromC zs Φ m x) (hln : l.length ≤ 10000000) {ok : Nat → Prop} {w : World} {sb re a kept kc : Nat} {ka : Option Addr} (hS : Spot Φ m w sb re (sevT 3 l) ka kc) (hMS : MS zs Φ m ok w kept) (ha : a ≤ zs.length) :
    Calls Tryz.prog 61 #[.pointer (some ⟨m, 0, none⟩), .pointer (some ⟨sb, 0, none⟩), .int .i64 a] w fun e w' => Gives zs Φ m ok w (InL zs (sevT 3 l) a) e w' := by
  have HMS : Hid (MS zs Φ m ok w kept) := hMS
  obtain ⟨ta, tc, ht1, _⟩ := hMS.text
  have c0 := hS.c0
  have c1 : w.cell? ⟨sb, 1, none⟩ = some (.slice ka l.length kc) := hS.c1
  have r0 : w.cell? ⟨re, 0, none⟩ = some (.int .i64 3) := hS.r0
  have mt : w.cell? ⟨m, 0, none⟩ = some (.slice ta zs.length tc) := by simp [World.cell?, ht1]
  have HK : Hid (∀ j, j < l.length → ∃ g off b1, ka = some ⟨g, off, none⟩ ∧ (∀ w', Fr Φ m w w' → w'.cell? ⟨g, off + j, none⟩ = some (.pointer (some ⟨b1, 0, none⟩))) ∧ ∀ (okA : Nat → Prop) (wr : World) (kp : Nat), Fr Φ m w wr → MS zs Φ m okA wr kp → Calls Tryz.prog 33 #[.pointer (some ⟨m, 0, none⟩), .pointer (some ⟨b1, 0, none⟩), .int .i64 a] wr fun e w' => Gives zs Φ m okA wr (InL zs (l.getD j nothT) a) e w') := fun j hj => by
    obtain ⟨g, off, b1, h1, h2, h3, h4, h5⟩ := hS.kid j hj
    exact ⟨g, off, b1, h1, fun w' hf => (hf.cell h2 h3).trans h4, fun okA wr kp hf hM => hF _ (getD_mem l j hj) okA wr _ a kp (h5.fr hf) hM ha⟩
  have HEnd : Hid (∀ N, BitsOf (OrL zs l a l.length) N → BitsOf (InL zs (sevT 3 l) a) N) := fun N h => h.congr or_all
  generalize InL zs (sevT 3 l) a = Q at *
  clear hF hMS ht1 hS
  go_enter Tryz.func61, Tryz.ntmps61
  go_wp2
  go_loopw [11, 79, 13] (fun ov iv kv wr => ∃ i : Nat, i ≤ l.length ∧ iv = .int .i64 i ∧ ∃ N kp, OwnL wr w.heap.size ov N ∧ BitsOf (OrL zs l a i) N ∧ MS zs Φ m (fun b => orNew ok w b ∧ ov.ownBlock ≠ some b) wr kp ∧ Fr Φ m w wr) (fun _ iv _ _ => l.length - (intOf iv).toNat)
  case atStart => exact ⟨0, Nat.zero_le _, rfl, 0, kept, ⟨[], .inl ⟨rfl, rfl⟩, World.ownsRow_nil _ _ _ _⟩, (fun n => by simp [OrL]), HMS.out.imp (fun b _ hb => ⟨.inl hb, by simp [Value.ownBlock]⟩) (fun b hb => HMS.out.orNew b hb.1), Fr.refl _⟩
  case round =>
    obtain ⟨i, hi, rfl, N, kp, hO, hB, hM, hf⟩ := hrel
    clear c0 c1 r0 mt
    by_cases hlt : i < l.length
    · obtain ⟨g, off, b1, rfl, hu, hc⟩ := HK.out i hlt
      have hu' := hu wr hf
      have HC : Hid (Calls Tryz.prog 33 #[.pointer (some ⟨m, 0, none⟩), .pointer (some ⟨b1, 0, none⟩), .int .i64 a] wr fun e w' => Gives zs Φ m (fun b => orNew ok w b ∧ u11.ownBlock ≠ some b) wr (InL zs (l.getD i nothT) a) e w') := hc _ wr kp hf hM
      have hltO := hO.lt
      have hStO : ∀ k, u11.ownBlock = some k → Still Φ m k := fun k hk => HMS.out.fresh (hltO k hk).1
      have hN64 : N < 2 ^ 64 := Nat.lt_trans (hB.lt fun n hn => by obtain ⟨_, _, h⟩ := hn; have := h.1; omega) (by decide)
      have HJ : Hid (∀ w2 v N2, Fr Φ m wr w2 → LenV (orNew (fun b => orNew ok w b ∧ u11.ownBlock ≠ some b) wr) w2 v N2 → BitsOf (InL zs (l.getD i nothT) a) N2 → Calls Tryz.prog 95 #[u11, v, .int .i64 0] w2 fun e w' => Lens w2 w.heap.size u11.ownBlock (N ||| N2 * 2 ^ 0) e w') := fun w2 v N2 hf2 hv hb2 => by
        have hN2 : N2 < 2 ^ 64 := Nat.lt_trans (hb2.lt fun n hn => by have := hn.1; omega) (by decide)
        exact ljoin_any 0 (Nat.le_trans hf.size hf2.size) (by omega) hN64 (by simpa using hN2) (hO.fr hf2 hStO) hv
      have HMM : Hid (∀ w2 w3 v3 kp2, Fr Φ m wr w2 → MS zs Φ m (orNew (fun b => orNew ok w b ∧ u11.ownBlock ≠ some b) wr) w2 kp2 → w2.grownBy w3 u11.ownBlock → (∀ k, v3.ownBlock = some k → u11.ownBlock = some k ∨ w2.heap.size ≤ k) → MS zs Φ m (fun b => orNew ok w b ∧ Value.ownBlock v3 ≠ some b) w3 kp2 ∧ Fr Φ m w w3) := fun w2 w3 v3 kp2 hf2 hM2 hg hat => by
        refine ⟨hM2.lens (okA := orNew ok w) ?_ hStO hg hat (HMS.out.orNew), (hf.trans hf2).own (fun k hk => (hltO k hk).1) hg⟩
        intro b hb2 hb
        rcases hb with hb | hb
        · exact hb
        · exact ⟨.inr (Nat.le_trans hf.size hb), fun e => by have := (hltO b e).2; omega⟩
      have HTh : Hid (∀ N2, BitsOf (InL zs (l.getD i nothT) a) N2 → BitsOf (OrL zs l a (i + 1)) (N ||| N2 * 2 ^ 0)) := fun N2 h2 => or_next hB h2
      clear hO hB hM hltO hStO hu hc
      go_wp2_with fail
      refine HC.out.mono ?_
      intro e w3 hG
      obtain ⟨v3, N3, kp3, rfl, hv3, hb3, hM3, hf3⟩ := hG.all
      have HJ3 := HJ.out w3 v3 N3 hf3 hv3 hb3
      have HM3 : Hid (∀ w4 v4, w3.grownBy w4 u11.ownBlock → (∀ k, Value.ownBlock v4 = some k → u11.ownBlock = some k ∨ w3.heap.size ≤ k) → MS zs Φ m (fun b => orNew ok w b ∧ Value.ownBlock v4 ≠ some b) w4 kp3 ∧ Fr Φ m w w4) := fun w4 v4 hg hat => HMM.out w3 w4 v4 kp3 hf3 hM3 hg hat
      have HTT : Hid (BitsOf (OrL zs l a (i + 1)) (N ||| N3 * 2 ^ 0)) := HTh.out N3 hb3
      clear hG hv3 hb3 hM3 HTh HMM HJ
      go_wp2_with fail
      refine HJ3.mono ?_
      rintro e w4 ⟨v4, rfl, hO4, hg4, hat4⟩
      obtain ⟨hM4, hf4⟩ := HM3.out w4 v4 hg4 hat4
      have HO4 : Hid (OwnL w4 w.heap.size v4 (N ||| N3 * 2 ^ 0)) := hO4
      have HM4 : Hid (MS zs Φ m (fun b => orNew ok w b ∧ Value.ownBlock v4 ≠ some b) w4 kp3) := hM4
      clear hO4 hg4 hat4 hM4 HM3
      go_wp2
      go_roundw
      case rel => exact ⟨i + 1, by omega, by go_num, _, kp3, HO4.out, HTT.out, HM4.out, hf4⟩
      case measure => simp [intOf]; omega
    · have hi2 : i = l.length := by omega
      subst hi2
      have HO : Hid (OwnL wr w.heap.size u11 N) := hO
      have HB2 : Hid (BitsOf Q N) := HEnd.out N hB
      have HM : Hid (MS zs Φ m (fun b => orNew ok w b ∧ u11.ownBlock ≠ some b) wr kp) := hM
      clear hO hB hM HEnd
      go_wp2
      go_ret
      exact ⟨_, N, kp, rfl, HO.out.len.imp (fun b h => .inr h), HB2.out, HM.out.imp (fun b _ h => h.1) (fun b h => HMS.out.orNew b h), hf⟩

set_option maxHeartbeats 4000000 in
theorem find_rep {x : Tm} {lo : Nat} {hi : Int} (hz : zs.length ≤ 40) (hF : FromC zs Φ m x) (hlo : lo ≤ 50) (hhi : hi = -1 ∨ ((lo : Int) ≤ hi ∧ hi ≤ 50)) {ok : Nat → Prop} {w : World} {sb re a kept kc : Nat} {ka : Option Addr} (hS : Spot Φ m w sb re (repT x (lo : Int) hi) ka kc) (hMS : MS zs Φ m ok w kept) (ha : a ≤ zs.length) :
    Calls Tryz.prog 61 #[.pointer (some ⟨m, 0, none⟩), .pointer (some ⟨sb, 0, none⟩), .int .i64 a] w fun e w' => Gives zs Φ m ok w (InL zs (repT x (lo : Int) hi) a) e w' := by
  obtain ⟨ta, tc, ht1, _⟩ := hMS.text
  have c0 := hS.c0
  have r0 : w.cell? ⟨re, 0, none⟩ = some (.int .i64 6) := hS.r0
  have mt : w.cell? ⟨m, 0, none⟩ = some (.slice ta zs.length tc) := by simp [World.cell?, ht1]
  obtain ⟨g, off, b1, e1, h2, h3, h4, h5⟩ := hS.kid 0 (by simp [repT])
  have c1 : w.cell? ⟨sb, 1, none⟩ = some (.slice (some ⟨g, off, none⟩) 1 kc) := by have := hS.c1; rw [e1] at this; exact this
  have HC : Hid (Calls Tryz.prog 98 #[.pointer (some ⟨m, 0, none⟩), .pointer (some ⟨sb, 0, none⟩), .int .i64 a] w fun e w' => Gives zs Φ m ok w (InL zs (repT x (lo : Int) hi) a) e w') := (mrepeat_any hz hF hlo hhi hS.hsb hS.ssb hS.hre hS.sre c0 c1 h4 hS.r2 hS.r3 h5 hMS ha).mono fun e w' h => h.gives hMS.orNew
  generalize InL zs (repT x (lo : Int) hi) a = Q at *
  clear hS hMS ht1 h4 h5 hF c1
  go_enter Tryz.func61, Tryz.ntmps61
  go_wp2_with fail
  refine HC.out.mono ?_
  intro e w1 hG
  obtain ⟨v1, N1, kp1, rfl, h1⟩ := hG.all
  clear hG
  go_wp2
  go_ret
  exact ⟨_, N1, kp1, rfl, h1⟩
end
end Go.Proofs.YtbjohedenfindaaGreatDoor

namespace Go.Proofs.YtbjohedenfindaaGreatDoor
open Go.RowKit
set_option linter.unusedVariables false
set_option maxRecDepth 100000

section
variable {zs : List Int} {Φ : Nat → Option Tm} {m : Nat}

theorem bits_others {t : Tm} {a N : Nat} (hz : zs.length ≤ 40) (ha : a ≤ zs.length) (h : BitsOf (InL zs t a) N) : BitsOf (InL zs (notT t) a) ((18446744073709551615 ^^^ N) &&& (2 ^ (zs.length - a + 1) - 1)) := by
  intro n
  rw [Nat.testBit_and, Nat.testBit_two_pow_sub_one, Nat.testBit_xor]
  have hall : ∀ n, n < 64 → Nat.testBit 18446744073709551615 n = true := fun n hn => by
    rw [show (18446744073709551615 : Nat) = 2 ^ 64 - 1 from rfl, Nat.testBit_two_pow_sub_one]; simpa using hn
  unfold InL
  rw [M_not]
  by_cases hn : n < zs.length - a + 1
  · rw [hall n (by omega)]
    have hn' : a + n ≤ zs.length := by omega
    have h1 := h n
    unfold InL at h1
    simp only [hn, decide_true, Bool.and_true, Bool.true_bne, Bool.not_eq_true', hn', true_and] at h1 ⊢
    rw [← h1]
    cases N.testBit n <;> simp
  · have hn' : ¬ (a + n ≤ zs.length) := by omega
    simp [hn, hn']

set_option maxHeartbeats 4000000 in
theorem find_not {x : Tm} (hz : zs.length ≤ 40) (hF : FromC zs Φ m x) {ok : Nat → Prop} {w : World} {sb re a kept kc : Nat} {ka : Option Addr} (hS : Spot Φ m w sb re (notT x) ka kc) (hMS : MS zs Φ m ok w kept) (ha : a ≤ zs.length) :
    Calls Tryz.prog 61 #[.pointer (some ⟨m, 0, none⟩), .pointer (some ⟨sb, 0, none⟩), .int .i64 a] w fun e w' => Gives zs Φ m ok w (InL zs (notT x) a) e w' := by
  have HMS : Hid (MS zs Φ m ok w kept) := hMS
  obtain ⟨ta, tc, ht1, _⟩ := hMS.text
  have c0 := hS.c0
  have r0 : w.cell? ⟨re, 0, none⟩ = some (.int .i64 5) := hS.r0
  have mt : w.cell? ⟨m, 0, none⟩ = some (.slice ta zs.length tc) := by simp [World.cell?, ht1]
  obtain ⟨g, off, b1, e1, h2, h3, h4, h5⟩ := hS.kid 0 (by simp [notT])
  have c1 : w.cell? ⟨sb, 1, none⟩ = some (.slice (some ⟨g, off, none⟩) 1 kc) := by have := hS.c1; rw [e1] at this; exact this
  have h4' : w.cell? ⟨g, off, none⟩ = some (.pointer (some ⟨b1, 0, none⟩)) := by simpa using h4
  have h5' : SP Φ m w (.pointer (some ⟨b1, 0, none⟩)) x := by simpa [notT] using h5
  have HC : Hid (Calls Tryz.prog 33 #[.pointer (some ⟨m, 0, none⟩), .pointer (some ⟨b1, 0, none⟩), .int .i64 a] w fun e w' => Gives zs Φ m ok w (InL zs x a) e w') := hF ok w _ a kept h5' hMS ha
  have HO : Hid (∀ w2 v N, LenV (orNew ok w) w2 v N → BitsOf (InL zs x a) N → Calls Tryz.prog 97 #[v, .int .i64 ((zs.length - a : Nat) : Int)] w2 fun e w' => ∃ u, e = .returned u ∧ OwnL w' w2.heap.size u ((18446744073709551615 ^^^ N) &&& (2 ^ (zs.length - a + 1) - 1)) ∧ Below w2.heap.size w2 w') := fun w2 v N hv hb => lothers_any (by omega) (Nat.lt_trans (hb.lt fun n hn => by have := hn.1; omega) (by decide)) hv
  have HBt : Hid (∀ N, BitsOf (InL zs x a) N → BitsOf (InL zs (notT x) a) ((18446744073709551615 ^^^ N) &&& (2 ^ (zs.length - a + 1) - 1))) := fun N h => bits_others hz ha h
  have HR : Hid ((zs.length : Int) - (a : Int) = ((zs.length - a : Nat) : Int)) := by show _ = _; omega
  generalize InL zs (notT x) a = Q at *
  clear hS hMS ht1 h4 h5 h5' hF
  go_enter Tryz.func61, Tryz.ntmps61
  go_wp2_with fail
  refine HC.out.mono ?_
  intro e w1 hG
  obtain ⟨v1, N1, kp1, rfl, hv1, hb1, hM1, hf1⟩ := hG.all
  have HO1 := HO.out w1 v1 N1 hv1 hb1
  have HB1 := HBt.out N1 hb1
  have HBB : Hid (BitsOf Q ((18446744073709551615 ^^^ N1) &&& (2 ^ (zs.length - a + 1) - 1))) := HB1
  have HM1 : Hid (MS zs Φ m (orNew ok w) w1 kp1) := hM1
  clear hG hv1 hb1 hM1 HO HBt HB1 c0 c1 r0 mt h4'
  go_wp2_with fail
  rw [HR.out]
  refine HO1.mono ?_
  rintro e w2 ⟨v2, rfl, hO2, hb2⟩
  have HO2 : Hid (OwnL w2 w1.heap.size v2 ((18446744073709551615 ^^^ N1) &&& (2 ^ (zs.length - a + 1) - 1))) := hO2
  clear hO2 HO1
  go_wp2
  go_ret
  exact ⟨_, _, kp1, rfl, HO2.out.len.imp (fun b h => .inr (Nat.le_trans hf1.size h)), HBB.out, HM1.out.below hb2, hf1.trans (Fr.below hb2)⟩

/-! ## Both -/
def AndL (zs : List Int) (l : List Tm) (a j n : Nat) : Prop := ∀ i, i < j → InL zs (l.getD i nothT) a n
theorem and_next {l : List Tm} {a j N N2 : Nat} (h : BitsOf (AndL zs l a j) N) (h2 : BitsOf (InL zs (l.getD j nothT) a) N2) : BitsOf (AndL zs l a (j + 1)) (N &&& N2) := by
  intro n
  rw [Nat.testBit_and, Bool.and_eq_true, h n, h2 n]
  constructor
  · rintro ⟨h1, h3⟩ i hi
    by_cases e : i = j
    · subst e; exact h3
    · exact h1 i (by omega)
  · intro h1; exact ⟨fun i hi => h1 i (by omega), h1 j (by omega)⟩
theorem and_one {l : List Tm} {a N2 : Nat} (h2 : BitsOf (InL zs (l.getD 0 nothT) a) N2) : BitsOf (AndL zs l a 1) (0 ||| N2 * 2 ^ 0) := by
  rw [Nat.pow_zero, Nat.mul_one, Nat.zero_or]
  exact h2.congr fun n => ⟨fun h i hi => by
    have : i = 0 := by omega
    subst this; exact h, fun h => h 0 (by omega)⟩
theorem and_all {l : List Tm} {a : Nat} (hl : l ≠ []) (n : Nat) : AndL zs l a l.length n ↔ InL zs (sevT 4 l) a n := by
  unfold AndL InL
  rw [sevT, M_and]
  have hp : 0 < l.length := List.length_pos_iff.2 hl
  constructor
  · intro h
    refine ⟨(h 0 hp).1, fun x hx => ?_⟩
    obtain ⟨i, hi, rfl⟩ := List.getElem_of_mem hx
    have := (h i hi).2
    simpa [hi] using this
  · rintro ⟨h1, h2⟩ i hi
    exact ⟨h1, h2 _ (getD_mem l i hi)⟩

set_option maxHeartbeats 4000000 in
theorem find_and {l : List Tm} (hz : zs.length ≤ 40) (hF : ∀ x ∈ l, FromC zs Φ m x) (hln : l.length ≤ 10000000) (h2l : 2 ≤ l.length) {ok : Nat → Prop} {w : World} {sb re a kept kc : Nat} {ka : Option Addr} (hS : Spot Φ m w sb re (sevT 4 l) ka kc) (hMS : MS zs Φ m ok w kept) (ha : a ≤ zs.length) :
    Calls Tryz.prog 61 #[.pointer (some ⟨m, 0, none⟩), .pointer (some ⟨sb, 0, none⟩), .int .i64 a] w fun e w' => Gives zs Φ m ok w (InL zs (sevT 4 l) a) e w' := by
  have HMS : Hid (MS zs Φ m ok w kept) := hMS
  obtain ⟨ta, tc, ht1, _⟩ := hMS.text
  have c0 := hS.c0
  have r0 : w.cell? ⟨re, 0, none⟩ = some (.int .i64 4) := hS.r0
  have mt : w.cell? ⟨m, 0, none⟩ = some (.slice ta zs.length tc) := by simp [World.cell?, ht1]
  obtain ⟨g, off, b1, e1, _⟩ := hS.kid 0 (by simp [sevT]; omega)
  subst e1
  have c1 : w.cell? ⟨sb, 1, none⟩ = some (.slice (some ⟨g, off, none⟩) l.length kc) := hS.c1
  have hcap : l.length ≤ kc := hS.cap
  have HCell : Hid (∀ w', Fr Φ m w w' → w'.cell? ⟨sb, 1, none⟩ = some (.slice (some ⟨g, off, none⟩) l.length kc)) := fun w' hf => (hf.cell hS.hsb hS.ssb).trans c1
  have HK : Hid (∀ j, j < l.length → ∃ b1, (∀ w', Fr Φ m w w' → w'.cell? ⟨g, off + j, none⟩ = some (.pointer (some ⟨b1, 0, none⟩))) ∧ ∀ (okA : Nat → Prop) (wr : World) (kp : Nat), Fr Φ m w wr → MS zs Φ m okA wr kp → Calls Tryz.prog 33 #[.pointer (some ⟨m, 0, none⟩), .pointer (some ⟨b1, 0, none⟩), .int .i64 a] wr fun e w' => Gives zs Φ m okA wr (InL zs (l.getD j nothT) a) e w') := fun j hj => by
    obtain ⟨g', off', b1, h1, h2, h3, h4, h5⟩ := hS.kid j hj
    injection h1 with h1; injection h1 with h1 h1' _; subst h1 h1'
    exact ⟨b1, fun w' hf => (hf.cell h2 h3).trans h4, fun okA wr kp hf hM => hF _ (getD_mem l j hj) okA wr _ a kp (h5.fr hf) hM ha⟩
  have HEnd : Hid (∀ N, BitsOf (AndL zs l a l.length) N → BitsOf (InL zs (sevT 4 l) a) N) := fun N h => h.congr (and_all (by intro e; rw [e] at h2l; simp at h2l))
  generalize InL zs (sevT 4 l) a = Q at *
  obtain ⟨b0, hu0, hc0⟩ := HK.out 0 (by omega)
  have k0 : (w.alloc (.cells #[] 119)).cell? ⟨g, off, none⟩ = some (.pointer (some ⟨b0, 0, none⟩)) := by simpa using hu0 (w.alloc (.cells #[] 119)) (Fr.below (below_alloc w _))
  have k1 := HCell.out (w.alloc (.cells #[] 119)) (Fr.below (below_alloc w _))
  have HM0 : Hid (MS zs Φ m (fun b => ok b ∧ b < w.heap.size) (w.alloc (.cells #[] 119)) kept) := (HMS.out.imp (ok' := fun b => ok b ∧ b < w.heap.size) (fun b hb hk => ⟨hk, hb⟩) (fun b hb => HMS.out.still b hb.1)).below (below_alloc w _)
  have HC0 : Hid (Calls Tryz.prog 33 #[.pointer (some ⟨m, 0, none⟩), .pointer (some ⟨b0, 0, none⟩), .int .i64 a] (w.alloc (.cells #[] 119)) fun e w' => Gives zs Φ m (fun b => ok b ∧ b < w.heap.size) (w.alloc (.cells #[] 119)) (InL zs (l.getD 0 nothT) a) e w') := hc0 _ _ kept (Fr.below (below_alloc w _)) HM0.out
  have HA0 : Hid (∀ w2 v N2, Fr Φ m (w.alloc (.cells #[] 119)) w2 → LenV (orNew (fun b => ok b ∧ b < w.heap.size) (w.alloc (.cells #[] 119))) w2 v N2 → BitsOf (InL zs (l.getD 0 nothT) a) N2 → Calls Tryz.prog 95 #[.slice (some ⟨w.heap.size, 0, none⟩) 0 0, v, .int .i64 0] w2 fun e w' => Lens w2 w.heap.size (some w.heap.size) (0 ||| N2 * 2 ^ 0) e w') := fun w2 v N2 hf2 hv hb2 => by
    have hN2 : N2 < 2 ^ 64 := Nat.lt_trans (hb2.lt fun n hn => by have := hn.1; omega) (by decide)
    have hO : OwnL w2 w.heap.size (.slice (some ⟨w.heap.size, 0, none⟩) 0 0) 0 := (OwnL.made (Nat.le_refl _) 119 rfl).fr hf2 (fun k hk => by
      have e : w.heap.size = k := by simpa [Value.ownBlock] using hk
      subst e; exact HMS.out.fresh (Nat.le_refl _))
    exact ljoin_any 0 (Nat.le_trans (by simp) hf2.size) (by omega) (by decide) (by simpa using hN2) hO hv
  clear hF hMS ht1 hS hu0 hc0
  go_enter Tryz.func61, Tryz.ntmps61
  go_wp2_with fail
  refine HC0.out.mono ?_
  intro e w1 hG
  obtain ⟨v1, N1, kp1, rfl, hv1, hb1, hM1, hf1⟩ := hG.all
  have HJ1 := HA0.out w1 v1 N1 hf1 hv1 hb1
  have HT1 : Hid (BitsOf (AndL zs l a 1) (0 ||| N1 * 2 ^ 0)) := and_one hb1
  have hfw1 : Fr Φ m w w1 := (Fr.below (below_alloc w _)).trans hf1
  have HM1 : Hid (∀ w2 v2, w1.grownBy w2 (some w.heap.size) → (∀ k, Value.ownBlock v2 = some k → some w.heap.size = some k ∨ w1.heap.size ≤ k) → MS zs Φ m (fun b => orNew ok w b ∧ Value.ownBlock v2 ≠ some b) w2 kp1 ∧ Fr Φ m w w2) := fun w2 v2 hg hat => by
    refine ⟨MS.lens (ov := .slice (some ⟨w.heap.size, 0, none⟩) 0 0) hM1 (okA := orNew ok w) ?_ ?_ hg hat HMS.out.orNew, hfw1.own (fun k hk => by injection hk with hk; omega) hg⟩
    · intro b _ hb
      rcases hb with hb | hb
      · exact ⟨.inl hb.1, fun e => by simp [Value.ownBlock] at e; have := hb.2; omega⟩
      · exact ⟨.inr (by simp at hb; omega), fun e => by simp [Value.ownBlock] at e; simp at hb; omega⟩
    · intro k hk
      have e : w.heap.size = k := by simpa [Value.ownBlock] using hk
      subst e; exact HMS.out.fresh (Nat.le_refl _)
  clear hG hv1 hb1 hM1 HC0 HA0 HM0 k0 k1
  go_wp2_with fail
  refine HJ1.mono ?_
  rintro e w2 ⟨v2, rfl, hO2, hg2, hat2⟩
  obtain ⟨hM2, hf2⟩ := HM1.out w2 v2 hg2 hat2
  have d1 := HCell.out w2 hf2
  have HO2 : Hid (OwnL w2 w.heap.size v2 (0 ||| N1 * 2 ^ 0)) := hO2
  have HM2 : Hid (MS zs Φ m (fun b => orNew ok w b ∧ Value.ownBlock v2 ≠ some b) w2 kp1) := hM2
  have hlk : (1 : Int) ≤ (l.length : Int) := by omega
  have hkc : kc - 1 ≠ 0 := by omega
  clear hO2 hg2 hat2 hM2 HM1 c0 c1 r0 mt HJ1
  go_wp2
  go_loopw [14, 110, 16] (fun ov iv kv wr => ∃ i : Nat, i ≤ l.length - 1 ∧ iv = .int .i64 i ∧ ∃ N kp, OwnL wr w.heap.size ov N ∧ BitsOf (AndL zs l a (i + 1)) N ∧ MS zs Φ m (fun b => orNew ok w b ∧ ov.ownBlock ≠ some b) wr kp ∧ Fr Φ m w wr) (fun _ iv _ _ => (l.length - 1) - (intOf iv).toNat)
  case atStart => exact ⟨0, Nat.zero_le _, rfl, _, kp1, HO2.out, HT1.out, HM2.out, hf2⟩
  case round =>
    obtain ⟨i, hi, rfl, N, kp, hO, hB, hM, hf⟩ := hrel
    clear HO2 HT1 HM2 d1
    by_cases hlt : i < l.length - 1
    · obtain ⟨b1, hu, hc⟩ := HK.out (i + 1) (by omega)
      have hu' : wr.cell? ⟨g, off + 1 + i, none⟩ = some (.pointer (some ⟨b1, 0, none⟩)) := by have := hu wr hf; rwa [show off + (i + 1) = off + 1 + i by omega] at this
      have HC : Hid (Calls Tryz.prog 33 #[.pointer (some ⟨m, 0, none⟩), .pointer (some ⟨b1, 0, none⟩), .int .i64 a] wr fun e w' => Gives zs Φ m (fun b => orNew ok w b ∧ u14.ownBlock ≠ some b) wr (InL zs (l.getD (i + 1) nothT) a) e w') := hc _ wr kp hf hM
      have hltO := hO.lt
      have hStO : ∀ k, u14.ownBlock = some k → Still Φ m k := fun k hk => HMS.out.fresh (hltO k hk).1
      have hN64 : N < 2 ^ 64 := Nat.lt_trans (hB.lt fun n hn => by have := (hn 0 (by omega)).1; omega) (by decide)
      have HJ : Hid (∀ w2 v N2, Fr Φ m wr w2 → LenV (orNew (fun b => orNew ok w b ∧ u14.ownBlock ≠ some b) wr) w2 v N2 → BitsOf (InL zs (l.getD (i + 1) nothT) a) N2 → Calls Tryz.prog 96 #[u14, v] w2 fun e w' => Lens w2 w.heap.size u14.ownBlock (N &&& N2) e w') := fun w2 v N2 hf2 hv hb2 => by
        have hN2 : N2 < 2 ^ 64 := Nat.lt_trans (hb2.lt fun n hn => by have := hn.1; omega) (by decide)
        exact lmeet_any hN64 hN2 (hO.fr hf2 hStO) hv
      have HMM : Hid (∀ w2 w3 v3 kp2, Fr Φ m wr w2 → MS zs Φ m (orNew (fun b => orNew ok w b ∧ u14.ownBlock ≠ some b) wr) w2 kp2 → w2.grownBy w3 u14.ownBlock → (∀ k, v3.ownBlock = some k → u14.ownBlock = some k ∨ w2.heap.size ≤ k) → MS zs Φ m (fun b => orNew ok w b ∧ Value.ownBlock v3 ≠ some b) w3 kp2 ∧ Fr Φ m w w3) := fun w2 w3 v3 kp2 hf2 hM2 hg hat => by
        refine ⟨hM2.lens (okA := orNew ok w) ?_ hStO hg hat (HMS.out.orNew), (hf.trans hf2).own (fun k hk => (hltO k hk).1) hg⟩
        intro b hb2 hb
        rcases hb with hb | hb
        · exact hb
        · exact ⟨.inr (Nat.le_trans hf.size hb), fun e => by have := (hltO b e).2; omega⟩
      have HTh : Hid (∀ N2, BitsOf (InL zs (l.getD (i + 1) nothT) a) N2 → BitsOf (AndL zs l a (i + 1 + 1)) (N &&& N2)) := fun N2 h2 => and_next hB h2
      clear hO hB hM hltO hStO hu hc
      go_wp2_with fail
      refine HC.out.mono ?_
      intro e w3 hG
      obtain ⟨v3, N3, kp3, rfl, hv3, hb3, hM3, hf3⟩ := hG.all
      have HJ3 := HJ.out w3 v3 N3 hf3 hv3 hb3
      have HM3 : Hid (∀ w4 v4, w3.grownBy w4 u14.ownBlock → (∀ k, Value.ownBlock v4 = some k → u14.ownBlock = some k ∨ w3.heap.size ≤ k) → MS zs Φ m (fun b => orNew ok w b ∧ Value.ownBlock v4 ≠ some b) w4 kp3 ∧ Fr Φ m w w4) := fun w4 v4 hg hat => HMM.out w3 w4 v4 kp3 hf3 hM3 hg hat
      have HTT : Hid (BitsOf (AndL zs l a (i + 1 + 1)) (N &&& N3)) := HTh.out N3 hb3
      clear hG hv3 hb3 hM3 HTh HMM HJ
      go_wp2_with fail
      refine HJ3.mono ?_
      rintro e w4 ⟨v4, rfl, hO4, hg4, hat4⟩
      obtain ⟨hM4, hf4⟩ := HM3.out w4 v4 hg4 hat4
      have HO4 : Hid (OwnL w4 w.heap.size v4 (N &&& N3)) := hO4
      have HM4 : Hid (MS zs Φ m (fun b => orNew ok w b ∧ Value.ownBlock v4 ≠ some b) w4 kp3) := hM4
      clear hO4 hg4 hat4 hM4 HM3
      go_wp2
      go_roundw
      case rel => exact ⟨i + 1, by omega, by go_num, _, kp3, HO4.out, HTT.out, HM4.out, hf4⟩
      case measure => simp [intOf]; omega
    · have hi2 : i + 1 = l.length := by omega
      have HO : Hid (OwnL wr w.heap.size u14 N) := hO
      have HB2 : Hid (BitsOf Q N) := HEnd.out N (by rw [← hi2]; exact hB)
      have HM : Hid (MS zs Φ m (fun b => orNew ok w b ∧ u14.ownBlock ≠ some b) wr kp) := hM
      clear hO hB hM HEnd hi2
      go_wp2
      go_ret
      exact ⟨_, N, kp, rfl, HO.out.len.imp (fun b h => .inr h), HB2.out, HM.out.imp (fun b _ h => h.1) (fun b h => HMS.out.orNew b h), hf⟩
end
end Go.Proofs.YtbjohedenfindaaGreatDoor
