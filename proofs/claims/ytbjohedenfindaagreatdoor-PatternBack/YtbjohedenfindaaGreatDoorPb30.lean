/- Texts of the proof, put together: MSp, MBeh. -/
import Derived.Test.YtbjohedenfindaaGreatDoorPb29
import Derived.Test.YtbjohedenfindaaGreatDoorPb26
import Derived.Maps.OwnSet
import Derived.Maps.OwnOps
namespace Go.Proofs.YtbjohedenfindaaGreatDoor
open Go.RowKit
open Go.Maps (Keyed)
set_option linter.unusedVariables false
set_option maxRecDepth 100000

theorem Tryz.lawIntK : Keyed Tryz.prog 3 := Maps.int_keyed Tryz.underlying3
/-- a map's values, as they are -/
def heldR (v : Value) : Option (DataW Value × List MemPlace) := some (.held v, [])

/-- the lengths of the texts from a place on for which a tree stands -/
def InL (zs : List Int) (t : Tm) (at_ n : Nat) : Prop := at_ + n ≤ zs.length ∧ M t ((zs.drop at_).take n)
def BitsOf (P : Nat → Prop) (N : Nat) : Prop := ∀ n, N.testBit n = true ↔ P n
theorem BitsOf.lt {P : Nat → Prop} {N : Nat} (h : BitsOf P N) (hp : ∀ n, P n → n ≤ 40) : N < 2 ^ 41 := by
  refine Nat.lt_pow_two_of_testBit N fun i hi => ?_
  cases hb : N.testBit i
  · rfl
  · have := hp i ((h i).1 hb); omega
theorem BitsOf.unique {P : Nat → Prop} {N N' : Nat} (h : BitsOf P N) (h' : BitsOf P N') : N = N' := by
  refine Nat.eq_of_testBit_eq fun i => ?_
  rw [Bool.eq_iff_iff, h i, h' i]
theorem BitsOf.congr {P Q : Nat → Prop} {N : Nat} (h : BitsOf P N) (e : ∀ n, P n ↔ Q n) : BitsOf Q N := fun n => (h n).trans (e n)

section
variable (zs : List Int) (Φ : Nat → Option Tm) (m : Nat)

/-- blocks that no call changes -/
def Still (b : Nat) : Prop := b ≠ m ∧ Φ b = none
structure Fr (w w' : World) : Prop where
  os : w'.os = w.os
  tape : w'.tape = w.tape
  output : w'.output = w.output
  size : w.heap.size ≤ w'.heap.size
  block : ∀ b, b < w.heap.size → Still Φ m b → w'.heap[b]? = w.heap[b]?

def Know (ok : Nat → Prop) (w : World) (kept : Nat) (b : Nat) (t : Tm) : Prop :=
  ∃ n D, w.ownsMap Tryz.prog 3 heldR b n D ∧ n ≤ kept ∧ ∀ a : Nat, a ≤ zs.length → Maps.has D (.int .i64 a) = true → ∃ v N, D.atKey (.int .i64 a) (.held (.slice none 0 0)) = .held v ∧ LenV ok w v N ∧ BitsOf (InL zs t a) N
/-- the matcher's state -/
structure MS (ok : Nat → Prop) (w : World) (kept : Nat) : Prop where
  mlt : m < w.heap.size
  mnone : Φ m = none
  text : ∃ ta tc, w.heap[m]? = some (.cells #[.slice ta zs.length tc, .int .i64 (kept : Int)] 78 (0, 0)) ∧ ∀ j, j < zs.length → ∃ g, ta = some ⟨g, 0, none⟩ ∧ g < w.heap.size ∧ ok g ∧ w.cell? ⟨g, j, none⟩ = some (.int .i64 (zs.getD j 0))
  kept_le : kept ≤ 4194400
  know : ∀ b t, Φ b = some t → Know zs ok w kept b t
  still : ∀ b, ok b → Still Φ m b

/-- a place in a pattern -/
def SPn : Nat → World → Value → Tm → Prop
  | 0, _, _, _ => False
  | n + 1, w, v, t => ∃ sb re ka kc mb, v = .pointer (some ⟨sb, 0, none⟩) ∧ sb < w.heap.size ∧ Still Φ m sb ∧ w.heap[sb]? = some (.cells #[re, .slice ka t.kids.length kc, .map (some mb)] 118 (0, 0)) ∧ Φ mb = some t ∧ TT (Still Φ m) w re t ∧ t.kids.length ≤ kc ∧
      ∀ j, j < t.kids.length → ∃ g off u, ka = some ⟨g, off, none⟩ ∧ g < w.heap.size ∧ Still Φ m g ∧ w.cell? ⟨g, off + j, none⟩ = some u ∧ SPn n w u (t.kids.getD j nothT)
def SP (w : World) (v : Value) (t : Tm) : Prop := ∃ n, SPn Φ m n w v t
end

section
variable {zs : List Int} {Φ : Nat → Option Tm} {m : Nat}

theorem Fr.refl (w : World) : Fr Φ m w w := ⟨rfl, rfl, rfl, Nat.le_refl _, fun _ _ _ => rfl⟩
theorem Fr.trans {w w1 w2 : World} (h : Fr Φ m w w1) (h' : Fr Φ m w1 w2) : Fr Φ m w w2 :=
  ⟨h'.os.trans h.os, h'.tape.trans h.tape, h'.output.trans h.output, Nat.le_trans h.size h'.size, fun b hb hs => (h'.block b (Nat.lt_of_lt_of_le hb h.size) hs).trans (h.block b hb hs)⟩
theorem Fr.below {w w' : World} (h : Below w.heap.size w w') : Fr Φ m w w' := ⟨h.os, h.tape, h.output, h.size, fun b hb _ => h.block b hb⟩
theorem Fr.cell {w w' : World} (h : Fr Φ m w w') {b o : Nat} (hb : b < w.heap.size) (hs : Still Φ m b) : w'.cell? ⟨b, o, none⟩ = w.cell? ⟨b, o, none⟩ := World.cell?_of_block (a := ⟨b, o, none⟩) (h.block b hb hs)
/-- a change of new blocks alone -/
theorem Fr.own {w w1 w2 : World} {own : Option Nat} (h : Fr Φ m w w1) (hb : ∀ k, own = some k → w.heap.size ≤ k) (hg : w1.grownBy w2 own) : Fr Φ m w w2 :=
  ⟨hg.os.trans h.os, hg.tape.trans h.tape, hg.output.trans h.output, Nat.le_trans h.size hg.size, fun b hlt hs => (hg.block b (Nat.lt_of_lt_of_le hlt h.size) (fun e => by have := hb b e.symm; omega)).trans (h.block b hlt hs)⟩
theorem SPn.fr {w w' : World} (h : Fr Φ m w w') : ∀ (n : Nat) {v : Value} {t : Tm}, SPn Φ m n w v t → SPn Φ m n w' v t
  | 0, _, _, hh => hh.elim
  | n + 1, v, t, ⟨sb, re, ka, kc, mb, h1, h2, h3, h4, h5, h6, h7, h8⟩ => by
    refine ⟨sb, re, ka, kc, mb, h1, Nat.lt_of_lt_of_le h2 h.size, h3, (h.block sb h2 h3).trans h4, h5, Tree.moved h6 h.size fun b hb hs => ⟨hs, h.block b hb hs⟩, h7, fun j hj => ?_⟩
    obtain ⟨g, off, u, k1, k2, k3, k4, k5⟩ := h8 j hj
    exact ⟨g, off, u, k1, Nat.lt_of_lt_of_le k2 h.size, k3, (h.cell k2 k3).trans k4, SPn.fr h n k5⟩
theorem SP.fr {w w' : World} {v : Value} {t : Tm} (h : SP Φ m w v t) (hf : Fr Φ m w w') : SP Φ m w' v t := by
  obtain ⟨n, h⟩ := h; exact ⟨n, h.fr hf⟩
theorem MS.lt {ok : Nat → Prop} {w : World} {kept : Nat} (h : MS zs Φ m ok w kept) {b : Nat} {t : Tm} (hb : Φ b = some t) : b < w.heap.size := by
  obtain ⟨n, D, h1, _⟩ := h.know b t hb
  exact h1.lt
/-- new blocks are still -/
theorem MS.fresh {ok : Nat → Prop} {w : World} {kept : Nat} (h : MS zs Φ m ok w kept) {b : Nat} (hb : w.heap.size ≤ b) : Still Φ m b := by
  refine ⟨fun e => by have := h.mlt; omega, ?_⟩
  cases hp : Φ b with
  | none => rfl
  | some t => have := h.lt hp; omega
theorem MS.orNew {ok : Nat → Prop} {w : World} {kept : Nat} (h : MS zs Φ m ok w kept) : ∀ b, orNew ok w b → Still Φ m b := fun b hb => by
  rcases hb with hb | hb
  · exact h.still b hb
  · exact h.fresh hb
theorem MS.imp {ok ok' : Nat → Prop} {w : World} {kept : Nat} (h : MS zs Φ m ok w kept) (hk : ∀ b, b < w.heap.size → ok b → ok' b) (hs : ∀ b, ok' b → Still Φ m b) : MS zs Φ m ok' w kept := by
  refine ⟨h.mlt, h.mnone, ?_, h.kept_le, fun b t hb => ?_, hs⟩
  · obtain ⟨ta, tc, h1, h2⟩ := h.text
    refine ⟨ta, tc, h1, fun j hj => ?_⟩
    obtain ⟨g, e1, e2, e3, e4⟩ := h2 j hj
    exact ⟨g, e1, e2, hk g e2 e3, e4⟩
  obtain ⟨n, D, h1, h2, h3⟩ := h.know b t hb
  refine ⟨n, D, h1, h2, fun a ha hh => ?_⟩
  obtain ⟨v, N, k1, k2, k3⟩ := h3 a ha hh
  refine ⟨v, N, k1, ?_, k3⟩
  rcases k2 with k2 | ⟨g, off, c, e1, e2, e3, e4⟩
  · exact .inl k2
  · exact .inr ⟨g, off, c, e1, e2, hk g e2 e3, e4⟩
/-- a change of one's own row alone -/
theorem MS.own {ok : Nat → Prop} {w w' : World} {kept : Nat} {own : Option Nat} (h : MS zs Φ m ok w kept) (hg : w.grownBy w' own) (hne : ∀ b, ok b → own ≠ some b) (hst : ∀ k, own = some k → Still Φ m k) : MS zs Φ m ok w' kept := by
  have hm : own ≠ some m := fun e => (hst m e).1 rfl
  obtain ⟨ta, tc, ht1, ht2⟩ := h.text
  refine ⟨Nat.lt_of_lt_of_le h.mlt hg.size, h.mnone, ⟨ta, tc, (hg.block m h.mlt (fun e => hm e.symm)).trans ht1, fun j hj => ?_⟩, h.kept_le, fun b t hb => ?_, h.still⟩
  · obtain ⟨g, e1, e2, e3, e4⟩ := ht2 j hj
    exact ⟨g, e1, Nat.lt_of_lt_of_le e2 hg.size, e3, (World.cell?_of_block (a := ⟨g, j, none⟩) (hg.block g e2 (fun e => hne g e3 e.symm))).trans e4⟩
  · obtain ⟨n, D, h1, h2, h3⟩ := h.know b t hb
    refine ⟨n, D, h1.kept hg (fun e => by have := (hst b e.symm).2; rw [hb] at this; simp at this), h2, fun a ha hh => ?_⟩
    obtain ⟨v, N, k1, k2, k3⟩ := h3 a ha hh
    exact ⟨v, N, k1, k2.moved hg.size fun b hb hok => hg.block b hb (fun e => hne b hok e.symm), k3⟩
theorem MS.below {ok : Nat → Prop} {w w' : World} {kept : Nat} (h : MS zs Φ m ok w kept) (hb : Below w.heap.size w w') : MS zs Φ m ok w' kept :=
  h.own (own := none) ⟨hb.os, hb.tape, hb.output, hb.size, fun k hk _ => hb.block k hk⟩ (by simp) (by simp)
/-- what a call of the matcher gives -/
structure Gives (zs : List Int) (Φ : Nat → Option Tm) (m : Nat) (ok : Nat → Prop) (w : World) (P : Nat → Prop) (e : Ending) (w' : World) : Prop where
  all : ∃ v N kept, e = .returned v ∧ LenV (orNew ok w) w' v N ∧ BitsOf P N ∧ MS zs Φ m (orNew ok w) w' kept ∧ Fr Φ m w w'
/-- .. a row of its own, which nothing known has a part in -/
structure GivesO (zs : List Int) (Φ : Nat → Option Tm) (m : Nat) (ok : Nat → Prop) (w : World) (P : Nat → Prop) (e : Ending) (w' : World) : Prop where
  all : ∃ v N kept, e = .returned v ∧ OwnL w' w.heap.size v N ∧ BitsOf P N ∧ MS zs Φ m (fun b => orNew ok w b ∧ v.ownBlock ≠ some b) w' kept ∧ Fr Φ m w w'
theorem GivesO.gives {ok : Nat → Prop} {w w' : World} {P : Nat → Prop} {e : Ending} (hs : ∀ b, orNew ok w b → Still Φ m b) (h : GivesO zs Φ m ok w P e w') : Gives zs Φ m ok w P e w' := by
  obtain ⟨v, N, kept, h1, h2, h3, h4, h5⟩ := h.all
  exact ⟨v, N, kept, h1, h2.len.imp fun b hb => .inr hb, h3, h4.imp (fun b _ hb => hb.1) hs, h5⟩
end
end Go.Proofs.YtbjohedenfindaaGreatDoor

namespace Go.Proofs.YtbjohedenfindaaGreatDoor
open Go.RowKit
set_option linter.unusedVariables false
set_option maxRecDepth 100000

section
variable {zs : List Int} {Φ : Nat → Option Tm} {m : Nat}

theorem MS.lens {ok okA : Nat → Prop} {w w' : World} {kept : Nat} {ov v : Value} (h : MS zs Φ m ok w kept) (hok : ∀ b, b < w.heap.size → ok b → okA b ∧ ov.ownBlock ≠ some b) (hown : ∀ k, ov.ownBlock = some k → Still Φ m k) (hg : w.grownBy w' ov.ownBlock) (hat : ∀ k, v.ownBlock = some k → ov.ownBlock = some k ∨ w.heap.size ≤ k) (hS : ∀ b, okA b → Still Φ m b) :
    MS zs Φ m (fun b => okA b ∧ v.ownBlock ≠ some b) w' kept := by
  have h1 : MS zs Φ m (fun b => okA b ∧ b < w.heap.size ∧ ov.ownBlock ≠ some b) w kept := h.imp (fun b hb hk => ⟨(hok b hb hk).1, hb, (hok b hb hk).2⟩) fun b hb => hS b hb.1
  have h2 := h1.own hg (fun b hb => hb.2.2) hown
  refine h2.imp (fun b _ hb => ⟨hb.1, fun e => ?_⟩) fun b hb => hS b hb.1
  rcases hat b e with h' | h'
  · exact hb.2.2 h'
  · have := hb.2.1; omega
theorem OwnL.fr {w w' : World} {B : Nat} {v : Value} {N : Nat} (h : OwnL w B v N) (hf : Fr Φ m w w') (hs : ∀ k, v.ownBlock = some k → Still Φ m k) : OwnL w' B v N := by
  obtain ⟨xs, hx, hown⟩ := h
  refine ⟨xs, hx, hown.1, ?_⟩
  rcases hown.2 with h' | ⟨g, cap, cur, rfl, h1, h2, h3⟩
  · exact .inl h'
  · have hlt := (hown.lt g rfl).2
    exact .inr ⟨g, cap, cur, rfl, h1, (hf.block g hlt (hs g rfl)).trans h2, h3⟩
theorem OwnL.lt {w : World} {B : Nat} {v : Value} {N : Nat} (h : OwnL w B v N) : ∀ k, v.ownBlock = some k → B ≤ k ∧ k < w.heap.size := by
  obtain ⟨xs, hx, hown⟩ := h; exact hown.lt

/-- the contract of from -/
def FromC (zs : List Int) (Φ : Nat → Option Tm) (m : Nat) (t : Tm) : Prop := ∀ (ok : Nat → Prop) (w : World) (sv : Value) (a kept : Nat), SP Φ m w sv t → MS zs Φ m ok w kept → a ≤ zs.length → Calls Tryz.prog 33 #[.pointer (some ⟨m, 0, none⟩), sv, .int .i64 a] w fun e w' => Gives zs Φ m ok w (InL zs t a) e w'

/-- one behind the other, as lengths -/
def ThenL (zs : List Int) (t : Tm) (a : Nat) (P : Nat → Prop) (i n : Nat) : Prop := ∃ k, k < i ∧ k ≤ n ∧ P k ∧ InL zs t (a + k) (n - k)
theorem then_step {t : Tm} {a i N N2 : Nat} {P : Nat → Prop} (h : BitsOf (ThenL zs t a P i) N) (h2 : BitsOf (InL zs t (a + i)) N2) (hi : P i) : BitsOf (ThenL zs t a P (i + 1)) (N ||| N2 * 2 ^ i) := by
  intro n
  rw [Nat.testBit_or, Bool.or_eq_true, h n, Nat.testBit_mul_two_pow]
  simp only [Bool.and_eq_true, decide_eq_true_eq, h2 (n - i)]
  constructor
  · rintro (⟨k, h1, h2, h3, h4⟩ | ⟨h1, h2⟩)
    · exact ⟨k, by omega, h2, h3, h4⟩
    · exact ⟨i, by omega, h1, hi, h2⟩
  · rintro ⟨k, h1, h2, h3, h4⟩
    by_cases hk : k = i
    · subst hk; exact .inr ⟨‹k ≤ n›, h4⟩
    · exact .inl ⟨k, by omega, h2, h3, h4⟩
theorem then_skip {t : Tm} {a i N : Nat} {P : Nat → Prop} (h : BitsOf (ThenL zs t a P i) N) (hi : ¬ P i) : BitsOf (ThenL zs t a P (i + 1)) N := by
  refine h.congr fun n => ⟨fun ⟨k, h1, h2⟩ => ⟨k, by omega, h2⟩, fun ⟨k, h1, h2, h3, h4⟩ => ?_⟩
  by_cases hk : k = i
  · subst hk; exact absurd h3 hi
  · exact ⟨k, by omega, h2, h3, h4⟩
theorem then_zero {t : Tm} {a : Nat} {P : Nat → Prop} : BitsOf (ThenL zs t a P 0) 0 := fun n => by simp [ThenL]
theorem inL_le {t : Tm} {a n : Nat} (hz : zs.length ≤ 40) (h : InL zs t a n) : a + n ≤ 40 := Nat.le_trans h.1 hz
theorem then_le {t : Tm} {a i n : Nat} {P : Nat → Prop} (hz : zs.length ≤ 40) (h : ThenL zs t a P i n) : n ≤ 40 := by
  obtain ⟨k, _, h1, _, h2⟩ := h
  have := h2.1; omega
theorem shift_lt {t : Tm} {a i N : Nat} (hz : zs.length ≤ 40) (h : BitsOf (InL zs t (a + i)) N) : N * 2 ^ i < 2 ^ 64 := by
  have : BitsOf (fun n => i ≤ n ∧ InL zs t (a + i) (n - i)) (N * 2 ^ i) := fun n => by
    rw [Nat.testBit_mul_two_pow]
    simp only [Bool.and_eq_true, decide_eq_true_eq, h (n - i)]
  have h2 := this.lt fun n hn => by have := hn.2.1; omega
  exact Nat.lt_trans h2 (by decide)

set_option maxHeartbeats 4000000 in
theorem mbehind_any {t : Tm} (hz : zs.length ≤ 40) (hF : FromC zs Φ m t) {ok : Nat → Prop} {w : World} {tk sv : Value} {NT a kept : Nat} {P : Nat → Prop} (hSP : SP Φ m w sv t) (hMS : MS zs Φ m ok w kept) (hT : LenV (Still Φ m) w tk NT) (hP : BitsOf P NT) (hPb : ∀ n, P n → a + n ≤ zs.length) :
    Calls Tryz.prog 94 #[.pointer (some ⟨m, 0, none⟩), tk, sv, .int .i64 a] w fun e w' => GivesO zs Φ m ok w (fun (n : Nat) => ∃ k, k ≤ n ∧ P k ∧ InL zs t (a + k) (n - k)) e w' := by
  obtain ⟨ta, kk, tc, rfl, hkk, hk0⟩ : ∃ ta kk tc, tk = .slice ta kk tc ∧ kk ≤ 1 ∧ (kk = 0 → NT = 0) := by
    rcases hT with ⟨h, a, c, rfl⟩ | ⟨g, off, c, rfl, _⟩
    · exact ⟨_, _, _, rfl, by omega, fun _ => h⟩
    · exact ⟨_, _, _, rfl, by omega, by omega⟩
  have hNT : NT < 2 ^ 64 := Nat.lt_trans (hP.lt fun n hn => by have := hPb n hn; omega) (by decide)
  have HT : Hid (∀ w', Fr Φ m w w' → LenV (Still Φ m) w' (.slice ta kk tc) NT) := fun w' hf => hT.moved hf.size fun b hb hs => hf.block b hb hs
  have HF : Hid (FromC zs Φ m t) := hF
  have HSP : Hid (SP Φ m w sv t) := hSP
  have HMS : Hid (MS zs Φ m ok w kept) := hMS
  have HP : Hid (BitsOf P NT) := hP
  have HPb : Hid (∀ n, P n → a + n ≤ zs.length) := hPb
  have HEnd : Hid (∀ (n N : Nat), BitsOf (ThenL zs t a P (kk * 64)) N → BitsOf (fun (n : Nat) => ∃ k, k ≤ n ∧ P k ∧ InL zs t (a + k) (n - k)) N) := fun n N h => h.congr fun n => ⟨fun ⟨k, _, h⟩ => ⟨k, h⟩, fun ⟨k, h1, h2, h3⟩ => ⟨k, by
    have h4 := (hP k).2 h2
    rcases Nat.eq_zero_or_pos kk with h0 | h0
    · rw [hk0 h0] at h4; simp at h4
    · have := hPb k h2; omega, h1, h2, h3⟩⟩
  have HLE : Hid (Calls Tryz.prog 120 #[.slice ta kk tc] w fun e w' => e = .returned (.int .i64 ((kk : Int) * 64)) ∧ w' = w) := lend_any ta kk tc w hkk
  obtain ⟨sb, hsv⟩ : ∃ sb, sv = .pointer (some ⟨sb, 0, none⟩) := by
    obtain ⟨n, h⟩ := hSP
    cases n with
    | zero => exact h.elim
    | succ n => obtain ⟨sb, _, _, _, _, h1, _⟩ := h; exact ⟨sb, h1⟩
  subst hsv
  clear hF hSP hMS hT hP hPb hk0
  go_enter Tryz.func94, Tryz.ntmps94
  go_wp2_with fail
  refine HLE.out.mono ?_
  rintro e w1 ⟨rfl, rfl⟩
  go_wp2
  go_loopw [9, 13] (fun ov iv wr => ∃ i : Nat, i ≤ kk * 64 ∧ iv = .int .i64 i ∧ ∃ N kept, OwnL wr w1.heap.size ov N ∧ BitsOf (ThenL zs t a P i) N ∧ MS zs Φ m (fun b => orNew ok w1 b ∧ ov.ownBlock ≠ some b) wr kept ∧ Fr Φ m w1 wr) (fun _ iv _ => kk * 64 - (intOf iv).toNat)
  case atStart => exact ⟨0, Nat.zero_le _, rfl, 0, kept, ⟨[], .inl ⟨rfl, rfl⟩, World.ownsRow_nil _ _ _ _⟩, then_zero, HMS.out.imp (fun b _ hb => ⟨.inl hb, by simp [Value.ownBlock]⟩) (fun b hb => HMS.out.orNew b hb.1), Fr.refl _⟩
  case round =>
    obtain ⟨i, hi, rfl, N, kp, hO, hB, hM, hf⟩ := hrel
    by_cases hlt : i < kk * 64
    · have hi64 : i < 64 := by omega
      have HL : Hid (Calls Tryz.prog 35 #[.slice ta kk tc, .int .i64 i] wr fun e w' => e = .returned (.bool (NT.testBit i)) ∧ w' = wr) := lhas_any (HT.out wr hf) hNT hi64
      have hcast : ((i : Int) < (kk : Int) * 64) := by omega
      cases hb : NT.testBit i
      · rw [hb] at HL
        have hB2 : BitsOf (ThenL zs t a P (i + 1)) N := then_skip hB (fun h => by have := (HP.out i).2 h; rw [hb] at this; simp at this)
        have HO : Hid (OwnL wr w1.heap.size u9 N) := hO
        have HB2 : Hid (BitsOf (ThenL zs t a P (i + 1)) N) := hB2
        have HM : Hid (MS zs Φ m (fun b => orNew ok w1 b ∧ u9.ownBlock ≠ some b) wr kp) := hM
        clear hO hB hB2 hM hb
        go_wp2_with fail
        refine HL.out.mono ?_
        rintro e w2 ⟨rfl, rfl⟩
        go_wp2
        go_roundw
        case rel => exact ⟨i + 1, by omega, by go_num, N, kp, HO.out, HB2.out, HM.out, hf⟩
        case measure => simp [intOf]; omega
      · rw [hb] at HL
        have hPi : P i := (HP.out i).1 hb
        have hai : a + i ≤ zs.length := HPb.out i hPi
        have HC : Hid (Calls Tryz.prog 33 #[.pointer (some ⟨m, 0, none⟩), .pointer (some ⟨sb, 0, none⟩), .int .i64 ((a + i : Nat) : Int)] wr fun e w' => Gives zs Φ m (fun b => orNew ok w1 b ∧ u9.ownBlock ≠ some b) wr (InL zs t (a + i)) e w') := HF.out _ wr _ (a + i) kp (HSP.out.fr hf) hM hai
        have hN64 : N < 2 ^ 64 := Nat.lt_trans (hB.lt fun n hn => then_le hz hn) (by decide)
        have hltO := hO.lt
        have hStO : ∀ k, u9.ownBlock = some k → Still Φ m k := fun k hk => HMS.out.fresh (hltO k hk).1
        have HJ : Hid (∀ w2 v N2, Fr Φ m wr w2 → LenV (orNew (fun b => orNew ok w1 b ∧ u9.ownBlock ≠ some b) wr) w2 v N2 → BitsOf (InL zs t (a + i)) N2 → Calls Tryz.prog 95 #[u9, v, .int .i64 i] w2 fun e w' => Lens w2 w1.heap.size u9.ownBlock (N ||| N2 * 2 ^ i) e w') := fun w2 v N2 hf2 hv hb2 => ljoin_any i (Nat.le_trans hf.size hf2.size) hi64 hN64 (shift_lt hz hb2) (hO.fr hf2 hStO) hv
        have HMM : Hid (∀ w2 w3 v3 kp2, Fr Φ m wr w2 → MS zs Φ m (orNew (fun b => orNew ok w1 b ∧ u9.ownBlock ≠ some b) wr) w2 kp2 → w2.grownBy w3 u9.ownBlock → (∀ k, v3.ownBlock = some k → u9.ownBlock = some k ∨ w2.heap.size ≤ k) → MS zs Φ m (fun b => orNew ok w1 b ∧ Value.ownBlock v3 ≠ some b) w3 kp2 ∧ Fr Φ m w1 w3) := fun w2 w3 v3 kp2 hf2 hM2 hg hat => by
          refine ⟨hM2.lens (okA := orNew ok w1) ?_ hStO hg hat (HMS.out.orNew), (hf.trans hf2).own (fun k hk => (hltO k hk).1) hg⟩
          intro b hb2 hb
          rcases hb with hb | hb
          · exact hb
          · exact ⟨.inr (Nat.le_trans hf.size hb), fun e => by have := (hltO b e).2; omega⟩
        have HTh : Hid (∀ N2, BitsOf (InL zs t (a + i)) N2 → BitsOf (ThenL zs t a P (i + 1)) (N ||| N2 * 2 ^ i)) := fun N2 h2 => then_step hB h2 hPi
        have HADD : Hid ((a : Int) + (i : Int) = ((a + i : Nat) : Int)) := by show _ = _; omega
        clear hO hB hM hb hltO hStO
        go_wp2_with fail
        refine HL.out.mono ?_
        rintro e w2 ⟨rfl, rfl⟩
        go_wp2_with fail
        rw [HADD.out]
        refine HC.out.mono ?_
        intro e w3 hG
        obtain ⟨v3, N3, kp3, rfl, hv3, hb3, hM3, hf3⟩ := hG.all
        have HJ3 := HJ.out w3 v3 N3 hf3 hv3 hb3
        have HM3 : Hid (∀ w4 v4, w3.grownBy w4 u9.ownBlock → (∀ k, Value.ownBlock v4 = some k → u9.ownBlock = some k ∨ w3.heap.size ≤ k) → MS zs Φ m (fun b => orNew ok w1 b ∧ Value.ownBlock v4 ≠ some b) w4 kp3 ∧ Fr Φ m w1 w4) := fun w4 v4 hg hat => HMM.out w3 w4 v4 kp3 hf3 hM3 hg hat
        have HT3 := HTh.out N3 hb3
        have HTT : Hid (BitsOf (ThenL zs t a P (i + 1)) (N ||| N3 * 2 ^ i)) := HT3
        clear hG hv3 hb3 hM3 HT3 HTh HMM HJ
        go_wp2_with fail
        refine HJ3.mono ?_
        rintro e w4 ⟨v4, rfl, hO4, hg4, hat4⟩
        obtain ⟨hM4, hf4⟩ := HM3.out w4 v4 hg4 hat4
        have HO4 : Hid (OwnL w4 w1.heap.size v4 (N ||| N3 * 2 ^ i)) := hO4
        have HM4 : Hid (MS zs Φ m (fun b => orNew ok w1 b ∧ Value.ownBlock v4 ≠ some b) w4 kp3) := hM4
        clear hO4 hg4 hat4 hM4 HM3
        go_wp2
        go_roundw
        case rel => exact ⟨i + 1, by omega, by go_num, _, kp3, HO4.out, HTT.out, HM4.out, hf4⟩
        case measure => simp [intOf]; omega
    · have hi2 : i = kk * 64 := by omega
      have hcast : ¬ ((i : Int) < (kk : Int) * 64) := by omega
      subst hi2
      have HO : Hid (OwnL wr w1.heap.size u9 N) := hO
      have HB2 : Hid (BitsOf (fun (n : Nat) => ∃ k, k ≤ n ∧ P k ∧ InL zs t (a + k) (n - k)) N) := HEnd.out 0 N hB
      have HM : Hid (MS zs Φ m (fun b => orNew ok w1 b ∧ u9.ownBlock ≠ some b) wr kp) := hM
      clear hO hB hM
      go_wp2
      go_ret
      exact ⟨_, N, kp, rfl, HO.out, HB2.out, HM.out, hf⟩
end
end Go.Proofs.YtbjohedenfindaaGreatDoor
