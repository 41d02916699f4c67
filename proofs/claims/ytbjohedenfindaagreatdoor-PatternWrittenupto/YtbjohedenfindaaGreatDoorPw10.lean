/- Texts of the proof, put together: Pat, PRd, PTk, PatB. -/
import Derived.Test.YtbjohedenfindaaGreatDoorPw01
import Derived.Lib.RuneBytes
import Derived.Test.YtbjohedenfindaaGreatDoorPw04
import Derived.Test.YtbjohedenfindaaGreatDoorPw02
import Derived.Lib.BufferOwn
import Derived.Deep.RegionWith
import Derived.Maps.OwnSet
namespace Go.Proofs.YtbjohedenfindaaGreatDoor
set_option linter.unusedVariables false

/-- a pattern; a kid that is nil is none -/
structure Re where
  kind : Int
  set : List Rg
  mn : Int
  mx : Int
  kids : List (Option Re)

/-- the code point at a byte: -1 the end, -2 a byte that belongs to none -/
def cpAt (s : ByteArray) (i : Nat) : Int := if i < s.size then (if (Utf8.decode s i).1 = 65533 ∧ (Utf8.decode s i).2 = 1 then -2 else ((Utf8.decode s i).1 : Int)) else -1
def szAt (s : ByteArray) (i : Nat) : Nat := if i < s.size then (Utf8.decode s i).2 else 0
def isDig (s : ByteArray) (i : Nat) : Bool := decide (i < s.size) && (decide (48 ≤ (s.get! i).toNat) && decide ((s.get! i).toNat ≤ 57))
/-- how many digits stand from a byte on -/
def digRun (s : ByteArray) : Nat → Nat → Nat
  | 0, _ => 0
  | f + 1, i => if isDig s i then digRun s f (i + 1) + 1 else 0
def digVal (s : ByteArray) (i : Nat) : Nat → Int
  | 0 => 0
  | k + 1 => digVal s i k * 10 + (((s.get! (i + k)).toNat : Int) - 48)
def hexOf (b : Nat) : Int := if 48 ≤ b ∧ b ≤ 57 then (b : Int) - 48 else if 97 ≤ b ∧ b ≤ 102 then (b : Int) - 87 else if 65 ≤ b ∧ b ≤ 70 then (b : Int) - 55 else -1
def isHex (s : ByteArray) (i : Nat) : Bool := decide (i < s.size) && decide (0 ≤ hexOf (s.get! i).toNat)
def hexRun (s : ByteArray) : Nat → Nat → Nat
  | 0, _ => 0
  | f + 1, i => if isHex s i then hexRun s f (i + 1) + 1 else 0
def hexVal (s : ByteArray) (i : Nat) : Nat → Int
  | 0 => 0
  | k + 1 => hexVal s i k * 16 + hexOf (s.get! (i + k)).toNat

/-- the signs that have a meaning -/
def outerS (c : Int) : Bool := [124, 38, 42, 43, 63, 123, 125, 126, 40, 41, 91, 93, 46, 92].contains c
def innerS (c : Int) : Bool := [91, 93, 45, 94, 92].contains c
def escSign (c : Int) : Bool := [124, 38, 42, 43, 63, 123, 125, 126, 40, 41, 91, 93, 46, 92, 45, 94, 34, 39, 32].contains c
def escOf (c : Int) : Option Int := if c = 110 then some 10 else if c = 114 then some 13 else if c = 116 then some 9 else if escSign c then some c else none

def hexS (s : ByteArray) (i : Nat) : Option (Int × Nat) :=
  if 1 ≤ hexRun s 7 i ∧ hexRun s 7 i ≤ 6 ∧ cpAt s (i + hexRun s 7 i) = 125 ∧ hexVal s i (hexRun s 7 i) ≤ 1114111 then some (hexVal s i (hexRun s 7 i), i + hexRun s 7 i + 1) else none
/-- behind a stroke -/
def escS (s : ByteArray) (i : Nat) : Option (Int × Nat) :=
  match escOf (cpAt s i) with
  | some p => some (p, i + 1)
  | none => if cpAt s i = 117 ∧ cpAt s (i + 1) = 123 then hexS s (i + 2) else none
def pointS (s : ByteArray) (signs : Int → Bool) (i : Nat) : Option (Int × Nat) :=
  if cpAt s i = 92 then escS s (i + 1) else if cpAt s i < 0 ∨ signs (cpAt s i) = true then none else some (cpAt s i, i + szAt s i)
def countS (s : ByteArray) (i : Nat) : Option (Int × Nat) :=
  if digRun s s.size i = 0 ∨ (1 < digRun s s.size i ∧ (s.get! i).toNat = 48) ∨ 50 < digVal s i (digRun s s.size i) then none else some (digVal s i (digRun s s.size i), i + digRun s s.size i)
/-- behind a brace -/
def timesS (s : ByteArray) (i : Nat) : Option ((Int × Int) × Nat) :=
  match countS s i with
  | none => none
  | some (a, j) =>
    if cpAt s j = 44 then
      if cpAt s (j + 1) = 125 then some ((a, -1), j + 2)
      else match countS s (j + 1) with
        | none => none
        | some (b, k) => if b < a ∨ b < 1 ∨ cpAt s k ≠ 125 then none else some ((a, b), k + 1)
    else if cpAt s j ≠ 125 ∨ a < 1 then none else some ((a, a), j + 1)
def itemS (s : ByteArray) (i : Nat) : Option (Rg × Nat) :=
  match pointS s innerS i with
  | none => none
  | some (lo, j) =>
    if cpAt s j = 45 then
      match pointS s innerS (j + 1) with
      | none => none
      | some (hi, k) => if hi < lo then none else some ((lo, hi), k)
    else some ((lo, lo), j)
def itemsS (s : ByteArray) : Nat → List Rg → Nat → Option (List Rg × Nat)
  | 0, _, _ => none
  | f + 1, acc, i =>
    if cpAt s i = 93 then some (acc, i + 1)
    else match itemS s i with
      | none => none
      | some (r, j) => itemsS s f (acc ++ [r]) j
def setRe (l : List Rg) : Re := ⟨1, l, 0, 0, []⟩
def repRe (a b : Int) (p : Re) : Re := ⟨6, [], a, b, [some p]⟩
def notRe (p : Re) : Re := ⟨5, [], 0, 0, [some p]⟩
def gatherS (kind : Int) (l : List Re) : Re :=
  match l with
  | [p] => p
  | l => ⟨kind, [], 0, 0, l.map some⟩
def brackS (s : ByteArray) (mk : List Rg → Bool → List Rg) (i : Nat) : Option (Re × Nat) :=
  if cpAt s i = 94 then (itemsS s (s.size + 1) [] (i + 1)).map fun x => (setRe (mk x.1 true), x.2)
  else (itemsS s (s.size + 1) [] i).map fun x => (setRe (mk x.1 false), x.2)
def partS (s : ByteArray) : Nat → Re → Nat → Option (Re × Nat)
  | 0, _, _ => none
  | f + 1, p, i =>
    if cpAt s i = 42 then partS s f (repRe 0 (-1) p) (i + 1)
    else if cpAt s i = 43 then partS s f (repRe 1 (-1) p) (i + 1)
    else if cpAt s i = 63 then partS s f (repRe 0 1 p) (i + 1)
    else if cpAt s i = 123 then
      match timesS s (i + 1) with
      | none => none
      | some ((a, b), j) => partS s f (repRe a b p) j
    else some (p, i)
def rowEndS (c : Int) : Bool := [124, 38, 41, -1].contains c
def rowS (s : ByteArray) (u : Nat → Option (Re × Nat)) : Nat → List Re → Nat → Option (List Re × Nat)
  | 0, _, _ => none
  | f + 1, acc, i =>
    if rowEndS (cpAt s i) then some (acc, i)
    else match (u i).bind fun x => partS s (s.size + 1) x.1 x.2 with
      | none => none
      | some (p, j) => rowS s u f (acc ++ [p]) j
def sevS (s : ByteArray) (sign : Int) (r : Nat → Option (Re × Nat)) : Nat → List Re → Nat → Option (List Re × Nat)
  | 0, _, _ => none
  | f + 1, acc, i =>
    if cpAt s i = sign then
      match r (i + 1) with
      | none => none
      | some (p, j) => sevS s sign r f (acc ++ [p]) j
    else some (acc, i)
def severalS (s : ByteArray) (kind sign : Int) (r : Nat → Option (Re × Nat)) (i : Nat) : Option (Re × Nat) :=
  match r i with
  | none => none
  | some (p, j) => (sevS s sign r (s.size + 1) [p] j).map fun x => (gatherS kind x.1, x.2)
def rowReS (s : ByteArray) (u : Nat → Option (Re × Nat)) (i : Nat) : Option (Re × Nat) := (rowS s u (s.size + 1) [] i).map fun x => (gatherS 2 x.1, x.2)
def bothS (s : ByteArray) (u : Nat → Option (Re × Nat)) (i : Nat) : Option (Re × Nat) := severalS s 4 38 (rowReS s u) i
def patS (s : ByteArray) (u : Nat → Option (Re × Nat)) (i : Nat) : Option (Re × Nat) := severalS s 3 124 (bothS s u) i
def leafS (s : ByteArray) (mk : List Rg → Bool → List Rg) (i : Nat) : Option (Re × Nat) :=
  if cpAt s i = 46 then some (setRe (mk [(10, 10)] true), i + 1) else (pointS s outerS i).map fun x => (setRe [(x.1, x.1)], x.2)
def unitS (s : ByteArray) (mk : List Rg → Bool → List Rg) : Nat → Nat → Option (Re × Nat)
  | 0, i => leafS s mk i
  | n + 1, i =>
    if cpAt s i = 126 then (unitS s mk n (i + 1)).map fun x => (notRe x.1, x.2)
    else if cpAt s i = 40 then
      match patS s (fun j => unitS s mk n j) (i + 1) with
      | none => none
      | some (p, j) => if cpAt s j = 41 then some (p, j + 1) else none
    else if cpAt s i = 91 then brackS s mk (i + 1)
    else leafS s mk i
def wholeS (s : ByteArray) (mk : List Rg → Bool → List Rg) : Option Re :=
  match patS s (fun j => unitS s mk 100 j) 0 with
  | none => none
  | some (p, j) => if cpAt s j = -1 then some p else none

end Go.Proofs.YtbjohedenfindaaGreatDoor

namespace Go.Proofs.YtbjohedenfindaaGreatDoor
open Go.RowKit
set_option linter.unusedVariables false
set_option maxRecDepth 100000

/-- the package-level variables are as at the beginning -/
def Env (W0 w : World) : Prop := 16 ≤ w.heap.size ∧ ∀ k, k < 16 → w.heap[k]? = W0.heap[k]?
def outerB : ByteArray := ⟨#[124, 38, 42, 43, 63, 123, 125, 126, 40, 41, 91, 93, 46, 92]⟩
def innerB : ByteArray := ⟨#[91, 93, 45, 94, 92]⟩
/-- the signs that have a meaning, as a text and as a test -/
def SignsOf (S : ByteArray) (sg : Int → Bool) : Prop := (S = outerB ∧ sg = outerS) ∨ (S = innerB ∧ sg = innerS)
theorem grownBy_of_below {w w' : World} (h : Below w.heap.size w w') (row : Option Nat) : w.grownBy w' row := ⟨h.os, h.tape, h.output, h.size, fun k hk _ => h.block k hk⟩
theorem grownBy_undrew {w w' : World} {n : Nat} {row : Option Nat} (h : (w.drewN n).grownBy w' row) : w.grownBy w' row := ⟨h.os, h.tape, h.output, h.size, h.block⟩
theorem get_bang (s : ByteArray) (k : Nat) : s.get! k = (s.data[k]?).getD 0 := by
  show s.data[k]! = _
  rw [getElem!_def]
  cases h : s.data[k]? <;> rfl
end Go.Proofs.YtbjohedenfindaaGreatDoor

namespace Go.Proofs.YtbjohedenfindaaGreatDoor
open Go.RowKit
open Go.Maps (Keyed)
set_option linter.unusedVariables false
set_option maxRecDepth 100000

theorem Tryz.lawRune : Keyed Tryz.prog 21 := Maps.int_keyed Tryz.underlying21
/-- the map of the signs behind a stroke -/
def EscMap (w : World) (M : Nat) : Prop := ∃ (n : Nat) (D : DataW Unit), n ≤ 1000 ∧ w.ownsMap Tryz.prog 21 (plainElem Tryz.prog 3) M n D ∧ ∀ c : Int, Maps.has D (.int .i32 c) = (escOf c).isSome ∧ ∀ p, escOf c = some p → D.atKey (.int .i32 c) (.lit (.int .i64 0)) = .lit (.int .i64 p)

theorem Env.grown {W0 w w' : World} {R : Nat} (h : Env W0 w) (hg : w.grownBy w' (some R)) (hR : 16 ≤ R) : Env W0 w' :=
  ⟨Nat.le_trans h.1 hg.size, fun k hk => (hg.block k (Nat.lt_of_lt_of_le hk h.1) (fun e => by cases e; omega)).trans (h.2 k hk)⟩
theorem sz_le (s : ByteArray) (i : Nat) (h : i ≤ s.size) : i + szAt s i ≤ s.size := by
  unfold szAt
  split
  · rename_i h1; exact dec_le s i h1
  · omega
theorem cp_lt {s : ByteArray} {i : Nat} (h : 0 ≤ cpAt s i) : i < s.size := by
  unfold cpAt at h; split at h
  · assumption
  · omega

end Go.Proofs.YtbjohedenfindaaGreatDoor

namespace Go.Proofs.YtbjohedenfindaaGreatDoor
set_option linter.unusedVariables false

theorem decN_ascii (n b0 b1 b2 b3 : Nat) (h : (Lib.decodeN n b0 b1 b2 b3).1 < 128) (h0 : b0 < 256) : (Lib.decodeN n b0 b1 b2 b3).2 = 1 ∧ (Lib.decodeN n b0 b1 b2 b3).1 = b0 := by
  unfold Lib.decodeN at *
  by_cases c0 : b0 < 128
  · simp [c0]
  · exfalso
    rw [if_neg c0] at h
    split at h
    · split at h
      · simp at h; omega
      · simp at h
    · split at h
      · split at h
        · simp at h; omega
        · simp at h
      · split at h
        · split at h
          · simp at h; omega
          · simp at h
        · simp at h
theorem cp_in {s : ByteArray} {i : Nat} (h : 0 ≤ cpAt s i) : i < s.size ∧ cpAt s i = ((Utf8.decode s i).1 : Int) ∧ szAt s i = (Utf8.decode s i).2 := by
  unfold cpAt szAt at *
  by_cases h1 : i < s.size
  · rw [if_pos h1] at h ⊢
    rw [if_pos h1]
    refine ⟨h1, ?_, rfl⟩
    split
    · rename_i h2; rw [if_pos h2] at h; omega
    · rfl
  · rw [if_neg h1] at h; omega
theorem cp_ascii {s : ByteArray} {i : Nat} (h : 0 ≤ cpAt s i) (h2 : cpAt s i < 128) : szAt s i = 1 ∧ ((s.get! i).toNat : Int) = cpAt s i := by
  obtain ⟨h1, e1, e2⟩ := cp_in h
  rw [e1] at h2 ⊢
  rw [e2]
  rw [Lib.decode_at] at h2 ⊢
  obtain ⟨a, b⟩ := decN_ascii (s.size - i) (s.get! i).toNat (s.get! (i + 1)).toNat (s.get! (i + 2)).toNat (s.get! (i + 3)).toNat (by omega) (s.get! i).toNat_lt
  exact ⟨a, by omega⟩
theorem ascii_cp {s : ByteArray} {i : Nat} (h : i < s.size) (hb : (s.get! i).toNat < 128) : cpAt s i = ((s.get! i).toNat : Int) ∧ szAt s i = 1 := by
  have hd : Utf8.decode s i = ((s.get! i).toNat, 1) := by rw [Lib.decode_at, Lib.decodeN, if_pos hb]
  unfold cpAt szAt
  rw [if_pos h, if_pos h, hd, if_neg (by simp; omega)]
  exact ⟨rfl, rfl⟩
theorem cp_eq_size {s : ByteArray} {i : Nat} {c : Int} (h : cpAt s i = c) (h0 : 0 ≤ c) (h1 : c < 128) : i + 1 ≤ s.size ∧ szAt s i = 1 := by
  subst h
  exact ⟨(cp_in h0).1, (cp_ascii h0 h1).1⟩
theorem cp_range (s : ByteArray) (i : Nat) : -2 ≤ cpAt s i ∧ cpAt s i ≤ 1114111 := by
  unfold cpAt
  have := dec_rune s i
  split
  · split <;> omega
  · omega
theorem cp_pos {s : ByteArray} {i : Nat} (h : 0 ≤ cpAt s i) : i + 1 ≤ i + szAt s i ∧ i + szAt s i ≤ s.size := by
  obtain ⟨h1, e1, e2⟩ := cp_in h
  rw [e2]
  have := dec_width s i
  have := dec_le s i h1
  omega

theorem digRun_le (s : ByteArray) : ∀ (f i : Nat), i ≤ s.size → i + digRun s f i ≤ s.size
  | 0, i, h => by simp [digRun]; exact h
  | f + 1, i, h => by
    unfold digRun
    split
    · rename_i h1
      have h2 : i < s.size := by simp [isDig] at h1; exact h1.1
      have := digRun_le s f (i + 1) (by omega)
      omega
    · omega
theorem hexRun_le (s : ByteArray) : ∀ (f i : Nat), i ≤ s.size → i + hexRun s f i ≤ s.size
  | 0, i, h => by simp [hexRun]; exact h
  | f + 1, i, h => by
    unfold hexRun
    split
    · rename_i h1
      have h2 : i < s.size := by simp [isHex] at h1; exact h1.1
      have := hexRun_le s f (i + 1) (by omega)
      omega
    · omega
theorem hexVal_pos (s : ByteArray) : ∀ (f i k : Nat), k ≤ hexRun s f i → 0 ≤ hexVal s i k := by
  intro f i k
  have hh : ∀ (f i k : Nat), k < hexRun s f i → isHex s (i + k) = true := by
    intro f
    induction f with
    | zero => intro i k h; simp [hexRun] at h
    | succ f ih =>
      intro i k h
      unfold hexRun at h
      split at h
      · rename_i h1
        cases k with
        | zero => exact h1
        | succ k =>
          have := ih (i + 1) k (by omega)
          rw [show i + (k + 1) = i + 1 + k by omega]; exact this
      · omega
  induction k with
  | zero => intro _; simp [hexVal]
  | succ k ih =>
    intro h
    have h1 := hh f i k (by omega)
    simp [isHex] at h1
    have := ih (by omega)
    simp only [hexVal]
    omega
theorem escOf_rng {c p : Int} (h : escOf c = some p) : 0 ≤ p ∧ p < 128 ∧ 0 ≤ c ∧ c < 128 := by
  unfold escOf at h
  split at h
  · rename_i e; simp at h; omega
  · split at h
    · rename_i e; simp at h; omega
    · split at h
      · rename_i e; simp at h; omega
      · split at h
        · rename_i e
          simp at h
          simp [escSign] at e
          omega
        · simp at h
theorem hexS_some {s : ByteArray} {i j : Nat} {p : Int} (hi : i ≤ s.size) (h : hexS s i = some (p, j)) : i < j ∧ j ≤ s.size ∧ 0 ≤ p ∧ p ≤ 1114111 := by
  unfold hexS at h
  split at h
  · rename_i e
    obtain ⟨e1, e2, e3, e4⟩ := e
    simp at h
    obtain ⟨rfl, rfl⟩ := h
    have := cp_eq_size e3 (by omega) (by omega)
    have := hexVal_pos s 7 i _ (Nat.le_refl _)
    omega
  · simp at h
theorem escS_some {s : ByteArray} {i j : Nat} {p : Int} (hi : i ≤ s.size) (h : escS s i = some (p, j)) : i < j ∧ j ≤ s.size ∧ 0 ≤ p ∧ p ≤ 1114111 := by
  unfold escS at h
  split at h
  · rename_i q hq
    simp at h
    obtain ⟨rfl, rfl⟩ := h
    obtain ⟨h0, h1, h2, h3⟩ := escOf_rng hq
    have := cp_in h2
    omega
  · split at h
    · rename_i e
      have h1 := cp_eq_size e.1 (by omega) (by omega)
      have h2 := cp_eq_size e.2 (by omega) (by omega)
      have := hexS_some (by omega) h
      omega
    · simp at h
theorem pointS_some {s : ByteArray} {sg : Int → Bool} {i j : Nat} {p : Int} (hi : i ≤ s.size) (h : pointS s sg i = some (p, j)) : i < j ∧ j ≤ s.size ∧ 0 ≤ p ∧ p ≤ 1114111 := by
  unfold pointS at h
  split at h
  · rename_i e
    have h1 := cp_eq_size e (by omega) (by omega)
    have := escS_some (by omega) h
    omega
  · split at h
    · simp at h
    · rename_i e
      simp at h
      obtain ⟨rfl, rfl⟩ := h
      have h0 : 0 ≤ cpAt s i := by
        rcases Int.lt_or_le (cpAt s i) 0 with h | h
        · exact absurd (Or.inl h) e
        · exact h
      have := cp_pos h0
      have := cp_range s i
      omega
theorem countS_some {s : ByteArray} {i j : Nat} {p : Int} (hi : i ≤ s.size) (h : countS s i = some (p, j)) : i < j ∧ j ≤ s.size ∧ p ≤ 50 := by
  unfold countS at h
  split at h
  · simp at h
  · rename_i e
    simp at h
    obtain ⟨rfl, rfl⟩ := h
    have := digRun_le s s.size i hi
    refine ⟨?_, by omega, ?_⟩
    · have : digRun s s.size i ≠ 0 := fun h => e (Or.inl h)
      omega
    · rcases Int.lt_or_le 50 (digVal s i (digRun s s.size i)) with h | h
      · exact absurd (Or.inr (Or.inr h)) e
      · exact h
theorem timesS_some {s : ByteArray} {i j : Nat} {p : Int × Int} (hi : i ≤ s.size) (h : timesS s i = some (p, j)) : i < j ∧ j ≤ s.size := by
  unfold timesS at h
  split at h
  · simp at h
  · rename_i a k hk
    obtain ⟨h1, h2, _⟩ := countS_some hi hk
    split at h
    · rename_i e
      have h3 := cp_eq_size e (by omega) (by omega)
      split at h
      · rename_i e2
        have h4 := cp_eq_size e2 (by omega) (by omega)
        simp at h
        omega
      · split at h
        · simp at h
        · rename_i b l hl
          obtain ⟨h5, h6, _⟩ := countS_some (by omega) hl
          split at h
          · simp at h
          · rename_i e3
            simp at h
            have h7 : cpAt s l = 125 := Decidable.byContradiction fun hh => e3 (Or.inr (Or.inr hh))
            have := cp_eq_size h7 (by omega) (by omega)
            omega
    · split at h
      · simp at h
      · rename_i e3
        simp at h
        have h7 : cpAt s k = 125 := Decidable.byContradiction fun hh => e3 (Or.inl hh)
        have := cp_eq_size h7 (by omega) (by omega)
        omega
theorem itemS_some {s : ByteArray} {i j : Nat} {p : Rg} (hi : i ≤ s.size) (h : itemS s i = some (p, j)) : i < j ∧ j ≤ s.size := by
  unfold itemS at h
  split at h
  · simp at h
  · rename_i lo k hk
    have h1 := pointS_some hi hk
    split at h
    · rename_i e
      have h2 := cp_eq_size e (by omega) (by omega)
      split at h
      · simp at h
      · rename_i hi' l hl
        have h3 := pointS_some (by omega) hl
        split at h
        · simp at h
        · simp at h; omega
    · simp at h; omega
theorem itemsS_some {s : ByteArray} : ∀ (f : Nat) {acc out : List Rg} {i j : Nat}, i ≤ s.size → itemsS s f acc i = some (out, j) → i < j ∧ j ≤ s.size
  | 0, _, _, _, _, _, h => by simp [itemsS] at h
  | f + 1, acc, out, i, j, hi, h => by
    unfold itemsS at h
    split at h
    · rename_i e
      have := cp_eq_size e (by omega) (by omega)
      simp at h; omega
    · split at h
      · simp at h
      · rename_i r k hk
        have h1 := itemS_some hi hk
        have := itemsS_some f (by omega) h
        omega
theorem partS_some {s : ByteArray} : ∀ (f : Nat) {p q : Re} {i j : Nat}, i ≤ s.size → partS s f p i = some (q, j) → i ≤ j ∧ j ≤ s.size
  | 0, _, _, _, _, _, h => by simp [partS] at h
  | f + 1, p, q, i, j, hi, h => by
    unfold partS at h
    split at h
    · rename_i e
      have := cp_eq_size e (by omega) (by omega)
      have := partS_some f (by omega) h
      omega
    · split at h
      · rename_i e
        have := cp_eq_size e (by omega) (by omega)
        have := partS_some f (by omega) h
        omega
      · split at h
        · rename_i e
          have := cp_eq_size e (by omega) (by omega)
          have := partS_some f (by omega) h
          omega
        · split at h
          · rename_i e
            have := cp_eq_size e (by omega) (by omega)
            split at h
            · simp at h
            · rename_i a b k hk
              have := timesS_some (by omega) hk
              have := partS_some f (by omega) h
              omega
          · simp at h; omega

/-- a reader of units goes on, and not too far -/
def Goes (s : ByteArray) (u : Nat → Option (Re × Nat)) : Prop := ∀ i t j, i ≤ s.size → u i = some (t, j) → i < j ∧ j ≤ s.size
def Stays (s : ByteArray) (u : Nat → Option (Re × Nat)) : Prop := ∀ i t j, i ≤ s.size → u i = some (t, j) → i ≤ j ∧ j ≤ s.size

theorem rowS_some {s : ByteArray} {u : Nat → Option (Re × Nat)} (hu : Goes s u) : ∀ (f : Nat) {acc out : List Re} {i j : Nat}, i ≤ s.size → rowS s u f acc i = some (out, j) → i ≤ j ∧ j ≤ s.size
  | 0, _, _, _, _, _, h => by simp [rowS] at h
  | f + 1, acc, out, i, j, hi, h => by
    unfold rowS at h
    split at h
    · simp at h; omega
    · split at h
      · simp at h
      · rename_i p k hk
        cases hu1 : u i with
        | none => rw [hu1] at hk; simp at hk
        | some x =>
          obtain ⟨q, m⟩ := x
          rw [hu1] at hk
          simp at hk
          have h1 := hu i q m hi hu1
          have h2 := partS_some _ (by omega) hk
          have := rowS_some hu f (by omega) h
          omega
theorem sevS_some {s : ByteArray} {c : Int} (hc : 0 ≤ c ∧ c < 128) {r : Nat → Option (Re × Nat)} (hr : Stays s r) : ∀ (f : Nat) {acc out : List Re} {i j : Nat}, i ≤ s.size → sevS s c r f acc i = some (out, j) → i ≤ j ∧ j ≤ s.size
  | 0, _, _, _, _, _, h => by simp [sevS] at h
  | f + 1, acc, out, i, j, hi, h => by
    unfold sevS at h
    split at h
    · rename_i e
      have h0 := cp_eq_size e hc.1 hc.2
      split at h
      · simp at h
      · rename_i p k hk
        have h1 := hr _ _ _ (by omega) hk
        have := sevS_some hc hr f (by omega) h
        omega
    · simp at h; omega
theorem severalS_stays {s : ByteArray} {k c : Int} (hc : 0 ≤ c ∧ c < 128) {r : Nat → Option (Re × Nat)} (hr : Stays s r) : Stays s (severalS s k c r) := by
  intro i t j hi h
  unfold severalS at h
  split at h
  · simp at h
  · rename_i p m hm
    have h1 := hr _ _ _ hi hm
    simp at h
    obtain ⟨a, h2, h3⟩ := h
    have := sevS_some hc hr _ (by omega) h2
    omega
theorem rowReS_stays {s : ByteArray} {u : Nat → Option (Re × Nat)} (hu : Goes s u) : Stays s (rowReS s u) := by
  intro i t j hi h
  unfold rowReS at h
  simp at h
  obtain ⟨a, h2, h3⟩ := h
  exact rowS_some hu _ hi h2
theorem bothS_stays {s : ByteArray} {u : Nat → Option (Re × Nat)} (hu : Goes s u) : Stays s (bothS s u) := severalS_stays (by omega) (rowReS_stays hu)
theorem patS_stays {s : ByteArray} {u : Nat → Option (Re × Nat)} (hu : Goes s u) : Stays s (patS s u) := severalS_stays (by omega) (bothS_stays hu)
theorem leafS_goes {s : ByteArray} {mk : List Rg → Bool → List Rg} : Goes s (leafS s mk) := by
  intro i t j hi h
  unfold leafS at h
  split at h
  · rename_i e
    have := cp_eq_size e (by omega) (by omega)
    simp at h; omega
  · cases h2 : pointS s outerS i with
    | none => rw [h2] at h; simp at h
    | some x =>
      obtain ⟨a, b⟩ := x
      rw [h2] at h
      simp at h
      have := pointS_some hi h2
      omega
theorem brackS_goes {s : ByteArray} {mk : List Rg → Bool → List Rg} : Goes s (brackS s mk) := by
  intro i t j hi h
  unfold brackS at h
  split at h
  · rename_i e
    have := cp_eq_size e (by omega) (by omega)
    simp at h
    obtain ⟨a, h2, h3⟩ := h
    have := itemsS_some _ (by omega) h2
    omega
  · simp at h
    obtain ⟨a, h2, h3⟩ := h
    have := itemsS_some _ hi h2
    omega
theorem unitS_goes {s : ByteArray} {mk : List Rg → Bool → List Rg} : ∀ n, Goes s (unitS s mk n)
  | 0 => fun i t j hi h => leafS_goes i t j hi h
  | n + 1 => by
    intro i t j hi h
    unfold unitS at h
    split at h
    · rename_i e
      have := cp_eq_size e (by omega) (by omega)
      simp at h
      obtain ⟨a, h2, h3⟩ := h
      have := unitS_goes n _ _ _ (by omega) h2
      omega
    · split at h
      · rename_i e
        have := cp_eq_size e (by omega) (by omega)
        split at h
        · simp at h
        · rename_i p k hk
          have h1 := patS_stays (unitS_goes n) _ _ _ (by omega) hk
          split at h
          · rename_i e2
            have := cp_eq_size e2 (by omega) (by omega)
            simp at h; omega
          · simp at h
      · split at h
        · rename_i e
          have := cp_eq_size e (by omega) (by omega)
          have := brackS_goes _ _ _ (by omega) h
          omega
        · exact leafS_goes i t j hi h

end Go.Proofs.YtbjohedenfindaaGreatDoor
