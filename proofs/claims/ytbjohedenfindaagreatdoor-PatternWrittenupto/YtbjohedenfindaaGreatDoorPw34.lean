/- Texts of the proof, put together: Is, Code, WrA. -/
import Derived.Test.YtbjohedenfindaaGreatDoorProg
import Derived.WalkKit
import Derived.LaidEql
import Derived.Stop.Asserts
import Derived.RowKitTokens
import Derived.Test.YtbjohedenfindaaGreatDoorPw33
import Derived.Test.YtbjohedenfindaaGreatDoorPw10
import Derived.Test.YtbjohedenfindaaGreatDoorPw24
namespace Go.Proofs.YtbjohedenfindaaGreatDoor
open Go.RowKit Go.Extern.Stop Go.Stop Go.Extern
set_option linter.unusedVariables false
set_option maxRecDepth 100000

theorem Tryz.isTypeOf (v : Value) (w : World) : (Extern.ReflectliteType.typeOf #[.iface 259 v]).run Tryz.prog w = .ok (.iface 156 (.agg #[.pointer (some ⟨16, 259, none⟩)])) w := by kernel_rfl
theorem Tryz.isComparable0 (w : World) : ((Extern.ReflectliteType.method fun t => do Rtype.noPackHeld "Comparable" t; pure (.bool (← typeInfo t).comparable)) #[.agg #[.pointer (some ⟨16, 259, none⟩)]]).run Tryz.prog w = .ok (.bool true) w := by kernel_rfl
theorem Tryz.isComparable (w : World) : (callFunc 239 #[.agg #[.pointer (some ⟨16, 259, none⟩)]]).run Tryz.prog w = .ok (.value (.bool true)) w := by
  rw [@run_callFunc_extern Tryz.prog 239 _ (Extern.ReflectliteType.method fun t => do Rtype.noPackHeld "Comparable" t; pure (.bool (← typeInfo t).comparable)) Tryz.func239 (by kernel_rfl) (by kernel_rfl) (by kernel_rfl) (by kernel_rfl), Tryz.isComparable0]
  rfl
theorem Tryz.isMethodComparable (v : Value) (w : World) : (Go.method 390 156 v "Comparable").run Tryz.prog w = .ok (239, v) w := by kernel_rfl
theorem Tryz.isComp : (Tryz.prog.info? 259).map (·.comparable) = some true := by kernel_rfl
theorem Tryz.isSize : (Tryz.prog.info? 261).map (·.size) = some 1 := by kernel_rfl
theorem Tryz.noIsE (v : Value) (xT : TypeId) (w : World) : (Instr.typeAssert (.iface 259 v) xT 167 true).run Tryz.prog w = .ok (.tuple #[.nilIface, .bool false]) w := run_typeAssert_lacksB Tryz.underlying167 (by kernel_rfl) (by kernel_rfl) v xT w
theorem Tryz.noUnwrapE (v : Value) (xT : TypeId) (w : World) : (Instr.typeAssert (.iface 259 v) xT 163 true).run Tryz.prog w = .ok (.tuple #[.nilIface, .bool false]) w := run_typeAssert_lacksB Tryz.underlying163 (by kernel_rfl) (by kernel_rfl) v xT w
theorem Tryz.noUnwrapsE (v : Value) (xT : TypeId) (w : World) : (Instr.typeAssert (.iface 259 v) xT 165 true).run Tryz.prog w = .ok (.tuple #[.nilIface, .bool false]) w := run_typeAssert_lacksB Tryz.underlying165 (by kernel_rfl) (by kernel_rfl) v xT w
/-- errors.Is of an error and itself. -/
theorem is_same (a : Addr) (w : World) :
    Calls Tryz.prog 48 #[.iface 259 (.pointer (some a)), .iface 259 (.pointer (some a))] w fun e w' => e = .returned (.bool true) ∧ w' = w := by
  obtain ⟨i, hi, hcmp⟩ := Option.map_eq_some_iff.1 Tryz.isComp
  obtain ⟨j, hj, hjs⟩ := Option.map_eq_some_iff.1 Tryz.isSize
  have h8 := @run_callFunc_extern Tryz.prog 80 _ Extern.ReflectliteType.typeOf Tryz.func80 (by kernel_rfl) (by kernel_rfl) (by kernel_rfl) (by kernel_rfl)
  have tT := Tryz.isTypeOf
  have cT := Tryz.isComparable
  have mR := Tryz.isMethodComparable
  have heq := run_eql_iface_ptr_same (P := Tryz.prog) w a Tryz.underlying24 Tryz.underlying259 hi hcmp hj
  go_enter Tryz.func48, Tryz.ntmps48
  go_wp2
  refine wp_loop_rounds 1 ?_
  rw [rounds_succ]
  go_wp2
  go_ret
  exact ⟨rfl, rfl⟩

/-- errors.Is of two different errors of errors.New's make. -/
theorem is_other (a b : Addr) (ca cb : Array Value) (ta tb : TypeId) (w : World) (hne : a ≠ b) (ha : w.heap[a.block]? = some (.cells ca ta (0, 0))) (hb : w.heap[b.block]? = some (.cells cb tb (0, 0))) :
    Calls Tryz.prog 48 #[.iface 259 (.pointer (some a)), .iface 259 (.pointer (some b))] w fun e w' => e = .returned (.bool false) ∧ w' = w := by
  obtain ⟨i, hi, hcmp⟩ := Option.map_eq_some_iff.1 Tryz.isComp
  obtain ⟨j, hj, hjs⟩ := Option.map_eq_some_iff.1 Tryz.isSize
  have h8 := @run_callFunc_extern Tryz.prog 80 _ Extern.ReflectliteType.typeOf Tryz.func80 (by kernel_rfl) (by kernel_rfl) (by kernel_rfl) (by kernel_rfl)
  have tT := Tryz.isTypeOf
  have cT := Tryz.isComparable
  have mR := Tryz.isMethodComparable
  have nE := Tryz.noIsE
  have uE := Tryz.noUnwrapE
  have vE := Tryz.noUnwrapsE
  have heq := run_eql_iface_ptr_other (P := Tryz.prog) w Tryz.underlying24 Tryz.underlying259 hi hcmp hj (by rw [hjs]; decide) hne ha hb
  go_enter Tryz.func48, Tryz.ntmps48
  go_wp2
  refine wp_loop_rounds 1 ?_
  rw [rounds_succ]
  go_wp2
  go_ret
  exact ⟨rfl, rfl⟩

end Go.Proofs.YtbjohedenfindaaGreatDoor

namespace Go.Proofs.YtbjohedenfindaaGreatDoor
open Go.RowKit Go.Extern.Stop Go.Stop Go.Extern
set_option linter.unusedVariables false
set_option maxRecDepth 100000

/-- What the walk is told of the errors of package api and of the package errors' own variable: each error is a pointer of its own. -/
structure Errs (w : World) (a : Nat → Addr) : Prop where
  cell : ∀ j, j < 7 → w.cell? ⟨j, 0, none⟩ = some (.iface 259 (.pointer (some (a j))))
  row : ∀ j, j < 7 → ∃ c t, w.heap[(a j).block]? = some (.cells c t (0, 0))
  apart : ∀ i j, i < 7 → j < 7 → i ≠ j → a i ≠ a j
  type : w.cell? ⟨7, 0, none⟩ = some (.iface 156 (.agg #[.pointer (some ⟨16, 24, none⟩)]))

theorem Errs.size {w : World} {a : Nat → Addr} (h : Errs w a) : 7 < w.heap.size := lt_of_cell h.type
theorem Errs.below {w w' : World} {a : Nat → Addr} (h : Errs w a) {B : Nat} (hb : Below B w w') (hB : w.heap.size ≤ B) : Errs w' a := by
  have hs := h.size
  have hbs := hb.size
  refine ⟨fun j hj => (hb.cell (p := ⟨j, 0, none⟩) (by show j < B; omega)).trans (h.cell j hj), fun j hj => ?_, h.apart, (hb.cell (p := ⟨7, 0, none⟩) (by show 7 < B; omega)).trans h.type⟩
  obtain ⟨c, t, hc⟩ := h.row j hj
  have hlt : (a j).block < w.heap.size := (Array.getElem?_eq_some_iff.1 hc).1
  exact ⟨c, t, (hb.block _ (by omega)).trans hc⟩

def hitE (i j : Nat) : Bool := decide (i = j)

theorem is_list (w : World) (a : Nat → Addr) (h : Errs w a) (i j : Nat) (hi : i < 7) (hj : j < 7) :
    Calls Tryz.prog 48 #[.iface 259 (.pointer (some (a i))), .iface 259 (.pointer (some (a j)))] w fun e w' => e = .returned (.bool (hitE i j)) ∧ w' = w := by
  by_cases e : i = j
  · subst e
    have : hitE i i = true := by simp [hitE]
    rw [this]
    exact is_same (a i) w
  · obtain ⟨ca, ta, ha⟩ := h.row i hi
    obtain ⟨cb, tb, hb⟩ := h.row j hj
    have : hitE i j = false := by simp [hitE, e]
    rw [this]
    exact is_other (a i) (a j) ca cb ta tb w (h.apart i j hi hj e) ha hb

theorem list_cell (W : World) (a : Nat → Addr) (j : Nat) (hj : j < 7) : (W.alloc (.cells #[.iface 259 (.pointer (some (a 0))), .iface 259 (.pointer (some (a 1))), .iface 259 (.pointer (some (a 2))), .iface 259 (.pointer (some (a 3))), .iface 259 (.pointer (some (a 4))), .iface 259 (.pointer (some (a 5))), .iface 259 (.pointer (some (a 6)))] 24)).cell? ⟨W.heap.size, j, none⟩ = some (.iface 259 (.pointer (some (a j)))) := by
  rw [World.cell?_alloc_at _ _ _ _ rfl]
  match j, hj with
  | 0, _ => rfl
  | 1, _ => rfl
  | 2, _ => rfl
  | 3, _ => rfl
  | 4, _ => rfl
  | 5, _ => rfl
  | 6, _ => rfl

set_option maxHeartbeats 2000000 in
theorem code_err (w : World) (a : Nat → Addr) (h : Errs w a) (i : Nat) (hi : i < 7) :
    Calls Tryz.prog 23 #[.iface 259 (.pointer (some (a i)))] w fun e w' => e = .returned (.tuple #[.int .i64 ((i : Int) + 1), .int .i64 (-1)]) ∧ Below w.heap.size w w' := by
  have b1 : Below w.heap.size w (w.alloc (.cells #[.pointer none] 49)) := (Below.refl _ w).alloc (Nat.le_refl _) _
  have hE1 := (h.below b1 (Nat.le_refl _)).type
  go_enter Tryz.func23, Tryz.ntmps23
  go_wp2_with (go_at_call 47; refine (as_miss (a i) _ (.pointer none) _ hE1).mono ?_)
  rintro e w1 ⟨rfl, hw1⟩
  have b2 : Below w.heap.size w w1 := by
    rw [hw1]
    exact ((b1.alloc (by simp) _).alloc (by simp; omega) _).alloc (by simp; omega) _
  clear hw1
  have H1 := h.below b2 (Nat.le_refl _)
  have c0 := H1.cell 0 (by omega)
  have c1 := H1.cell 1 (by omega)
  have c2 := H1.cell 2 (by omega)
  have c3 := H1.cell 3 (by omega)
  have c4 := H1.cell 4 (by omega)
  have c5 := H1.cell 5 (by omega)
  have c6 := H1.cell 6 (by omega)
  go_wp2
  go_loop [26] (fun k => ∃ j : Nat, j ≤ i ∧ k = .int .i64 j) (fun k => 7 - (intOf k).toNat)
  case atStart => exact ⟨0, Nat.zero_le _, rfl⟩
  case round =>
    obtain ⟨j, hj, rfl⟩ := hrel
    clear c0 c1 c2 c3 c4 c5 c6
    have hj7 : j < 7 := by omega
    have cj := list_cell w1 a j hj7
    have b3 := b2.alloc (w := w1) b2.size (.cells #[.iface 259 (.pointer (some (a 0))), .iface 259 (.pointer (some (a 1))), .iface 259 (.pointer (some (a 2))), .iface 259 (.pointer (some (a 3))), .iface 259 (.pointer (some (a 4))), .iface 259 (.pointer (some (a 5))), .iface 259 (.pointer (some (a 6)))] 24)
    have H3 := h.below b3 (Nat.le_refl _)
    by_cases e : i = j
    · subst e
      have hd : hitE i i = true := by simp [hitE]
      go_wp2_with (go_at_call 48; refine (is_list _ a H3 i i hi hj7).mono ?_; rintro e w' ⟨rfl, rfl⟩)
      go_ret2
      exact ⟨rfl, b3⟩
    · have hd : hitE i j = false := by simp [hitE, e]
      have hlt : j < i := by omega
      clear e
      go_wp2_with (go_at_call 48; refine (is_list _ a H3 i j hi hj7).mono ?_; rintro e w' ⟨rfl, rfl⟩)
      go_round
      case rel => exact ⟨j + 1, by omega, by go_num⟩
      case measure => simp [intOf]; omega

end Go.Proofs.YtbjohedenfindaaGreatDoor

namespace Go.Proofs.YtbjohedenfindaaGreatDoor
set_option linter.unusedVariables false

/-- these bytes stand in a text from a place on -/
def At (s : ByteArray) (i : Nat) (l : List Nat) : Prop := ∀ k, (h : k < l.length) → i + k < s.size ∧ (s.get! (i + k)).toNat = l[k]
theorem At.nil (s : ByteArray) (i : Nat) : At s i [] := fun k h => by simp at h
theorem At.append {s : ByteArray} {i : Nat} {a b : List Nat} : At s i (a ++ b) ↔ At s i a ∧ At s (i + a.length) b := by
  constructor
  · intro h
    refine ⟨fun k hk => ?_, fun k hk => ?_⟩
    · have := h k (by simp; omega)
      rw [List.getElem_append_left hk] at this
      exact this
    · have := h (a.length + k) (by simp; omega)
      rw [List.getElem_append_right (by omega)] at this
      simp only [Nat.add_sub_cancel_left] at this
      rw [show i + a.length + k = i + (a.length + k) by omega]
      exact this
  · rintro ⟨h1, h2⟩ k hk
    by_cases hka : k < a.length
    · rw [List.getElem_append_left hka]; exact h1 k hka
    · rw [List.getElem_append_right (by omega)]
      have := h2 (k - a.length) (by simp at hk; omega)
      rw [show i + a.length + (k - a.length) = i + k by omega] at this
      exact this
theorem At.cons {s : ByteArray} {i : Nat} {b : Nat} {l : List Nat} : At s i (b :: l) ↔ (i < s.size ∧ (s.get! i).toNat = b) ∧ At s (i + 1) l := by
  rw [show b :: l = [b] ++ l from rfl, At.append]
  constructor
  · rintro ⟨h1, h2⟩; exact ⟨by simpa using h1 0 (by simp), h2⟩
  · rintro ⟨h1, h2⟩
    refine ⟨fun k hk => ?_, h2⟩
    have : k = 0 := by simpa using hk
    subst this
    simpa using h1
theorem At.one {s : ByteArray} {i b : Nat} : At s i [b] ↔ (i < s.size ∧ (s.get! i).toNat = b) := by
  rw [At.cons]; exact ⟨fun h => h.1, fun h => ⟨h, At.nil _ _⟩⟩
theorem At.le {s : ByteArray} {i : Nat} {l : List Nat} (h : At s i l) (hi : i ≤ s.size) : i + l.length ≤ s.size := by
  rcases Nat.eq_zero_or_pos l.length with h0 | h0
  · omega
  · have := (h (l.length - 1) (by omega)).1; omega
theorem At.cp {s : ByteArray} {i b : Nat} {l : List Nat} (h : At s i (b :: l)) (hb : b < 128) : cpAt s i = (b : Int) ∧ szAt s i = 1 ∧ i < s.size := by
  obtain ⟨⟨h1, h2⟩, _⟩ := At.cons.1 h
  obtain ⟨e1, e2⟩ := ascii_cp h1 (by omega)
  exact ⟨by rw [e1, h2], e2, h1⟩

/-- the bytes of a point that is written as it stands -/
def encB (c : Nat) : List Nat := if c < 128 then [c] else [192 + c / 64, 128 + c % 64]
theorem At.enc {s : ByteArray} {i c : Nat} (h : At s i (encB c)) (hc : c < 2048) : cpAt s i = (c : Int) ∧ szAt s i = (encB c).length ∧ i < s.size := by
  unfold encB at h ⊢
  by_cases h1 : c < 128
  · rw [if_pos h1] at h ⊢
    exact h.cp h1
  · rw [if_neg h1] at h ⊢
    obtain ⟨⟨g1, g2⟩, g3⟩ := At.cons.1 h
    obtain ⟨g4, g5⟩ := At.one.1 g3
    have hd : Utf8.decode s i = (c, 2) := by
      rw [Lib.decode_at, g2, g5]
      unfold Lib.decodeN
      rw [if_neg (by omega), if_pos (by omega)]
      have e : (192 + c / 64) % 32 * 64 + (128 + c % 64) % 64 = c := by omega
      rw [e, if_pos (by omega)]
    unfold cpAt szAt
    rw [if_pos g1, if_pos g1, hd, if_neg (by simp)]
    exact ⟨rfl, rfl, g1⟩

/-- a hex digit -/
def hexD (n : Nat) : Nat := if n < 10 then 48 + n else 87 + n
theorem hexD_of (n : Nat) (h : n < 16) : hexOf (hexD n) = (n : Int) ∧ hexD n < 128 := by
  unfold hexD
  split
  · rename_i h1
    unfold hexOf
    rw [if_pos (by omega)]
    omega
  · rename_i h1
    unfold hexOf
    rw [if_neg (by omega), if_pos (by omega)]
    omega
def hexB : Nat → Nat → List Nat
  | 0, _ => []
  | f + 1, n => if n < 16 then [hexD n] else hexB f (n / 16) ++ [hexD (n % 16)]
/-- the hex digits of a number below 2^28 -/
def hexT (n : Nat) : List Nat := hexB 7 n
theorem hexB_len : ∀ (f n k : Nat), n < 16 ^ k → 1 ≤ k → k ≤ f → 1 ≤ (hexB f n).length ∧ (hexB f n).length ≤ k
  | 0, n, k, _, h1, h2 => by omega
  | f + 1, n, k, h, h1, h2 => by
    unfold hexB
    split
    · simp; omega
    · rename_i hn
      have hk : 2 ≤ k := by
        rcases Nat.lt_or_ge k 2 with h | h
        · obtain rfl : k = 1 := by omega
          simp at h; omega
        · exact h
      obtain ⟨k', rfl⟩ : ∃ k', k = k' + 1 := ⟨k - 1, by omega⟩
      have := hexB_len f (n / 16) k' (by rw [Nat.pow_succ] at h; omega) (by omega) (by omega)
      simp; omega
theorem hexB_val : ∀ (f n k : Nat) (s : ByteArray) (i : Nat), n < 16 ^ k → 1 ≤ k → k ≤ f → At s i (hexB f n) → hexVal s i (hexB f n).length = (n : Int) ∧ ∀ j, j < (hexB f n).length → isHex s (i + j) = true
  | 0, n, k, _, _, _, h1, h2, _ => by omega
  | f + 1, n, k, s, i, h, h1, h2, hA => by
    unfold hexB at hA ⊢
    split at hA
    · rename_i hn
      rw [if_pos hn]
      obtain ⟨g1, g2⟩ := At.one.1 hA
      have hd := hexD_of n hn
      refine ⟨?_, fun j hj => ?_⟩
      · simp only [List.length_singleton, hexVal, Nat.add_zero, g2, hd.1]; omega
      · obtain rfl : j = 0 := by simpa using hj
        simp [isHex, g1, g2, hd.1]
    · rename_i hn
      rw [if_neg hn]
      obtain ⟨hA1, hA2⟩ := At.append.1 hA
      obtain ⟨g1, g2⟩ := At.one.1 hA2
      have hk : 2 ≤ k := by
        rcases Nat.lt_or_ge k 2 with h | h
        · obtain rfl : k = 1 := by omega
          simp at h; omega
        · exact h
      obtain ⟨k', rfl⟩ : ∃ k', k = k' + 1 := ⟨k - 1, by omega⟩
      have ih := hexB_val f (n / 16) k' s i (by rw [Nat.pow_succ] at h; omega) (by omega) (by omega) hA1
      have hd := hexD_of (n % 16) (by omega)
      refine ⟨?_, fun j hj => ?_⟩
      · rw [List.length_append, List.length_singleton, hexVal, ih.1, g2, hd.1]; omega
      · rw [List.length_append, List.length_singleton] at hj
        rcases Nat.lt_or_ge j (hexB f (n / 16)).length with hj2 | hj2
        · exact ih.2 j hj2
        · obtain rfl : j = (hexB f (n / 16)).length := by omega
          simp [isHex, g1, g2, hd.1]
          omega
theorem hexRun_at : ∀ (m f : Nat) (s : ByteArray) (i : Nat), m ≤ f → (∀ j, j < m → isHex s (i + j) = true) → isHex s (i + m) = false → hexRun s f i = m
  | 0, 0, s, i, _, _, _ => rfl
  | 0, f + 1, s, i, _, _, h => by rw [hexRun, if_neg (by simpa using h)]
  | m + 1, f + 1, s, i, hm, h, h2 => by
    rw [hexRun, if_pos (by simpa using h 0 (by omega))]
    rw [hexRun_at m f s (i + 1) (by omega) (fun j hj => by rw [show i + 1 + j = i + (j + 1) by omega]; exact h (j + 1) (by omega)) (by rw [show i + 1 + m = i + (m + 1) by omega]; exact h2)]
theorem hexS_at {s : ByteArray} {i n : Nat} (hn : n ≤ 1114111) (h : At s i (hexT n ++ [125])) : hexS s i = some ((n : Int), i + (hexT n).length + 1) := by
  obtain ⟨h1, h2⟩ := At.append.1 h
  have hl := hexB_len 7 n 6 (by omega) (by omega) (by omega)
  have hv := hexB_val 7 n 6 s i (by omega) (by omega) (by omega) h1
  have hcp := (At.cp h2 (by omega)).1
  have h125 := At.one.1 h2
  have hr : hexRun s 7 i = (hexT n).length := hexRun_at _ 7 s i (by unfold hexT; omega) hv.2 (by
    unfold isHex
    have : (s.get! (i + (hexT n).length)).toNat = 125 := h125.2
    rw [this]
    simp [hexOf])
  have hv1 : hexVal s i (hexT n).length = (n : Int) := hv.1
  have hl1 : 1 ≤ (hexT n).length ∧ (hexT n).length ≤ 6 := hl
  unfold hexS
  rw [hr, if_pos ⟨hl1.1, hl1.2, hcp, by rw [hv1]; omega⟩, hv1]

def plainB (c : Nat) : Bool := (decide (32 ≤ c) && decide (c ≤ 126)) || (decide (161 ≤ c) && decide (c ≤ 591) && decide (c ≠ 173))
/-- what stands behind a stroke for a point -/
def signOf (c : Nat) : Option Nat := if c = 10 then some 110 else if c = 13 then some 114 else if c = 9 then some 116 else if escSign (c : Int) then some c else none
/-- a point as it is written -/
def ptB (sg : Int → Bool) (c : Nat) : List Nat :=
  if plainB c && decide (c ≠ 96) && !sg (c : Int) then encB c
  else match signOf c with
    | some b => [92, b]
    | none => [92, 117, 123] ++ hexT c ++ [125]

theorem sign_esc {c b : Nat} (h : signOf c = some b) : escOf (b : Int) = some (c : Int) ∧ b < 128 := by
  unfold signOf at h
  split at h
  · rename_i e; cases h; subst e; decide
  · split at h
    · rename_i e; cases h; subst e; decide
    · split at h
      · rename_i e; cases h; subst e; decide
      · split at h
        · rename_i e
          cases h
          have he := e
          simp [escSign] at he
          unfold escOf
          rw [if_neg (by omega), if_neg (by omega), if_neg (by omega), if_pos e]
          exact ⟨rfl, by omega⟩
        · cases h
/-- signs of which a stroke is one -/
def SgOk (sg : Int → Bool) : Prop := sg 92 = true
theorem pt_at {s : ByteArray} {i c : Nat} {sg : Int → Bool} (hsg : SgOk sg) (hc : c ≤ 1114111) (h : At s i (ptB sg c)) : pointS s sg i = some ((c : Int), i + (ptB sg c).length) := by
  unfold ptB at h ⊢
  split at h
  · rename_i h1
    rw [if_pos h1]
    simp only [Bool.and_eq_true, decide_eq_true_eq, Bool.not_eq_true'] at h1
    have hlt : c < 2048 := by
      have := h1.1.1
      simp only [plainB, Bool.or_eq_true, Bool.and_eq_true, decide_eq_true_eq] at this
      omega
    obtain ⟨e1, e2, e3⟩ := At.enc h hlt
    have hn : c ≠ 92 := by
      rintro rfl
      have := h1.2
      rw [show ((92 : Nat) : Int) = 92 from rfl, hsg] at this
      cases this
    unfold pointS
    rw [e1, if_neg (by omega), if_neg (by rw [h1.2]; simp), e2]
  · rename_i h1
    rw [if_neg h1]
    cases hs : signOf c with
    | some b =>
      rw [hs] at h
      obtain ⟨e1, e2⟩ := sign_esc hs
      have c1 := (At.cp h (by omega)).1
      have c2 := (At.cp (At.cons.1 h).2 e2).1
      unfold pointS
      rw [if_pos (by simpa using c1)]
      unfold escS
      rw [c2, e1]
      rfl
    | none =>
      rw [hs] at h
      simp only at h ⊢
      rw [List.append_assoc] at h ⊢
      have h' : At s i (92 :: 117 :: 123 :: (hexT c ++ [125])) := h
      have c1 := (At.cp h' (by omega)).1
      have h2 := (At.cons.1 h').2
      have c2 := (At.cp h2 (by omega)).1
      have h3 := (At.cons.1 h2).2
      have c3 := (At.cp h3 (by omega)).1
      have h4 := (At.cons.1 h3).2
      have hx := hexS_at hc h4
      have he : escOf 117 = none := by decide
      unfold pointS
      rw [if_pos (by simpa using c1)]
      unfold escS
      rw [c2, show ((117 : Nat) : Int) = 117 from rfl, he]
      simp only
      rw [if_pos ⟨trivial, by simpa using c3⟩, show i + 1 + 2 = i + 1 + 1 + 1 by omega, hx]
      simp
      omega

/-- the first byte of a point is none of the signs -/
theorem pt_first {s : ByteArray} {i c : Nat} {sg : Int → Bool} (hsg : SgOk sg) (hc : c ≤ 1114111) (h : At s i (ptB sg c)) : i < s.size ∧ (cpAt s i = 92 ∨ (0 ≤ cpAt s i ∧ sg (cpAt s i) = false)) := by
  unfold ptB at h
  split at h
  · rename_i h1
    simp only [Bool.and_eq_true, decide_eq_true_eq, Bool.not_eq_true'] at h1
    have hlt : c < 2048 := by
      have := h1.1.1
      simp only [plainB, Bool.or_eq_true, Bool.and_eq_true, decide_eq_true_eq] at this
      omega
    obtain ⟨e1, e2, e3⟩ := At.enc h hlt
    exact ⟨e3, .inr ⟨by rw [e1]; omega, by rw [e1]; exact h1.2⟩⟩
  · cases hs : signOf c with
    | some b =>
      rw [hs] at h
      have := At.cp h (by omega)
      exact ⟨this.2.2, .inl (by simpa using this.1)⟩
    | none =>
      rw [hs] at h
      have h' : At s i (92 :: ([117, 123] ++ hexT c ++ [125])) := h
      have := At.cp h' (by omega)
      exact ⟨this.2.2, .inl (by simpa using this.1)⟩
theorem pt_len {c : Nat} {sg : Int → Bool} (hc : c ≤ 1114111) : 1 ≤ (ptB sg c).length ∧ (ptB sg c).length ≤ 10 := by
  unfold ptB
  split
  · unfold encB; split <;> simp
  · cases hs : signOf c with
    | some b => simp
    | none =>
      have hl : 1 ≤ (hexT c).length ∧ (hexT c).length ≤ 6 := hexB_len 7 c 6 (by omega) (by omega) (by omega)
      simp; omega
theorem outer_ok : SgOk outerS := by show outerS 92 = true; decide
theorem inner_ok : SgOk innerS := by show innerS 92 = true; decide

end Go.Proofs.YtbjohedenfindaaGreatDoor
