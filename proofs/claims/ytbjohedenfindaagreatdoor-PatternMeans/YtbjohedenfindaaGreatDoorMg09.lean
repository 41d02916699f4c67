/- Texts of the proof, put together: PRd, PTk, PatB. -/
import Derived.Test.YtbjohedenfindaaGreatDoorMg08
import Derived.Test.YtbjohedenfindaaGreatDoorMg04
import Derived.Test.YtbjohedenfindaaGreatDoorMg02
import Derived.Lib.BufferOwn
import Derived.Deep.RegionWith
import Derived.Maps.OwnSet
namespace Go.Proofs.YtbjohedenfindaaGreatDoor
open Go.RowKit
set_option linter.unusedVariables false
set_option maxRecDepth 100000

/-- the program's reader: its text, the place, how many are open, the signs' map -/
def RdAt (w : World) (R : Nat) (s : ByteArray) (i o M : Nat) : Prop := w.heap[R]? = some (.cells #[.string s, .int .i64 i, .int .i64 o, .map (some M)] 91 (0, 0))
def Thrown (e : Ending) : Prop := ∃ f : Addr, e = .panicked [{ v := .iface 49 (.pointer (some f)), recovered := false }]
/-- what the library's decoder says of the first code point -/
def decGo (s : ByteArray) : Nat × Nat := if s.size = 0 then (65533, 0) else Utf8.decode s 0
/-- the package-level variables are as at the beginning -/
def Env (W0 w : World) : Prop := 16 ≤ w.heap.size ∧ ∀ k, k < 16 → w.heap[k]? = W0.heap[k]?
def outerB : ByteArray := ⟨#[124, 38, 42, 43, 63, 123, 125, 126, 40, 41, 91, 93, 46, 92]⟩
def innerB : ByteArray := ⟨#[91, 93, 45, 94, 92]⟩
/-- the signs that have a meaning, as a text and as a test -/
def SignsOf (S : ByteArray) (sg : Int → Bool) : Prop := (S = outerB ∧ sg = outerS) ∨ (S = innerB ∧ sg = innerS)
/-- where a sign stands first in a text -/
def firstAt (T : ByteArray) (c : Nat) (k : Nat) : Prop := k < T.size ∧ (T.get! k).toNat = c ∧ ∀ j, j < k → (T.get! j).toNat ≠ c
def allHex (T : ByteArray) : Prop := ∀ j, j < T.size → 0 ≤ hexOf (T.get! j).toNat
def allDig (T : ByteArray) : Prop := ∀ j, j < T.size → 48 ≤ (T.get! j).toNat ∧ (T.get! j).toNat ≤ 57
/-- what the library's functions say -/
structure LibC (W0 : World) : Prop where
  syn : ∃ te pe, W0.cell? ⟨0, 0, none⟩ = some (.iface te pe)
  bnd : ∃ te pe, W0.cell? ⟨1, 0, none⟩ = some (.iface te pe)
  con : ∀ S sg, SignsOf S sg → ∀ c w, 0 ≤ c → c ≤ 1114111 → Env W0 w → Calls Tryz.prog 115 #[.string S, .int .i32 c] w fun e w' => e = .returned (.bool (sg c)) ∧ Below w.heap.size w w'
  cutT : ∀ T w k, Env W0 w → T.size ≤ 1000000 → firstAt T 125 k → Calls Tryz.prog 181 #[.string T, .string ⟨#[125]⟩] w fun e w' => (∃ b, e = .returned (.tuple #[.string (T.extract 0 k), .string b, .bool true])) ∧ Below w.heap.size w w'
  cutF : ∀ T w, Env W0 w → T.size ≤ 1000000 → (∀ j, j < T.size → (T.get! j).toNat ≠ 125) → Calls Tryz.prog 181 #[.string T, .string ⟨#[125]⟩] w fun e w' => (∃ b, e = .returned (.tuple #[.string T, .string b, .bool false])) ∧ Below w.heap.size w w'
  parT : ∀ T w, Env W0 w → 1 ≤ T.size → T.size ≤ 6 → allHex T → Calls Tryz.prog 182 #[.string T, .int .i64 16, .int .i64 64] w fun e w' => e = .returned (.tuple #[.int .u64 (hexVal T 0 T.size), .nilIface]) ∧ Below w.heap.size w w'
  parF : ∀ T w, Env W0 w → T.size ≤ 1000000 → T.size = 0 ∨ ¬ allHex T → Calls Tryz.prog 182 #[.string T, .int .i64 16, .int .i64 64] w fun e w' => (∃ n te pe, e = .returned (.tuple #[.int .u64 n, .iface te pe])) ∧ Below w.heap.size w w'
  parL : ∀ T w, Env W0 w → T.size ≤ 1000000 → Calls Tryz.prog 182 #[.string T, .int .i64 16, .int .i64 64] w fun e w' => (∃ n v, e = .returned (.tuple #[.int .u64 n, v]) ∧ (v = .nilIface ∨ ∃ te pe, v = .iface te pe)) ∧ Below w.heap.size w w'
  ato : ∀ T w, Env W0 w → 1 ≤ T.size → T.size ≤ 1000000 → allDig T → Calls Tryz.prog 172 #[.string T] w fun e w' => (∃ n ev, e = .returned (.tuple #[.int .i64 n, ev]) ∧ ((ev = .nilIface ∧ n = digVal T 0 T.size) ∨ (∃ te pe, ev = .iface te pe ∧ 50 < digVal T 0 T.size))) ∧ Below w.heap.size w w'
  dec : ∀ s w, Env W0 w → Calls Tryz.prog 126 #[.string s] w fun e w' => e = .returned (.tuple #[.int .i32 (decGo s).1, .int .i64 (decGo s).2]) ∧ Below w.heap.size w w'

theorem Env.drewN {W0 w : World} (h : Env W0 w) (n : Nat) : Env W0 (w.drewN n) := h

set_option maxHeartbeats 400000 in
theorem throw_any (te : TypeId) (pe : Value) (z : Int) (w : World) :
    Calls Tryz.prog 40 #[.iface te pe, .int .i64 z] w fun e w' => Thrown e ∧ ∀ row, w.grownBy w' row := by
  go_enter Tryz.func40, Tryz.ntmps40
  go_wp2
  exact ⟨rfl, ⟨_, rfl⟩, fun row => World.grownBy_alloc w _ row⟩

theorem grownBy_of_below {w w' : World} (h : Below w.heap.size w w') (row : Option Nat) : w.grownBy w' row := ⟨h.os, h.tape, h.output, h.size, fun k hk _ => h.block k hk⟩
theorem grownBy_undrew {w w' : World} {n : Nat} {row : Option Nat} (h : (w.drewN n).grownBy w' row) : w.grownBy w' row := ⟨h.os, h.tape, h.output, h.size, h.block⟩
theorem get_bang (s : ByteArray) (k : Nat) : s.get! k = (s.data[k]?).getD 0 := by
  show s.data[k]! = _
  rw [getElem!_def]
  cases h : s.data[k]? <;> rfl
theorem extract_get (s : ByteArray) (i k : Nat) : (s.extract i s.size).get! k = s.get! (i + k) := by
  rw [get_bang, get_bang]
  by_cases h : i + k < s.size
  · have h2 : k < (s.extract i s.size).size := by simp; omega
    have : (s.extract i s.size).data[k]? = s.data[i + k]? := by
      rw [ByteArray.data_extract, Array.getElem?_extract]
      have : s.data.size = s.size := rfl
      rw [if_pos (by omega)]
    rw [this]
  · have h2 : ¬ k < (s.extract i s.size).size := by simp; omega
    have a1 : (s.extract i s.size).data[k]? = none := Array.getElem?_eq_none (by have : (s.extract i s.size).data.size = (s.extract i s.size).size := rfl; omega)
    have a2 : s.data[i + k]? = none := Array.getElem?_eq_none (by have : s.data.size = s.size := rfl; omega)
    rw [a1, a2]
theorem decGo_at (s : ByteArray) (i : Nat) (h : i < s.size) : decGo (s.extract i s.size) = Utf8.decode s i := by
  have hz : (s.extract i s.size).size = s.size - i := by simp
  unfold decGo
  rw [if_neg (by omega), Lib.decode_at, Lib.decode_at, hz, extract_get, extract_get, extract_get, extract_get]
  simp
theorem RdAt.cells {w : World} {R i o M : Nat} {s : ByteArray} (h : RdAt w R s i o M) : w.cell? ⟨R, 0, none⟩ = some (.string s) ∧ w.cell? ⟨R, 1, none⟩ = some (.int .i64 i) ∧ w.cell? ⟨R, 2, none⟩ = some (.int .i64 o) ∧ w.cell? ⟨R, 3, none⟩ = some (.map (some M)) := by
  have h0 : w.heap[R]? = some (.cells #[.string s, .int .i64 i, .int .i64 o, .map (some M)] 91 (0, 0)) := h
  refine ⟨?_, ?_, ?_, ?_⟩ <;> simp [World.cell?, h0]

set_option maxHeartbeats 1000000 in
theorem next_at {W0 w : World} (L : LibC W0) (hE : Env W0 w) {R i o M : Nat} {s : ByteArray} (hR : RdAt w R s i o M) (hi : i < s.size) (hs : s.size ≤ 1000000) (a b : Nat) (hd : Utf8.decode s i = (a, b)) (x y : Bool) (hx : ((a : Int) == 65533) = x) (hy : ((b : Int) == 1) = y) :
    Calls Tryz.prog 105 #[.pointer (some ⟨R, 0, none⟩)] w fun e w' => e = .returned (.tuple #[.int .i32 (if x && y then -2 else (a : Int)), .int .i64 b]) ∧ ∀ row, w.grownBy w' row := by
  obtain ⟨c0, c1, _, _⟩ := hR.cells
  have hne : ((i : Int) == (s.size : Int)) = false := by rw [beq_eq_false_iff_ne]; omega
  have hDec : Hid (∀ w, Env W0 w → Calls Tryz.prog 126 #[.string (s.extract i s.size)] w fun e w' => e = .returned (.tuple #[.int .i32 a, .int .i64 b]) ∧ Below w.heap.size w w') := fun w h => by
    have := L.dec (s.extract i s.size) w h
    rw [decGo_at s i hi, hd] at this
    exact this
  clear hR hd
  go_enter Tryz.func105, Tryz.ntmps105
  go_wp2
  go_quiet (fail)
  go_wp2
  go_region_with (go_at_call 126; refine (hDec.out _ ?_).mono ?_; exact hE.drewN _; rintro e w' ⟨rfl, hb⟩)
  all_goals
    have hg := fun row => grownBy_undrew (grownBy_of_below hb row)
    cases x <;> cases y
    all_goals
      go_wp2
      go_ret2
      exact ⟨rfl, hg⟩

set_option maxHeartbeats 1000000 in
theorem next_end {w : World} {R o M : Nat} {s : ByteArray} (hR : RdAt w R s s.size o M) :
    Calls Tryz.prog 105 #[.pointer (some ⟨R, 0, none⟩)] w fun e w' => e = .returned (.tuple #[.int .i32 (-1), .int .i64 0]) ∧ ∀ row, w.grownBy w' row := by
  obtain ⟨c0, c1, _, _⟩ := hR.cells
  have hne : ((s.size : Int) == (s.size : Int)) = true := by simp
  go_enter Tryz.func105, Tryz.ntmps105
  go_wp2
  go_quiet (fail)
  go_wp2
  go_ret2
  exact ⟨rfl, fun row => ⟨rfl, rfl, rfl, Nat.le_refl _, fun _ _ _ => rfl⟩⟩

theorem next_any {W0 w : World} (L : LibC W0) (hE : Env W0 w) {R i o M : Nat} {s : ByteArray} (hR : RdAt w R s i o M) (hi : i ≤ s.size) (hs : s.size ≤ 1000000) :
    Calls Tryz.prog 105 #[.pointer (some ⟨R, 0, none⟩)] w fun e w' => e = .returned (.tuple #[.int .i32 (cpAt s i), .int .i64 (szAt s i)]) ∧ ∀ row, w.grownBy w' row := by
  by_cases h : i < s.size
  · obtain ⟨x, y, hd⟩ : ∃ x y, Utf8.decode s i = (x, y) := ⟨(Utf8.decode s i).1, (Utf8.decode s i).2, rfl⟩
    refine (next_at L hE hR h hs x y hd _ _ rfl rfl).mono ?_
    rintro e w' ⟨rfl, hg⟩
    refine ⟨?_, hg⟩
    unfold cpAt szAt
    rw [if_pos h, if_pos h, hd]
    by_cases h1 : x = 65533
    · by_cases h2 : y = 1
      · simp [h1, h2]
      · have : ((y : Int) == 1) = false := by rw [beq_eq_false_iff_ne]; omega
        simp [h1, h2, this]
    · have : ((x : Int) == 65533) = false := by rw [beq_eq_false_iff_ne]; omega
      simp [h1, this]
  · have e : i = s.size := by omega
    subst e
    refine (next_end hR).mono ?_
    rintro e w' ⟨rfl, hg⟩
    exact ⟨by simp [cpAt, szAt], hg⟩

end Go.Proofs.YtbjohedenfindaaGreatDoor

namespace Go.Proofs.YtbjohedenfindaaGreatDoor
open Go.RowKit
open Go.Maps (Keyed)
set_option linter.unusedVariables false
set_option maxRecDepth 100000

theorem Tryz.lawRune : Keyed Tryz.prog 21 := Maps.int_keyed Tryz.underlying21
theorem Tryz.zeroInt (w : World) : (zeroValue 3).run Tryz.prog w = .ok (.int .i64 0) w := by kernel_rfl

/-- the map of the signs behind a stroke -/
def EscMap (w : World) (M : Nat) : Prop := ∃ (n : Nat) (D : DataW Unit), n ≤ 1000 ∧ w.ownsMap Tryz.prog 21 (plainElem Tryz.prog 3) M n D ∧ ∀ c : Int, Maps.has D (.int .i32 c) = (escOf c).isSome ∧ ∀ p, escOf c = some p → D.atKey (.int .i32 c) (.lit (.int .i64 0)) = .lit (.int .i64 p)

/-- what the reader's functions are told, and tell -/
structure St (W0 w : World) (R : Nat) (s : ByteArray) (i o M : Nat) : Prop where
  env : Env W0 w
  at_ : RdAt w R s i o M
  esc : EscMap w M
  r16 : 16 ≤ R
  mr : M ≠ R
  text : s.size ≤ 1000000
  inn : i ≤ s.size

theorem Env.grown {W0 w w' : World} {R : Nat} (h : Env W0 w) (hg : w.grownBy w' (some R)) (hR : 16 ≤ R) : Env W0 w' :=
  ⟨Nat.le_trans h.1 hg.size, fun k hk => (hg.block k (Nat.lt_of_lt_of_le hk h.1) (fun e => by cases e; omega)).trans (h.2 k hk)⟩
theorem EscMap.grown {w w' : World} {M R : Nat} (h : EscMap w M) (hg : w.grownBy w' (some R)) (hne : M ≠ R) : EscMap w' M := by
  obtain ⟨n, D, hn, hown, hD⟩ := h
  exact ⟨n, D, hn, hown.kept hg (fun e => hne (by cases e; rfl)), hD⟩
theorem St.step {W0 w w' : World} {R : Nat} {s : ByteArray} {i o M j o' : Nat} (h : St W0 w R s i o M) (hg : w.grownBy w' (some R)) (hj : j ≤ s.size) (ha : RdAt w' R s j o' M) : St W0 w' R s j o' M :=
  ⟨h.env.grown hg h.r16, ha, h.esc.grown hg h.mr, h.r16, h.mr, h.text, hj⟩
theorem RdAt.lt {w : World} {R i o M : Nat} {s : ByteArray} (h : RdAt w R s i o M) : R < w.heap.size := (Array.getElem?_eq_some_iff.1 h).1
theorem RdAt.kept {w w' : World} {R i o M : Nat} {s : ByteArray} (h : RdAt w R s i o M) (hg : w.grownBy w' none) : RdAt w' R s i o M := (hg.block R h.lt (by simp)).trans h
theorem RdAt.set1 {w : World} {R i o M : Nat} {s : ByteArray} (h : RdAt w R s i o M) (j : Nat) : RdAt (w.setCell ⟨R, 1, none⟩ (.int .i64 j)) R s j o M := by
  have h0 : w.heap[R]? = some (.cells #[.string s, .int .i64 i, .int .i64 o, .map (some M)] 91 (0, 0)) := h
  show (w.setCell ⟨R, 1, none⟩ (.int .i64 j)).heap[R]? = _
  simp [World.setCell, Array.getElem?_modify, h0]
theorem RdAt.set2 {w : World} {R i o M : Nat} {s : ByteArray} (h : RdAt w R s i o M) (j : Nat) : RdAt (w.setCell ⟨R, 2, none⟩ (.int .i64 j)) R s i j M := by
  have h0 : w.heap[R]? = some (.cells #[.string s, .int .i64 i, .int .i64 o, .map (some M)] 91 (0, 0)) := h
  show (w.setCell ⟨R, 2, none⟩ (.int .i64 j)).heap[R]? = _
  simp [World.setCell, Array.getElem?_modify, h0]
theorem RdAt.frozen {w : World} {R i o M : Nat} {s : ByteArray} (h : RdAt w R s i o M) (k : Nat) : w.frozen? ⟨R, k, none⟩ = false := by
  have h0 : w.heap[R]? = some (.cells #[.string s, .int .i64 i, .int .i64 o, .map (some M)] 91 (0, 0)) := h
  simp [World.frozen?, h0]
theorem sz_le (s : ByteArray) (i : Nat) (h : i ≤ s.size) : i + szAt s i ≤ s.size := by
  unfold szAt
  split
  · rename_i h1; exact dec_le s i h1
  · omega
theorem cp_lt {s : ByteArray} {i : Nat} (h : 0 ≤ cpAt s i) : i < s.size := by
  unfold cpAt at h; split at h
  · assumption
  · omega

def takeB (s : ByteArray) (i : Nat) (c : Int) : Bool := decide (cpAt s i = c)

set_option maxHeartbeats 1000000 in
theorem take_yes {W0 w : World} (L : LibC W0) {R i o M : Nat} {s : ByteArray} (h : St W0 w R s i o M) (c : Int) (hc : cpAt s i = c) :
    Calls Tryz.prog 72 #[.pointer (some ⟨R, 0, none⟩), .int .i32 c] w fun e w' => e = .returned (.bool true) ∧ w.grownBy w' (some R) ∧ St W0 w' R s (i + szAt s i) o M := by
  have HS : Hid (St W0 w R s i o M) := h
  have hq : (c != c) = false := by simp
  have hn := next_any L h.env h.at_ h.inn h.text
  rw [hc] at hn
  have hz := sz_le s i h.inn
  have hz2 := h.text
  generalize szAt s i = z at *
  have HN : Hid (Calls Tryz.prog 105 #[.pointer (some ⟨R, 0, none⟩)] w fun e w' => e = .returned (.tuple #[.int .i32 c, .int .i64 z]) ∧ ∀ row, w.grownBy w' row) := hn
  clear hn h hc
  go_enter Tryz.func72, Tryz.ntmps72
  go_wp2_with fail
  refine HN.out.mono ?_
  rintro e w1 ⟨rfl, hg⟩
  have hR1 := HS.out.at_.kept (hg none)
  obtain ⟨_, c1, _, _⟩ := hR1.cells
  have f1 := hR1.frozen 1
  have HR : Hid (RdAt w1 R s i o M) := hR1
  clear hR1
  go_wp2
  go_ret
  have hg2 : w.grownBy (w1.setCell ⟨R, 1, none⟩ (.int .i64 ((i : Int) + z))) (some R) := Lib.grownBy_setB (hg _) 1 _
  refine ⟨rfl, hg2, ?_⟩
  have := HR.out.set1 (i + z)
  exact HS.out.step hg2 hz (by simpa using this)

set_option maxHeartbeats 1000000 in
theorem take_no {W0 w : World} (L : LibC W0) {R i o M : Nat} {s : ByteArray} (h : St W0 w R s i o M) (c : Int) (hc : cpAt s i ≠ c) :
    Calls Tryz.prog 72 #[.pointer (some ⟨R, 0, none⟩), .int .i32 c] w fun e w' => e = .returned (.bool false) ∧ w.grownBy w' (some R) ∧ St W0 w' R s i o M := by
  have HS : Hid (St W0 w R s i o M) := h
  have hn := next_any L h.env h.at_ h.inn h.text
  generalize cpAt s i = x at *
  have hq : (x != c) = true := by rw [bne_iff_ne]; exact hc
  generalize szAt s i = z at *
  have HN : Hid (Calls Tryz.prog 105 #[.pointer (some ⟨R, 0, none⟩)] w fun e w' => e = .returned (.tuple #[.int .i32 x, .int .i64 z]) ∧ ∀ row, w.grownBy w' row) := hn
  clear hn h hc
  go_enter Tryz.func72, Tryz.ntmps72
  go_wp2_with fail
  refine HN.out.mono ?_
  rintro e w1 ⟨rfl, hg⟩
  go_wp2
  go_ret
  exact ⟨rfl, hg _, HS.out.step (hg _) HS.out.inn (HS.out.at_.kept (hg none))⟩

theorem take_any {W0 w : World} (L : LibC W0) {R i o M : Nat} {s : ByteArray} (h : St W0 w R s i o M) (c : Int) :
    Calls Tryz.prog 72 #[.pointer (some ⟨R, 0, none⟩), .int .i32 c] w fun e w' => e = .returned (.bool (takeB s i c)) ∧ w.grownBy w' (some R) ∧ St W0 w' R s (if takeB s i c then i + szAt s i else i) o M := by
  by_cases hc : cpAt s i = c
  · have hb : takeB s i c = true := by simp [takeB, hc]
    rw [hb]; exact take_yes L h c hc
  · have hb : takeB s i c = false := by simp [takeB, hc]
    rw [hb]; exact take_no L h c hc

end Go.Proofs.YtbjohedenfindaaGreatDoor

namespace Go.Proofs.YtbjohedenfindaaGreatDoor
set_option linter.unusedVariables false

theorem decN_ascii (n b0 b1 b2 b3 : Nat) (h : (Lib.decodeN n b0 b1 b2 b3).1 < 128) (h0 : b0 < 256) : (Lib.decodeN n b0 b1 b2 b3).2 = 1 ∧ (Lib.decodeN n b0 b1 b2 b3).1 = b0 := by
  unfold Lib.decodeN at *
  by_cases c0 : b0 < 128
  · simp [c0]
  · exfalso
    rw [if_neg c0] at h
    split at h
    · split at h
      · simp at h; omega
      · simp at h
    · split at h
      · split at h
        · simp at h; omega
        · simp at h
      · split at h
        · split at h
          · simp at h; omega
          · simp at h
        · simp at h
theorem cp_in {s : ByteArray} {i : Nat} (h : 0 ≤ cpAt s i) : i < s.size ∧ cpAt s i = ((Utf8.decode s i).1 : Int) ∧ szAt s i = (Utf8.decode s i).2 := by
  unfold cpAt szAt at *
  by_cases h1 : i < s.size
  · rw [if_pos h1] at h ⊢
    rw [if_pos h1]
    refine ⟨h1, ?_, rfl⟩
    split
    · rename_i h2; rw [if_pos h2] at h; omega
    · rfl
  · rw [if_neg h1] at h; omega
theorem cp_ascii {s : ByteArray} {i : Nat} (h : 0 ≤ cpAt s i) (h2 : cpAt s i < 128) : szAt s i = 1 ∧ ((s.get! i).toNat : Int) = cpAt s i := by
  obtain ⟨h1, e1, e2⟩ := cp_in h
  rw [e1] at h2 ⊢
  rw [e2]
  rw [Lib.decode_at] at h2 ⊢
  obtain ⟨a, b⟩ := decN_ascii (s.size - i) (s.get! i).toNat (s.get! (i + 1)).toNat (s.get! (i + 2)).toNat (s.get! (i + 3)).toNat (by omega) (s.get! i).toNat_lt
  exact ⟨a, by omega⟩
theorem ascii_cp {s : ByteArray} {i : Nat} (h : i < s.size) (hb : (s.get! i).toNat < 128) : cpAt s i = ((s.get! i).toNat : Int) ∧ szAt s i = 1 := by
  have hd : Utf8.decode s i = ((s.get! i).toNat, 1) := by rw [Lib.decode_at, Lib.decodeN, if_pos hb]
  unfold cpAt szAt
  rw [if_pos h, if_pos h, hd, if_neg (by simp; omega)]
  exact ⟨rfl, rfl⟩
theorem cp_eq_size {s : ByteArray} {i : Nat} {c : Int} (h : cpAt s i = c) (h0 : 0 ≤ c) (h1 : c < 128) : i + 1 ≤ s.size ∧ szAt s i = 1 := by
  subst h
  exact ⟨(cp_in h0).1, (cp_ascii h0 h1).1⟩
theorem cp_range (s : ByteArray) (i : Nat) : -2 ≤ cpAt s i ∧ cpAt s i ≤ 1114111 := by
  unfold cpAt
  have := dec_rune s i
  split
  · split <;> omega
  · omega
theorem cp_pos {s : ByteArray} {i : Nat} (h : 0 ≤ cpAt s i) : i + 1 ≤ i + szAt s i ∧ i + szAt s i ≤ s.size := by
  obtain ⟨h1, e1, e2⟩ := cp_in h
  rw [e2]
  have := dec_width s i
  have := dec_le s i h1
  omega

theorem digRun_le (s : ByteArray) : ∀ (f i : Nat), i ≤ s.size → i + digRun s f i ≤ s.size
  | 0, i, h => by simp [digRun]; exact h
  | f + 1, i, h => by
    unfold digRun
    split
    · rename_i h1
      have h2 : i < s.size := by simp [isDig] at h1; exact h1.1
      have := digRun_le s f (i + 1) (by omega)
      omega
    · omega
theorem hexRun_le (s : ByteArray) : ∀ (f i : Nat), i ≤ s.size → i + hexRun s f i ≤ s.size
  | 0, i, h => by simp [hexRun]; exact h
  | f + 1, i, h => by
    unfold hexRun
    split
    · rename_i h1
      have h2 : i < s.size := by simp [isHex] at h1; exact h1.1
      have := hexRun_le s f (i + 1) (by omega)
      omega
    · omega
theorem hexVal_pos (s : ByteArray) : ∀ (f i k : Nat), k ≤ hexRun s f i → 0 ≤ hexVal s i k := by
  intro f i k
  have hh : ∀ (f i k : Nat), k < hexRun s f i → isHex s (i + k) = true := by
    intro f
    induction f with
    | zero => intro i k h; simp [hexRun] at h
    | succ f ih =>
      intro i k h
      unfold hexRun at h
      split at h
      · rename_i h1
        cases k with
        | zero => exact h1
        | succ k =>
          have := ih (i + 1) k (by omega)
          rw [show i + (k + 1) = i + 1 + k by omega]; exact this
      · omega
  induction k with
  | zero => intro _; simp [hexVal]
  | succ k ih =>
    intro h
    have h1 := hh f i k (by omega)
    simp [isHex] at h1
    have := ih (by omega)
    simp only [hexVal]
    omega
theorem escOf_rng {c p : Int} (h : escOf c = some p) : 0 ≤ p ∧ p < 128 ∧ 0 ≤ c ∧ c < 128 := by
  unfold escOf at h
  split at h
  · rename_i e; simp at h; omega
  · split at h
    · rename_i e; simp at h; omega
    · split at h
      · rename_i e; simp at h; omega
      · split at h
        · rename_i e
          simp at h
          simp [escSign] at e
          omega
        · simp at h
theorem hexS_some {s : ByteArray} {i j : Nat} {p : Int} (hi : i ≤ s.size) (h : hexS s i = some (p, j)) : i < j ∧ j ≤ s.size ∧ 0 ≤ p ∧ p ≤ 1114111 := by
  unfold hexS at h
  split at h
  · rename_i e
    obtain ⟨e1, e2, e3, e4⟩ := e
    simp at h
    obtain ⟨rfl, rfl⟩ := h
    have := cp_eq_size e3 (by omega) (by omega)
    have := hexVal_pos s 7 i _ (Nat.le_refl _)
    omega
  · simp at h
theorem escS_some {s : ByteArray} {i j : Nat} {p : Int} (hi : i ≤ s.size) (h : escS s i = some (p, j)) : i < j ∧ j ≤ s.size ∧ 0 ≤ p ∧ p ≤ 1114111 := by
  unfold escS at h
  split at h
  · rename_i q hq
    simp at h
    obtain ⟨rfl, rfl⟩ := h
    obtain ⟨h0, h1, h2, h3⟩ := escOf_rng hq
    have := cp_in h2
    omega
  · split at h
    · rename_i e
      have h1 := cp_eq_size e.1 (by omega) (by omega)
      have h2 := cp_eq_size e.2 (by omega) (by omega)
      have := hexS_some (by omega) h
      omega
    · simp at h
theorem pointS_some {s : ByteArray} {sg : Int → Bool} {i j : Nat} {p : Int} (hi : i ≤ s.size) (h : pointS s sg i = some (p, j)) : i < j ∧ j ≤ s.size ∧ 0 ≤ p ∧ p ≤ 1114111 := by
  unfold pointS at h
  split at h
  · rename_i e
    have h1 := cp_eq_size e (by omega) (by omega)
    have := escS_some (by omega) h
    omega
  · split at h
    · simp at h
    · rename_i e
      simp at h
      obtain ⟨rfl, rfl⟩ := h
      have h0 : 0 ≤ cpAt s i := by
        rcases Int.lt_or_le (cpAt s i) 0 with h | h
        · exact absurd (Or.inl h) e
        · exact h
      have := cp_pos h0
      have := cp_range s i
      omega
theorem countS_some {s : ByteArray} {i j : Nat} {p : Int} (hi : i ≤ s.size) (h : countS s i = some (p, j)) : i < j ∧ j ≤ s.size ∧ p ≤ 50 := by
  unfold countS at h
  split at h
  · simp at h
  · rename_i e
    simp at h
    obtain ⟨rfl, rfl⟩ := h
    have := digRun_le s s.size i hi
    refine ⟨?_, by omega, ?_⟩
    · have : digRun s s.size i ≠ 0 := fun h => e (Or.inl h)
      omega
    · rcases Int.lt_or_le 50 (digVal s i (digRun s s.size i)) with h | h
      · exact absurd (Or.inr (Or.inr h)) e
      · exact h
theorem timesS_some {s : ByteArray} {i j : Nat} {p : Int × Int} (hi : i ≤ s.size) (h : timesS s i = some (p, j)) : i < j ∧ j ≤ s.size := by
  unfold timesS at h
  split at h
  · simp at h
  · rename_i a k hk
    obtain ⟨h1, h2, _⟩ := countS_some hi hk
    split at h
    · rename_i e
      have h3 := cp_eq_size e (by omega) (by omega)
      split at h
      · rename_i e2
        have h4 := cp_eq_size e2 (by omega) (by omega)
        simp at h
        omega
      · split at h
        · simp at h
        · rename_i b l hl
          obtain ⟨h5, h6, _⟩ := countS_some (by omega) hl
          split at h
          · simp at h
          · rename_i e3
            simp at h
            have h7 : cpAt s l = 125 := Decidable.byContradiction fun hh => e3 (Or.inr (Or.inr hh))
            have := cp_eq_size h7 (by omega) (by omega)
            omega
    · split at h
      · simp at h
      · rename_i e3
        simp at h
        have h7 : cpAt s k = 125 := Decidable.byContradiction fun hh => e3 (Or.inl hh)
        have := cp_eq_size h7 (by omega) (by omega)
        omega
theorem itemS_some {s : ByteArray} {i j : Nat} {p : Rg} (hi : i ≤ s.size) (h : itemS s i = some (p, j)) : i < j ∧ j ≤ s.size := by
  unfold itemS at h
  split at h
  · simp at h
  · rename_i lo k hk
    have h1 := pointS_some hi hk
    split at h
    · rename_i e
      have h2 := cp_eq_size e (by omega) (by omega)
      split at h
      · simp at h
      · rename_i hi' l hl
        have h3 := pointS_some (by omega) hl
        split at h
        · simp at h
        · simp at h; omega
    · simp at h; omega
theorem itemsS_some {s : ByteArray} : ∀ (f : Nat) {acc out : List Rg} {i j : Nat}, i ≤ s.size → itemsS s f acc i = some (out, j) → i < j ∧ j ≤ s.size
  | 0, _, _, _, _, _, h => by simp [itemsS] at h
  | f + 1, acc, out, i, j, hi, h => by
    unfold itemsS at h
    split at h
    · rename_i e
      have := cp_eq_size e (by omega) (by omega)
      simp at h; omega
    · split at h
      · simp at h
      · rename_i r k hk
        have h1 := itemS_some hi hk
        have := itemsS_some f (by omega) h
        omega
theorem partS_some {s : ByteArray} : ∀ (f : Nat) {p q : Re} {i j : Nat}, i ≤ s.size → partS s f p i = some (q, j) → i ≤ j ∧ j ≤ s.size
  | 0, _, _, _, _, _, h => by simp [partS] at h
  | f + 1, p, q, i, j, hi, h => by
    unfold partS at h
    split at h
    · rename_i e
      have := cp_eq_size e (by omega) (by omega)
      have := partS_some f (by omega) h
      omega
    · split at h
      · rename_i e
        have := cp_eq_size e (by omega) (by omega)
        have := partS_some f (by omega) h
        omega
      · split at h
        · rename_i e
          have := cp_eq_size e (by omega) (by omega)
          have := partS_some f (by omega) h
          omega
        · split at h
          · rename_i e
            have := cp_eq_size e (by omega) (by omega)
            split at h
            · simp at h
            · rename_i a b k hk
              have := timesS_some (by omega) hk
              have := partS_some f (by omega) h
              omega
          · simp at h; omega

/-- a reader of units goes on, and not too far -/
def Goes (s : ByteArray) (u : Nat → Option (Re × Nat)) : Prop := ∀ i t j, i ≤ s.size → u i = some (t, j) → i < j ∧ j ≤ s.size
def Stays (s : ByteArray) (u : Nat → Option (Re × Nat)) : Prop := ∀ i t j, i ≤ s.size → u i = some (t, j) → i ≤ j ∧ j ≤ s.size

theorem rowS_some {s : ByteArray} {u : Nat → Option (Re × Nat)} (hu : Goes s u) : ∀ (f : Nat) {acc out : List Re} {i j : Nat}, i ≤ s.size → rowS s u f acc i = some (out, j) → i ≤ j ∧ j ≤ s.size
  | 0, _, _, _, _, _, h => by simp [rowS] at h
  | f + 1, acc, out, i, j, hi, h => by
    unfold rowS at h
    split at h
    · simp at h; omega
    · split at h
      · simp at h
      · rename_i p k hk
        cases hu1 : u i with
        | none => rw [hu1] at hk; simp at hk
        | some x =>
          obtain ⟨q, m⟩ := x
          rw [hu1] at hk
          simp at hk
          have h1 := hu i q m hi hu1
          have h2 := partS_some _ (by omega) hk
          have := rowS_some hu f (by omega) h
          omega
theorem sevS_some {s : ByteArray} {c : Int} (hc : 0 ≤ c ∧ c < 128) {r : Nat → Option (Re × Nat)} (hr : Stays s r) : ∀ (f : Nat) {acc out : List Re} {i j : Nat}, i ≤ s.size → sevS s c r f acc i = some (out, j) → i ≤ j ∧ j ≤ s.size
  | 0, _, _, _, _, _, h => by simp [sevS] at h
  | f + 1, acc, out, i, j, hi, h => by
    unfold sevS at h
    split at h
    · rename_i e
      have h0 := cp_eq_size e hc.1 hc.2
      split at h
      · simp at h
      · rename_i p k hk
        have h1 := hr _ _ _ (by omega) hk
        have := sevS_some hc hr f (by omega) h
        omega
    · simp at h; omega
theorem severalS_stays {s : ByteArray} {k c : Int} (hc : 0 ≤ c ∧ c < 128) {r : Nat → Option (Re × Nat)} (hr : Stays s r) : Stays s (severalS s k c r) := by
  intro i t j hi h
  unfold severalS at h
  split at h
  · simp at h
  · rename_i p m hm
    have h1 := hr _ _ _ hi hm
    simp at h
    obtain ⟨a, h2, h3⟩ := h
    have := sevS_some hc hr _ (by omega) h2
    omega
theorem rowReS_stays {s : ByteArray} {u : Nat → Option (Re × Nat)} (hu : Goes s u) : Stays s (rowReS s u) := by
  intro i t j hi h
  unfold rowReS at h
  simp at h
  obtain ⟨a, h2, h3⟩ := h
  exact rowS_some hu _ hi h2
theorem bothS_stays {s : ByteArray} {u : Nat → Option (Re × Nat)} (hu : Goes s u) : Stays s (bothS s u) := severalS_stays (by omega) (rowReS_stays hu)
theorem patS_stays {s : ByteArray} {u : Nat → Option (Re × Nat)} (hu : Goes s u) : Stays s (patS s u) := severalS_stays (by omega) (bothS_stays hu)
theorem leafS_goes {s : ByteArray} {mk : List Rg → Bool → List Rg} : Goes s (leafS s mk) := by
  intro i t j hi h
  unfold leafS at h
  split at h
  · rename_i e
    have := cp_eq_size e (by omega) (by omega)
    simp at h; omega
  · cases h2 : pointS s outerS i with
    | none => rw [h2] at h; simp at h
    | some x =>
      obtain ⟨a, b⟩ := x
      rw [h2] at h
      simp at h
      have := pointS_some hi h2
      omega
theorem brackS_goes {s : ByteArray} {mk : List Rg → Bool → List Rg} : Goes s (brackS s mk) := by
  intro i t j hi h
  unfold brackS at h
  split at h
  · rename_i e
    have := cp_eq_size e (by omega) (by omega)
    simp at h
    obtain ⟨a, h2, h3⟩ := h
    have := itemsS_some _ (by omega) h2
    omega
  · simp at h
    obtain ⟨a, h2, h3⟩ := h
    have := itemsS_some _ hi h2
    omega
theorem unitS_goes {s : ByteArray} {mk : List Rg → Bool → List Rg} : ∀ n, Goes s (unitS s mk n)
  | 0 => fun i t j hi h => leafS_goes i t j hi h
  | n + 1 => by
    intro i t j hi h
    unfold unitS at h
    split at h
    · rename_i e
      have := cp_eq_size e (by omega) (by omega)
      simp at h
      obtain ⟨a, h2, h3⟩ := h
      have := unitS_goes n _ _ _ (by omega) h2
      omega
    · split at h
      · rename_i e
        have := cp_eq_size e (by omega) (by omega)
        split at h
        · simp at h
        · rename_i p k hk
          have h1 := patS_stays (unitS_goes n) _ _ _ (by omega) hk
          split at h
          · rename_i e2
            have := cp_eq_size e2 (by omega) (by omega)
            simp at h; omega
          · simp at h
      · split at h
        · rename_i e
          have := cp_eq_size e (by omega) (by omega)
          have := brackS_goes _ _ _ (by omega) h
          omega
        · exact leafS_goes i t j hi h

end Go.Proofs.YtbjohedenfindaaGreatDoor
