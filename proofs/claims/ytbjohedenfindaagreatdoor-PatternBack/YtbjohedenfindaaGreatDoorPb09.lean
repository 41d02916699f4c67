/- Texts of the proof, put together: PTk, RRd, RRdB, RRdC, RNeed, Tree. -/
import Derived.Test.YtbjohedenfindaaGreatDoorPb08
import Derived.Maps.OwnSet
import Derived.Test.YtbjohedenfindaaGreatDoorPb01
import Derived.RegionDies
import Derived.Deep.RegionWith
import Derived.Test.YtbjohedenfindaaGreatDoorPb03
namespace Go.Proofs.YtbjohedenfindaaGreatDoor
open Go.RowKit
open Go.Maps (Keyed)
set_option linter.unusedVariables false
set_option maxRecDepth 100000

theorem Tryz.lawRune : Keyed Tryz.prog 21 := Maps.int_keyed Tryz.underlying21
theorem Tryz.zeroInt (w : World) : (zeroValue 3).run Tryz.prog w = .ok (.int .i64 0) w := by kernel_rfl

/-- the map of the signs behind a stroke -/
def EscMap (w : World) (M : Nat) : Prop := ∃ (n : Nat) (D : DataW Unit), n ≤ 1000 ∧ w.ownsMap Tryz.prog 21 (plainElem Tryz.prog 3) M n D ∧ ∀ c : Int, Maps.has D (.int .i32 c) = (escOf c).isSome ∧ ∀ p, escOf c = some p → D.atKey (.int .i32 c) (.lit (.int .i64 0)) = .lit (.int .i64 p)

/-- what the reader's functions are told, and tell -/
structure St (W0 w : World) (R : Nat) (s : ByteArray) (i o M : Nat) : Prop where
  env : Env W0 w
  at_ : RdAt w R s i o M
  esc : EscMap w M
  r16 : 16 ≤ R
  mr : M ≠ R
  text : s.size ≤ 1000000
  inn : i ≤ s.size

theorem Env.grown {W0 w w' : World} {R : Nat} (h : Env W0 w) (hg : w.grownBy w' (some R)) (hR : 16 ≤ R) : Env W0 w' :=
  ⟨Nat.le_trans h.1 hg.size, fun k hk => (hg.block k (Nat.lt_of_lt_of_le hk h.1) (fun e => by cases e; omega)).trans (h.2 k hk)⟩
theorem EscMap.grown {w w' : World} {M R : Nat} (h : EscMap w M) (hg : w.grownBy w' (some R)) (hne : M ≠ R) : EscMap w' M := by
  obtain ⟨n, D, hn, hown, hD⟩ := h
  exact ⟨n, D, hn, hown.kept hg (fun e => hne (by cases e; rfl)), hD⟩
theorem St.step {W0 w w' : World} {R : Nat} {s : ByteArray} {i o M j o' : Nat} (h : St W0 w R s i o M) (hg : w.grownBy w' (some R)) (hj : j ≤ s.size) (ha : RdAt w' R s j o' M) : St W0 w' R s j o' M :=
  ⟨h.env.grown hg h.r16, ha, h.esc.grown hg h.mr, h.r16, h.mr, h.text, hj⟩
theorem RdAt.lt {w : World} {R i o M : Nat} {s : ByteArray} (h : RdAt w R s i o M) : R < w.heap.size := (Array.getElem?_eq_some_iff.1 h).1
theorem RdAt.kept {w w' : World} {R i o M : Nat} {s : ByteArray} (h : RdAt w R s i o M) (hg : w.grownBy w' none) : RdAt w' R s i o M := (hg.block R h.lt (by simp)).trans h
theorem RdAt.set1 {w : World} {R i o M : Nat} {s : ByteArray} (h : RdAt w R s i o M) (j : Nat) : RdAt (w.setCell ⟨R, 1, none⟩ (.int .i64 j)) R s j o M := by
  have h0 : w.heap[R]? = some (.cells #[.string s, .int .i64 i, .int .i64 o, .map (some M)] 91 (0, 0)) := h
  show (w.setCell ⟨R, 1, none⟩ (.int .i64 j)).heap[R]? = _
  simp [World.setCell, Array.getElem?_modify, h0]
theorem RdAt.set2 {w : World} {R i o M : Nat} {s : ByteArray} (h : RdAt w R s i o M) (j : Nat) : RdAt (w.setCell ⟨R, 2, none⟩ (.int .i64 j)) R s i j M := by
  have h0 : w.heap[R]? = some (.cells #[.string s, .int .i64 i, .int .i64 o, .map (some M)] 91 (0, 0)) := h
  show (w.setCell ⟨R, 2, none⟩ (.int .i64 j)).heap[R]? = _
  simp [World.setCell, Array.getElem?_modify, h0]
theorem RdAt.frozen {w : World} {R i o M : Nat} {s : ByteArray} (h : RdAt w R s i o M) (k : Nat) : w.frozen? ⟨R, k, none⟩ = false := by
  have h0 : w.heap[R]? = some (.cells #[.string s, .int .i64 i, .int .i64 o, .map (some M)] 91 (0, 0)) := h
  simp [World.frozen?, h0]
theorem sz_le (s : ByteArray) (i : Nat) (h : i ≤ s.size) : i + szAt s i ≤ s.size := by
  unfold szAt
  split
  · rename_i h1; exact dec_le s i h1
  · omega
theorem cp_lt {s : ByteArray} {i : Nat} (h : 0 ≤ cpAt s i) : i < s.size := by
  unfold cpAt at h; split at h
  · assumption
  · omega

def takeB (s : ByteArray) (i : Nat) (c : Int) : Bool := decide (cpAt s i = c)

set_option maxHeartbeats 1000000 in
theorem take_yes {W0 w : World} (L : LibC W0) {R i o M : Nat} {s : ByteArray} (h : St W0 w R s i o M) (c : Int) (hc : cpAt s i = c) :
    Calls Tryz.prog 72 #[.pointer (some ⟨R, 0, none⟩), .int .i32 c] w fun e w' => e = .returned (.bool true) ∧ w.grownBy w' (some R) ∧ St W0 w' R s (i + szAt s i) o M := by
  have HS : Hid (St W0 w R s i o M) := h
  have hq : (c != c) = false := by simp
  have hn := next_any L h.env h.at_ h.inn h.text
  rw [hc] at hn
  have hz := sz_le s i h.inn
  have hz2 := h.text
  generalize szAt s i = z at *
  have HN : Hid (Calls Tryz.prog 105 #[.pointer (some ⟨R, 0, none⟩)] w fun e w' => e = .returned (.tuple #[.int .i32 c, .int .i64 z]) ∧ ∀ row, w.grownBy w' row) := hn
  clear hn h hc
  go_enter Tryz.func72, Tryz.ntmps72
  go_wp2_with fail
  refine HN.out.mono ?_
  rintro e w1 ⟨rfl, hg⟩
  have hR1 := HS.out.at_.kept (hg none)
  obtain ⟨_, c1, _, _⟩ := hR1.cells
  have f1 := hR1.frozen 1
  have HR : Hid (RdAt w1 R s i o M) := hR1
  clear hR1
  go_wp2
  go_ret
  have hg2 : w.grownBy (w1.setCell ⟨R, 1, none⟩ (.int .i64 ((i : Int) + z))) (some R) := Lib.grownBy_setB (hg _) 1 _
  refine ⟨rfl, hg2, ?_⟩
  have := HR.out.set1 (i + z)
  exact HS.out.step hg2 hz (by simpa using this)

set_option maxHeartbeats 1000000 in
theorem take_no {W0 w : World} (L : LibC W0) {R i o M : Nat} {s : ByteArray} (h : St W0 w R s i o M) (c : Int) (hc : cpAt s i ≠ c) :
    Calls Tryz.prog 72 #[.pointer (some ⟨R, 0, none⟩), .int .i32 c] w fun e w' => e = .returned (.bool false) ∧ w.grownBy w' (some R) ∧ St W0 w' R s i o M := by
  have HS : Hid (St W0 w R s i o M) := h
  have hn := next_any L h.env h.at_ h.inn h.text
  generalize cpAt s i = x at *
  have hq : (x != c) = true := by rw [bne_iff_ne]; exact hc
  generalize szAt s i = z at *
  have HN : Hid (Calls Tryz.prog 105 #[.pointer (some ⟨R, 0, none⟩)] w fun e w' => e = .returned (.tuple #[.int .i32 x, .int .i64 z]) ∧ ∀ row, w.grownBy w' row) := hn
  clear hn h hc
  go_enter Tryz.func72, Tryz.ntmps72
  go_wp2_with fail
  refine HN.out.mono ?_
  rintro e w1 ⟨rfl, hg⟩
  go_wp2
  go_ret
  exact ⟨rfl, hg _, HS.out.step (hg _) HS.out.inn (HS.out.at_.kept (hg none))⟩

theorem take_any {W0 w : World} (L : LibC W0) {R i o M : Nat} {s : ByteArray} (h : St W0 w R s i o M) (c : Int) :
    Calls Tryz.prog 72 #[.pointer (some ⟨R, 0, none⟩), .int .i32 c] w fun e w' => e = .returned (.bool (takeB s i c)) ∧ w.grownBy w' (some R) ∧ St W0 w' R s (if takeB s i c then i + szAt s i else i) o M := by
  by_cases hc : cpAt s i = c
  · have hb : takeB s i c = true := by simp [takeB, hc]
    rw [hb]; exact take_yes L h c hc
  · have hb : takeB s i c = false := by simp [takeB, hc]
    rw [hb]; exact take_no L h c hc

end Go.Proofs.YtbjohedenfindaaGreatDoor

namespace Go.Proofs.YtbjohedenfindaaGreatDoor
open Go.RowKit
set_option linter.unusedVariables false
set_option maxRecDepth 100000

/-- the document's reader: its text, the place, how many are open, what is wrong, and where -/
def RrAt (w : World) (R : Nat) (s : ByteArray) (i : Nat) (o : Int) (bad : Value) (z : Int) : Prop := w.heap[R]? = some (.cells #[.string s, .int .i64 i, .int .i64 o, bad, .int .i64 z] 54 (0, 0))
theorem RrAt.cells {w : World} {R i : Nat} {o : Int} {s : ByteArray} {bad : Value} {z : Int} (h : RrAt w R s i o bad z) : w.cell? ⟨R, 0, none⟩ = some (.string s) ∧ w.cell? ⟨R, 1, none⟩ = some (.int .i64 i) ∧ w.cell? ⟨R, 2, none⟩ = some (.int .i64 o) ∧ w.cell? ⟨R, 3, none⟩ = some bad ∧ w.cell? ⟨R, 4, none⟩ = some (.int .i64 z) := by
  have h0 : w.heap[R]? = some (.cells #[.string s, .int .i64 i, .int .i64 o, bad, .int .i64 z] 54 (0, 0)) := h
  refine ⟨?_, ?_, ?_, ?_, ?_⟩ <;> simp [World.cell?, h0]
theorem RrAt.frozen {w : World} {R i : Nat} {o : Int} {s : ByteArray} {bad : Value} {z : Int} (h : RrAt w R s i o bad z) (k : Nat) : w.frozen? ⟨R, k, none⟩ = false := by
  have h0 : w.heap[R]? = some (.cells #[.string s, .int .i64 i, .int .i64 o, bad, .int .i64 z] 54 (0, 0)) := h
  simp [World.frozen?, h0]
theorem RrAt.lt {w : World} {R i : Nat} {o : Int} {s : ByteArray} {bad : Value} {z : Int} (h : RrAt w R s i o bad z) : R < w.heap.size := (Array.getElem?_eq_some_iff.1 h).1
theorem RrAt.kept {w w' : World} {R i : Nat} {o : Int} {s : ByteArray} {bad : Value} {z : Int} (h : RrAt w R s i o bad z) (hg : w.grownBy w' none) : RrAt w' R s i o bad z := (hg.block R h.lt (by simp)).trans h
theorem RrAt.set1 {w : World} {R i : Nat} {o : Int} {s : ByteArray} {bad : Value} {z : Int} (h : RrAt w R s i o bad z) (j : Nat) : RrAt (w.setCell ⟨R, 1, none⟩ (.int .i64 j)) R s j o bad z := by
  have h0 : w.heap[R]? = some (.cells #[.string s, .int .i64 i, .int .i64 o, bad, .int .i64 z] 54 (0, 0)) := h
  show (w.setCell ⟨R, 1, none⟩ (.int .i64 j)).heap[R]? = _
  simp [World.setCell, Array.getElem?_modify, h0]
theorem RrAt.set2 {w : World} {R i : Nat} {o : Int} {s : ByteArray} {bad : Value} {z : Int} (h : RrAt w R s i o bad z) (j : Int) : RrAt (w.setCell ⟨R, 2, none⟩ (.int .i64 j)) R s i j bad z := by
  have h0 : w.heap[R]? = some (.cells #[.string s, .int .i64 i, .int .i64 o, bad, .int .i64 z] 54 (0, 0)) := h
  show (w.setCell ⟨R, 2, none⟩ (.int .i64 j)).heap[R]? = _
  simp [World.setCell, Array.getElem?_modify, h0]
theorem RrAt.set34 {w : World} {R i : Nat} {o : Int} {s : ByteArray} {bad : Value} {z : Int} (h : RrAt w R s i o bad z) (e : Value) (y : Int) : RrAt ((w.setCell ⟨R, 3, none⟩ e).setCell ⟨R, 4, none⟩ (.int .i64 y)) R s i o e y := by
  have h0 : w.heap[R]? = some (.cells #[.string s, .int .i64 i, .int .i64 o, bad, .int .i64 z] 54 (0, 0)) := h
  show ((w.setCell ⟨R, 3, none⟩ e).setCell ⟨R, 4, none⟩ (.int .i64 y)).heap[R]? = _
  simp [World.setCell, Array.getElem?_modify, h0]

/-- nothing is wrong so far -/
structure SR (W0 w : World) (R : Nat) (s : ByteArray) (i o : Nat) : Prop where
  env : Env W0 w
  at_ : ∃ z, RrAt w R s i o .nilIface z
  r16 : 16 ≤ R
  text : s.size ≤ 1000000
  inn : i ≤ s.size
/-- something is wrong -/
structure BR (W0 w : World) (R : Nat) (s : ByteArray) : Prop where
  env : Env W0 w
  at_ : ∃ (i : Nat) (o : Int) (te : TypeId) (pe : Value) (z : Int), i ≤ s.size ∧ True ∧ RrAt w R s i o (.iface te pe) z
  r16 : 16 ≤ R
  text : s.size ≤ 1000000
theorem SR.step {W0 w w' : World} {R : Nat} {s : ByteArray} {i o j o' : Nat} {z : Int} (h : SR W0 w R s i o) (hg : w.grownBy w' (some R)) (hj : j ≤ s.size) (ha : RrAt w' R s j o' .nilIface z) : SR W0 w' R s j o' := ⟨h.env.grown hg h.r16, ⟨z, ha⟩, h.r16, h.text, hj⟩
theorem SR.lt {W0 w : World} {R : Nat} {s : ByteArray} {i o : Nat} (h : SR W0 w R s i o) : R < w.heap.size := by obtain ⟨z, hz⟩ := h.at_; exact hz.lt
theorem BR.lt {W0 w : World} {R : Nat} {s : ByteArray} (h : BR W0 w R s) : R < w.heap.size := by obtain ⟨i, o, te, pe, z, _, _, hz⟩ := h.at_; exact hz.lt
theorem SR.kept {W0 w w' : World} {R : Nat} {s : ByteArray} {i o : Nat} (h : SR W0 w R s i o) (hg : w.grownBy w' none) : SR W0 w' R s i o := by
  obtain ⟨z, hz⟩ := h.at_
  exact h.step (z := z) ⟨hg.os, hg.tape, hg.output, hg.size, fun k hk _ => hg.block k hk (by simp)⟩ h.inn (hz.kept hg)
theorem BR.kept {W0 w w' : World} {R : Nat} {s : ByteArray} (h : BR W0 w R s) (hg : w.grownBy w' none) : BR W0 w' R s := by
  obtain ⟨i, o, te, pe, z, h1, h2, hz⟩ := h.at_
  have hg' : w.grownBy w' (some R) := ⟨hg.os, hg.tape, hg.output, hg.size, fun k hk _ => hg.block k hk (by simp)⟩
  exact ⟨h.env.grown hg' h.r16, ⟨i, o, te, pe, z, h1, h2, hz.kept hg⟩, h.r16, h.text⟩

set_option maxHeartbeats 1000000 in
theorem fail_first {W0 w : World} {R i o : Nat} {s : ByteArray} (h : SR W0 w R s i o) (ho : o ≤ 1000) (te : TypeId) (pe : Value) (y : Int) :
    Calls Tryz.prog 22 #[.pointer (some ⟨R, 0, none⟩), .iface te pe, .int .i64 y] w fun e w' => e = .returned (.tuple #[]) ∧ w.grownBy w' (some R) ∧ BR W0 w' R s := by
  have HS : Hid (SR W0 w R s i o) := h
  obtain ⟨z, hz⟩ := h.at_
  obtain ⟨_, _, _, c3, c4⟩ := hz.cells
  have f3 := hz.frozen 3
  have f4 := hz.frozen 4
  have HZ : Hid (RrAt w R s i o .nilIface z) := hz
  clear h hz
  go_enter Tryz.func22, Tryz.ntmps22
  go_wp2
  go_end0
  have hg2 : w.grownBy ((w.setCell ⟨R, 3, none⟩ (.iface te pe)).setCell ⟨R, 4, none⟩ (.int .i64 y)) (some R) := Lib.grownBy_setB (Lib.grownBy_setCell w R 3 _) 4 _
  exact ⟨rfl, hg2, HS.out.env.grown hg2 HS.out.r16, ⟨i, o, te, pe, y, HS.out.inn, trivial, HZ.out.set34 _ _⟩, HS.out.r16, HS.out.text⟩

set_option maxHeartbeats 1000000 in
theorem fail_more {W0 w : World} {R : Nat} {s : ByteArray} (h : BR W0 w R s) (te : TypeId) (pe : Value) (y : Int) :
    Calls Tryz.prog 22 #[.pointer (some ⟨R, 0, none⟩), .iface te pe, .int .i64 y] w fun e w' => e = .returned (.tuple #[]) ∧ w' = w := by
  obtain ⟨i, o, te', pe', z, _, _, hz⟩ := h.at_
  obtain ⟨_, _, _, c3, c4⟩ := hz.cells
  clear h hz
  go_enter Tryz.func22, Tryz.ntmps22
  go_wp2
  go_end0
  exact ⟨rfl, rfl⟩

end Go.Proofs.YtbjohedenfindaaGreatDoor

namespace Go.Proofs.YtbjohedenfindaaGreatDoor
open Go.RowKit
set_option linter.unusedVariables false
set_option maxRecDepth 100000

set_option maxHeartbeats 2000000 in
theorem now_bad {W0 w : World} {R : Nat} {s : ByteArray} (h : BR W0 w R s) :
    Calls Tryz.prog 74 #[.pointer (some ⟨R, 0, none⟩)] w fun e w' => e = .returned (.int .i64 (-1)) ∧ ∃ n, w' = w.drewN n := by
  obtain ⟨i, o, te', pe', z, _, _, hz⟩ := h.at_
  obtain ⟨c0, c1, _, c3, _⟩ := hz.cells
  clear h hz
  go_enter Tryz.func74, Tryz.ntmps74
  go_wp2
  go_quiet (fail)
  go_wp2
  go_ret
  exact ⟨rfl, _, rfl⟩

set_option maxHeartbeats 2000000 in
theorem now_end {W0 w : World} {R o : Nat} {s : ByteArray} (h : SR W0 w R s s.size o) :
    Calls Tryz.prog 74 #[.pointer (some ⟨R, 0, none⟩)] w fun e w' => e = .returned (.int .i64 (-1)) ∧ ∃ n, w' = w.drewN n := by
  obtain ⟨z, hz⟩ := h.at_
  obtain ⟨c0, c1, _, c3, _⟩ := hz.cells
  clear h hz
  go_enter Tryz.func74, Tryz.ntmps74
  go_wp2
  go_quiet (fail)
  go_wp2
  go_ret
  exact ⟨rfl, _, rfl⟩

set_option maxHeartbeats 2000000 in
theorem now_in {W0 w : World} {R i o : Nat} {s : ByteArray} (h : SR W0 w R s i o) (hc : 0 ≤ cpAt s i) :
    Calls Tryz.prog 74 #[.pointer (some ⟨R, 0, none⟩)] w fun e w' => e = .returned (.int .i64 (cpAt s i)) ∧ ∃ n, w' = w.drewN n := by
  obtain ⟨z, hz⟩ := h.at_
  obtain ⟨c0, c1, _, c3, _⟩ := hz.cells
  obtain ⟨hlt, e1, _⟩ := cp_in hc
  have hs := h.text
  have hok : okAt s i = true := by
    cases hb : okAt s i with
    | true => rfl
    | false =>
      exfalso
      simp [okAt] at hb
      unfold cpAt at hc
      rw [if_pos hlt, if_pos hb] at hc
      omega
  have HP : Hid (∀ w, Calls Tryz.prog 62 #[.string s, .int .i64 i] w fun e w' => e = .returned (.tuple #[.int .i64 (cpAt s i), .int .i64 (Utf8.decode s i).2, .bool true]) ∧ w' = w) := fun w => by
    have := point_any s i w (by omega) hlt
    rw [hok, ← e1] at this
    exact this
  generalize cpAt s i = c at *
  generalize (Utf8.decode s i).2 = d at *
  have hge : ¬ (s.size : Int) ≤ (i : Int) := by omega
  have hge2 : decide ((s.size : Int) ≤ (i : Int)) = false := by simp; omega
  clear h hz hok e1
  go_enter Tryz.func74, Tryz.ntmps74
  go_wp2
  go_quiet (fail)
  go_wp2
  go_region_with (go_at_call 62; refine (HP.out _).mono ?_; rintro e w' ⟨rfl, rfl⟩)
  all_goals
    go_wp2
    go_ret
    exact ⟨rfl, _, rfl⟩

set_option maxHeartbeats 2000000 in
theorem now_broken {W0 w : World} (L : LibC W0) {R i o : Nat} {s : ByteArray} (h : SR W0 w R s i o) (ho : o ≤ 1000) (hc : cpAt s i = -2) :
    Calls Tryz.prog 74 #[.pointer (some ⟨R, 0, none⟩)] w fun e w' => e = .returned (.int .i64 (-1)) ∧ w.grownBy w' (some R) ∧ BR W0 w' R s := by
  obtain ⟨z, hz⟩ := h.at_
  obtain ⟨c0, c1, _, c3, _⟩ := hz.cells
  have HS : Hid (SR W0 w R s i o) := h
  obtain ⟨te, pe, cs⟩ : ∃ te pe, w.cell? ⟨0, 0, none⟩ = some (.iface te pe) := by
    obtain ⟨te, pe, e⟩ := L.syn
    exact ⟨te, pe, (World.cell?_of_block (a := ⟨0, 0, none⟩) (h.env.2 0 (by omega))).trans e⟩
  have hs := h.text
  have hlt : i < s.size := by
    unfold cpAt at hc
    split at hc
    · assumption
    · omega
  have hok : okAt s i = false := by
    unfold cpAt at hc
    rw [if_pos hlt] at hc
    split at hc
    · rename_i h2; simp [okAt, h2]
    · omega
  have HP : Hid (∀ w, Calls Tryz.prog 62 #[.string s, .int .i64 i] w fun e w' => e = .returned (.tuple #[.int .i64 (Utf8.decode s i).1, .int .i64 (Utf8.decode s i).2, .bool false]) ∧ w' = w) := fun w => by
    have := point_any s i w (by omega) hlt
    rw [hok] at this
    exact this
  generalize (Utf8.decode s i).1 = d1 at *
  generalize (Utf8.decode s i).2 = d at *
  have hge : ¬ (s.size : Int) ≤ (i : Int) := by omega
  have hge2 : decide ((s.size : Int) ≤ (i : Int)) = false := by simp; omega
  have HF : Hid (∀ n, Calls Tryz.prog 22 #[.pointer (some ⟨R, 0, none⟩), .iface te pe, .int .i64 i] (w.drewN n) fun e w' => e = .returned (.tuple #[]) ∧ (w.drewN n).grownBy w' (some R) ∧ BR W0 w' R s) := fun n => fail_first (HS.out.kept (w' := w.drewN n) ⟨rfl, rfl, rfl, Nat.le_refl _, fun _ _ _ => rfl⟩) ho te pe i
  clear h hz hok hc
  go_enter Tryz.func74, Tryz.ntmps74
  go_wp2
  go_quiet (fail)
  go_wp2
  go_region_with (go_at_call 62; refine (HP.out _).mono ?_; rintro e w' ⟨rfl, rfl⟩)
  all_goals
    go_wp2
    go_region_with (go_at_call 22; refine (HF.out _).mono ?_; rintro e w' ⟨rfl, hg, hB⟩)
    all_goals
      go_wp2
      go_ret
      exact ⟨rfl, grownBy_undrew hg, hB⟩

set_option maxHeartbeats 2000000 in
theorem skip_in {W0 w : World} {R i o : Nat} {s : ByteArray} (h : SR W0 w R s i o) (hlt : i < s.size) :
    Calls Tryz.prog 75 #[.pointer (some ⟨R, 0, none⟩)] w fun e w' => e = .returned (.tuple #[]) ∧ w.grownBy w' (some R) ∧ SR W0 w' R s (i + szAt s i) o := by
  obtain ⟨z, hz⟩ := h.at_
  obtain ⟨c0, c1, _, c3, _⟩ := hz.cells
  have f1 := hz.frozen 1
  have HS : Hid (SR W0 w R s i o) := h
  have HZ : Hid (RrAt w R s i o .nilIface z) := hz
  have hs := h.text
  have hsz := sz_le s i h.inn
  have e1 : szAt s i = (Utf8.decode s i).2 := by unfold szAt; rw [if_pos hlt]
  have HP : Hid (∀ w, Calls Tryz.prog 62 #[.string s, .int .i64 i] w fun e w' => e = .returned (.tuple #[.int .i64 (Utf8.decode s i).1, .int .i64 (szAt s i), .bool (okAt s i)]) ∧ w' = w) := fun w => by
    have := point_any s i w (by omega) hlt
    rw [← e1] at this
    exact this
  generalize (Utf8.decode s i).1 = d1 at *
  generalize szAt s i = d at *
  generalize okAt s i = ok at *
  clear h hz e1
  go_enter Tryz.func75, Tryz.ntmps75
  go_wp2
  go_region_with (go_at_call 62; refine (HP.out _).mono ?_; rintro e w' ⟨rfl, rfl⟩)
  all_goals
    go_wp2
    go_end0
    have hgz : w.grownBy (w.setCell ⟨R, 1, none⟩ (.int .i64 ((i : Int) + d))) (some R) := Lib.grownBy_setCell w R 1 _
    have hS := HS.out.step hgz hsz (by simpa using HZ.out.set1 (i + d))
    exact ⟨rfl, ⟨hgz.os, hgz.tape, hgz.output, hgz.size, hgz.block⟩, ⟨hS.env, hS.at_, hS.r16, hS.text, hS.inn⟩⟩

end Go.Proofs.YtbjohedenfindaaGreatDoor

namespace Go.Proofs.YtbjohedenfindaaGreatDoor
open Go.RowKit
set_option linter.unusedVariables false
set_option maxRecDepth 100000

theorem grown_drewN (w : World) (n : Nat) (row : Option Nat) : w.grownBy (w.drewN n) row := ⟨rfl, rfl, rfl, Nat.le_refl _, fun _ _ _ => rfl⟩

/-- now, whatever comes -/
theorem now_any {W0 w : World} (L : LibC W0) {R i o : Nat} {s : ByteArray} (h : SR W0 w R s i o) (ho : o ≤ 1000) :
    Calls Tryz.prog 74 #[.pointer (some ⟨R, 0, none⟩)] w fun e w' => w.grownBy w' (some R) ∧ ((cpAt s i ≠ -2 ∧ e = .returned (.int .i64 (cpAt s i)) ∧ SR W0 w' R s i o) ∨ (cpAt s i = -2 ∧ e = .returned (.int .i64 (-1)) ∧ BR W0 w' R s)) := by
  by_cases h0 : 0 ≤ cpAt s i
  · refine (now_in h h0).mono ?_
    rintro e w' ⟨rfl, n, rfl⟩
    exact ⟨grown_drewN _ _ _, Or.inl ⟨by omega, rfl, h.kept (grown_drewN _ _ _)⟩⟩
  · by_cases h2 : cpAt s i = -2
    · refine (now_broken L h ho h2).mono ?_
      rintro e w' ⟨rfl, hg, hB⟩
      exact ⟨hg, Or.inr ⟨h2, rfl, hB⟩⟩
    · have h1 : i = s.size := by
        have := h.inn
        rcases Nat.lt_or_ge i s.size with hlt | hge
        · exfalso
          unfold cpAt at h0 h2
          rw [if_pos hlt] at h0 h2
          split at h2
          · exact h2 rfl
          · rename_i hn
            rw [if_neg hn] at h0
            omega
        · omega
      subst h1
      have e1 : cpAt s s.size = -1 := by simp [cpAt]
      refine (now_end h).mono ?_
      rintro e w' ⟨rfl, n, rfl⟩
      exact ⟨grown_drewN _ _ _, Or.inl ⟨by omega, by rw [e1], h.kept (grown_drewN _ _ _)⟩⟩

set_option maxHeartbeats 1000000 in
theorem eat_bad {W0 w : World} {R : Nat} {s : ByteArray} (h : BR W0 w R s) (c : Int) (hc : 0 ≤ c) :
    Calls Tryz.prog 45 #[.pointer (some ⟨R, 0, none⟩), .int .i64 c] w fun e w' => e = .returned (.bool false) ∧ ∃ n, w' = w.drewN n := by
  have HN : Hid (Calls Tryz.prog 74 #[.pointer (some ⟨R, 0, none⟩)] w fun e w' => e = .returned (.int .i64 (-1)) ∧ ∃ n, w' = w.drewN n) := now_bad h
  have hq : ((-1 : Int) != c) = true := by rw [bne_iff_ne]; omega
  clear h
  go_enter Tryz.func45, Tryz.ntmps45
  go_wp2_with fail
  refine HN.out.mono ?_
  rintro e w1 ⟨rfl, n, rfl⟩
  go_wp2
  go_ret
  exact ⟨rfl, n, rfl⟩

set_option maxHeartbeats 1000000 in
theorem eat_yes {W0 w : World} (L : LibC W0) {R i o : Nat} {s : ByteArray} (h : SR W0 w R s i o) (c : Int) (hc : 0 ≤ c) (he : cpAt s i = c) :
    Calls Tryz.prog 45 #[.pointer (some ⟨R, 0, none⟩), .int .i64 c] w fun e w' => e = .returned (.bool true) ∧ w.grownBy w' (some R) ∧ SR W0 w' R s (i + szAt s i) o := by
  have hlt := (cp_in (s := s) (i := i) (by omega)).1
  have hn := now_in h (by omega)
  rw [he] at hn
  have HN : Hid (Calls Tryz.prog 74 #[.pointer (some ⟨R, 0, none⟩)] w fun e w' => e = .returned (.int .i64 c) ∧ ∃ n, w' = w.drewN n) := hn
  have HS : Hid (SR W0 w R s i o) := h
  have hq : (c != c) = false := by simp
  clear h hn he
  go_enter Tryz.func45, Tryz.ntmps45
  go_wp2_with fail
  refine HN.out.mono ?_
  rintro e w1 ⟨rfl, n, rfl⟩
  have hS1 := HS.out.kept (grown_drewN w n none)
  go_wp2_with fail
  refine (skip_in hS1 hlt).mono ?_
  rintro e w2 ⟨rfl, hg, hS2⟩
  go_wp2
  go_ret
  exact ⟨rfl, grownBy_undrew hg, hS2⟩

set_option maxHeartbeats 1000000 in
theorem eat_no {W0 w : World} (L : LibC W0) {R i o : Nat} {s : ByteArray} (h : SR W0 w R s i o) (ho : o ≤ 1000) (c : Int) (hc : 0 ≤ c) (he : cpAt s i ≠ c) :
    Calls Tryz.prog 45 #[.pointer (some ⟨R, 0, none⟩), .int .i64 c] w fun e w' => e = .returned (.bool false) ∧ w.grownBy w' (some R) ∧ ((cpAt s i ≠ -2 ∧ SR W0 w' R s i o) ∨ (cpAt s i = -2 ∧ BR W0 w' R s)) := by
  have HN : Hid (Calls Tryz.prog 74 #[.pointer (some ⟨R, 0, none⟩)] w fun e w' => w.grownBy w' (some R) ∧ ((cpAt s i ≠ -2 ∧ e = .returned (.int .i64 (cpAt s i)) ∧ SR W0 w' R s i o) ∨ (cpAt s i = -2 ∧ e = .returned (.int .i64 (-1)) ∧ BR W0 w' R s))) := now_any L h ho
  generalize cpAt s i = x at *
  have hq1 : (x != c) = true := by rw [bne_iff_ne]; exact he
  have hq2 : ((-1 : Int) != c) = true := by rw [bne_iff_ne]; omega
  clear h he
  go_enter Tryz.func45, Tryz.ntmps45
  go_wp2_with fail
  refine HN.out.mono ?_
  rintro e w1 ⟨hg, ⟨h1, rfl, hS⟩ | ⟨h1, rfl, hB⟩⟩
  · go_wp2
    go_ret
    exact ⟨rfl, hg, Or.inl ⟨h1, hS⟩⟩
  · have H1 : Hid (x = -2) := h1
    clear h1
    go_wp2
    go_ret
    exact ⟨rfl, hg, Or.inr ⟨H1.out, hB⟩⟩

end Go.Proofs.YtbjohedenfindaaGreatDoor

namespace Go.Proofs.YtbjohedenfindaaGreatDoor
open Go.RowKit
set_option linter.unusedVariables false
set_option maxRecDepth 100000

theorem env_syn {W0 w : World} (L : LibC W0) (h : Env W0 w) : ∃ te pe, w.cell? ⟨0, 0, none⟩ = some (.iface te pe) := by
  obtain ⟨te, pe, e⟩ := L.syn
  exact ⟨te, pe, (World.cell?_of_block (a := ⟨0, 0, none⟩) (h.2 0 (by omega))).trans e⟩
/-- failing at the place, whatever the state -/
theorem fail_here {W0 w w1 : World} (L : LibC W0) {R i o : Nat} {s : ByteArray} (hg : w.grownBy w1 (some R)) (h : (SR W0 w1 R s i o ∧ o ≤ 1000) ∨ BR W0 w1 R s) : ∃ te pe, ∃ i1 : Nat, w1.cell? ⟨0, 0, none⟩ = some (.iface te pe) ∧ w1.cell? ⟨R, 1, none⟩ = some (.int .i64 (i1 : Int)) ∧
    ∀ n, Calls Tryz.prog 22 #[.pointer (some ⟨R, 0, none⟩), .iface te pe, .int .i64 i1] (w1.drewN n) fun e w' => e = .returned (.tuple #[]) ∧ w.grownBy w' (some R) ∧ BR W0 w' R s := by
  rcases h with ⟨h, ho⟩ | h
  · obtain ⟨te, pe, cs⟩ := env_syn L h.env
    obtain ⟨z, hz⟩ := h.at_
    refine ⟨te, pe, i, cs, hz.cells.2.1, fun n => (fail_first (h.kept (grown_drewN w1 n none)) ho te pe i).mono ?_⟩
    rintro e w' ⟨h1, h2, h3⟩
    exact ⟨h1, Lib.grownBy_trans hg (Lib.grownBy_trans (grown_drewN w1 n (some R)) h2), h3⟩
  · obtain ⟨te, pe, cs⟩ := env_syn L h.env
    obtain ⟨i1, o1, te', pe', z, _, _, hz⟩ := h.at_
    refine ⟨te, pe, i1, cs, hz.cells.2.1, fun n => (fail_more (h.kept (grown_drewN w1 n none)) te pe i1).mono ?_⟩
    rintro e w' ⟨h1, rfl⟩
    exact ⟨h1, Lib.grownBy_trans hg (grown_drewN w1 n (some R)), h.kept (grown_drewN w1 n none)⟩

set_option maxHeartbeats 2000000 in
theorem need_false {W0 w : World} {R : Nat} {s : ByteArray} {c : Int} {P : World → Prop} (HE : Hid (Calls Tryz.prog 45 #[.pointer (some ⟨R, 0, none⟩), .int .i64 c] w fun e w' => e = .returned (.bool false) ∧ P w'))
    (HX : Hid (∀ w1, P w1 → ∃ te pe, ∃ i1 : Nat, w1.cell? ⟨0, 0, none⟩ = some (.iface te pe) ∧ w1.cell? ⟨R, 1, none⟩ = some (.int .i64 (i1 : Int)) ∧ ∀ n, Calls Tryz.prog 22 #[.pointer (some ⟨R, 0, none⟩), .iface te pe, .int .i64 i1] (w1.drewN n) fun e w' => e = .returned (.tuple #[]) ∧ w.grownBy w' (some R) ∧ BR W0 w' R s)) :
    Calls Tryz.prog 142 #[.pointer (some ⟨R, 0, none⟩), .int .i64 c] w fun e w' => e = .returned (.tuple #[]) ∧ w.grownBy w' (some R) ∧ BR W0 w' R s := by
  go_enter Tryz.func142, Tryz.ntmps142
  go_wp2_with fail
  refine HE.out.mono ?_
  rintro e w1 ⟨rfl, hw1⟩
  obtain ⟨te, pe, i1, cs, c1, hF⟩ := HX.out w1 hw1
  have HF1 : Hid (Calls Tryz.prog 22 #[.pointer (some ⟨R, 0, none⟩), .iface te pe, .int .i64 i1] w1.drew fun e w' => e = .returned (.tuple #[]) ∧ w.grownBy w' (some R) ∧ BR W0 w' R s) := hF 1
  clear hF HX hw1
  go_wp2
  go_region_with (go_at_call 22; refine HF1.out.mono ?_; rintro e w4 ⟨rfl, hg4, hB4⟩)
  all_goals
    go_wp2
    go_end0
    exact ⟨rfl, hg4, hB4⟩
set_option maxHeartbeats 1000000 in
theorem need_true {w : World} {R : Nat} {c : Int} {P : World → Prop} (HE : Hid (Calls Tryz.prog 45 #[.pointer (some ⟨R, 0, none⟩), .int .i64 c] w fun e w' => e = .returned (.bool true) ∧ P w')) :
    Calls Tryz.prog 142 #[.pointer (some ⟨R, 0, none⟩), .int .i64 c] w fun e w' => e = .returned (.tuple #[]) ∧ P w' := by
  go_enter Tryz.func142, Tryz.ntmps142
  go_wp2_with fail
  refine HE.out.mono ?_
  rintro e w1 ⟨rfl, hw1⟩
  go_wp2
  go_end0
  exact ⟨rfl, hw1⟩
theorem need_any {W0 w : World} (L : LibC W0) {R i o : Nat} {s : ByteArray} (h : SR W0 w R s i o) (ho : o ≤ 1000) (c : Int) (hc : 0 ≤ c) :
    Calls Tryz.prog 142 #[.pointer (some ⟨R, 0, none⟩), .int .i64 c] w fun e w' => e = .returned (.tuple #[]) ∧ w.grownBy w' (some R) ∧ (BR W0 w' R s ∨ (cpAt s i = c ∧ SR W0 w' R s (i + szAt s i) o)) := by
  by_cases he : cpAt s i = c
  · exact (need_true (P := fun w' => w.grownBy w' (some R) ∧ SR W0 w' R s (i + szAt s i) o) (eat_yes L h c hc he)).mono fun e w' ⟨h1, h2, h3⟩ => ⟨h1, h2, .inr ⟨he, h3⟩⟩
  · refine (need_false (W0 := W0) (s := s) (P := fun w' => w.grownBy w' (some R) ∧ ((cpAt s i ≠ -2 ∧ SR W0 w' R s i o) ∨ (cpAt s i = -2 ∧ BR W0 w' R s))) (eat_no L h ho c hc he) ?_).mono fun e w' ⟨h1, h2, h3⟩ => ⟨h1, h2, .inl h3⟩
    rintro w1 ⟨hg, h1⟩
    exact fail_here (i := i) (o := o) L hg (h1.elim (fun h => .inl ⟨h.2, ho⟩) fun h => .inr h.2)
theorem need_bad {W0 w : World} (L : LibC W0) {R : Nat} {s : ByteArray} (h : BR W0 w R s) (c : Int) (hc : 0 ≤ c) :
    Calls Tryz.prog 142 #[.pointer (some ⟨R, 0, none⟩), .int .i64 c] w fun e w' => e = .returned (.tuple #[]) ∧ w.grownBy w' (some R) ∧ BR W0 w' R s := by
  refine need_false (P := fun w' => ∃ n, w' = w.drewN n) (eat_bad h c hc) ?_
  rintro w1 ⟨n, rfl⟩
  exact fail_here (i := 0) (o := 0) L (grown_drewN w n (some R)) (.inr (h.kept (grown_drewN w n none)))
end Go.Proofs.YtbjohedenfindaaGreatDoor

namespace Go.Proofs.YtbjohedenfindaaGreatDoor
open Go.RowKit
set_option linter.unusedVariables false
set_option maxRecDepth 100000

/-- a list of ranges in memory, in a block of those that ok says -/
def RowR (ok : Nat → Prop) (w : World) (v : Value) (l : List Rg) : Prop :=
  (l = [] ∧ ∃ a c, v = .slice a 0 c) ∨ ∃ b off c, v = .slice (some ⟨b, off, none⟩) l.length c ∧ b < w.heap.size ∧ ok b ∧ ∀ j, j < l.length → w.cell? ⟨b, off + j * 2, none⟩ = some (.int .i64 (l.getD j (0, 0)).1) ∧ w.cell? ⟨b, off + j * 2 + 1, none⟩ = some (.int .i64 (l.getD j (0, 0)).2)
def KidsR (P : Value → Option Re → Prop) (ok : Nat → Prop) (w : World) (v : Value) (l : List (Option Re)) : Prop :=
  (l = [] ∧ ∃ a c, v = .slice a 0 c) ∨ ∃ g off c, v = .slice (some ⟨g, off, none⟩) l.length c ∧ g < w.heap.size ∧ ok g ∧ ∀ j, j < l.length → ∃ u, w.cell? ⟨g, off + j, none⟩ = some u ∧ P u (l.getD j none)
/-- a pattern in memory, all of it in blocks that ok says -/
def IsRe (ok : Nat → Prop) : Nat → World → Value → Re → Prop
  | 0, _, _, _ => False
  | n + 1, w, v, t => ∃ b sv kv, v = .pointer (some ⟨b, 0, none⟩) ∧ ok b ∧ w.heap[b]? = some (.cells #[.int .i64 t.kind, sv, .int .i64 t.mn, .int .i64 t.mx, kv] 48 (0, 0)) ∧ RowR ok w sv t.set ∧
    KidsR (fun u o => match o with | none => u = .pointer none | some k => IsRe ok n w u k) ok w kv t.kids
def Tree (ok : Nat → Prop) (w : World) (v : Value) (t : Re) : Prop := ∃ n, IsRe ok n w v t

theorem RowR.rngs {ok : Nat → Prop} {w : World} {v : Value} {l : List Rg} (h : RowR ok w v l) : Rngs w v l := by
  rcases h with h | ⟨b, off, c, h1, h2, _, h3⟩
  · exact Or.inl h
  · exact Or.inr ⟨b, off, c, h1, h2, h3⟩
theorem RowR.moved {ok ok' : Nat → Prop} {w w' : World} {v : Value} {l : List Rg} (h : RowR ok w v l) (hs : w.heap.size ≤ w'.heap.size) (hk : ∀ b, b < w.heap.size → ok b → ok' b ∧ w'.heap[b]? = w.heap[b]?) : RowR ok' w' v l := by
  rcases h with h | ⟨b, off, c, h1, h2, h3, h4⟩
  · exact Or.inl h
  · obtain ⟨e0, e⟩ := hk b h2 h3
    exact Or.inr ⟨b, off, c, h1, Nat.lt_of_lt_of_le h2 hs, e0, fun j hj => ⟨(World.cell?_of_block (a := ⟨b, off + j * 2, none⟩) e).trans (h4 j hj).1, (World.cell?_of_block (a := ⟨b, off + j * 2 + 1, none⟩) e).trans (h4 j hj).2⟩⟩
theorem RowR.of_own {w : World} {B : Nat} {v : Value} {l : List Rg} (h : OwnR w B v l) : RowR (fun b => B ≤ b) w v l := by
  have hr := h.rngs
  rcases hr with hr | ⟨b, off, c, h1, h2, h4⟩
  · exact Or.inl hr
  · refine Or.inr ⟨b, off, c, h1, h2, ?_, h4⟩
    rcases h.2 with ⟨rfl, h0⟩ | ⟨g, cap, cur, rfl, hB, _⟩
    · cases h1
    · cases h1; exact hB
theorem KidsR.moved {P Q : Value → Option Re → Prop} {ok ok' : Nat → Prop} {w w' : World} {v : Value} {l : List (Option Re)} (h : KidsR P ok w v l) (hs : w.heap.size ≤ w'.heap.size) (hk : ∀ g, g < w.heap.size → ok g → ok' g ∧ w'.heap[g]? = w.heap[g]?) (hP : ∀ u o, o ∈ l → P u o → Q u o) : KidsR Q ok' w' v l := by
  rcases h with h | ⟨b, off, c, h1, h2, h3, h4⟩
  · exact Or.inl h
  · obtain ⟨e1, e2⟩ := hk b h2 h3
    refine Or.inr ⟨b, off, c, h1, Nat.lt_of_lt_of_le h2 hs, e1, fun j hj => ?_⟩
    obtain ⟨u, hu, hp⟩ := h4 j hj
    refine ⟨u, (World.cell?_of_block (a := ⟨b, off + j, none⟩) e2).trans hu, hP u _ ?_ hp⟩
    rw [List.getD_eq_getElem?_getD, List.getElem?_eq_getElem hj]
    exact List.getElem_mem hj
theorem IsRe.moved {ok ok' : Nat → Prop} {w w' : World} (hs : w.heap.size ≤ w'.heap.size) (hk : ∀ b, b < w.heap.size → ok b → ok' b ∧ w'.heap[b]? = w.heap[b]?) : ∀ (n : Nat) {v : Value} {t : Re}, IsRe ok n w v t → IsRe ok' n w' v t
  | 0, _, _, h => h.elim
  | n + 1, v, t, ⟨b, sv, kv, h1, h2, h3, h4, h5⟩ => by
    have hb := hk b (Array.getElem?_eq_some_iff.1 h3).1 h2
    refine ⟨b, sv, kv, h1, hb.1, hb.2.trans h3, h4.moved hs hk, h5.moved hs hk fun u o _ hp => ?_⟩
    cases o with
    | none => exact hp
    | some k => exact IsRe.moved hs hk n hp
theorem IsRe.more {ok : Nat → Prop} {w : World} : ∀ (n m : Nat), n ≤ m → ∀ {v : Value} {t : Re}, IsRe ok n w v t → IsRe ok m w v t
  | 0, _, _, _, _, h => h.elim
  | n + 1, 0, hm, _, _, _ => by omega
  | n + 1, m + 1, hm, v, t, ⟨b, sv, kv, h1, h2, h3, h4, h5⟩ => by
    refine ⟨b, sv, kv, h1, h2, h3, h4, h5.moved (Nat.le_refl _) (fun g hg1 hg2 => ⟨hg2, rfl⟩) fun u o _ hp => ?_⟩
    cases o with
    | none => exact hp
    | some k => exact IsRe.more n m (by omega) hp
theorem Tree.moved {ok ok' : Nat → Prop} {w w' : World} {v : Value} {t : Re} (h : Tree ok w v t) (hs : w.heap.size ≤ w'.heap.size) (hk : ∀ b, b < w.heap.size → ok b → ok' b ∧ w'.heap[b]? = w.heap[b]?) : Tree ok' w' v t := by
  obtain ⟨n, h⟩ := h; exact ⟨n, h.moved hs hk⟩
theorem Tree.grown {ok : Nat → Prop} {w w' : World} {row : Option Nat} {v : Value} {t : Re} (h : Tree ok w v t) (hg : w.grownBy w' row) (hr : ∀ b, ok b → some b ≠ row) : Tree ok w' v t :=
  h.moved hg.size fun b hb hok => ⟨hok, hg.block b hb (hr b hok)⟩
theorem Tree.imp {ok ok' : Nat → Prop} {w : World} {v : Value} {t : Re} (h : Tree ok w v t) (hk : ∀ b, b < w.heap.size → ok b → ok' b) : Tree ok' w v t :=
  h.moved (Nat.le_refl _) fun b hb hok => ⟨hk b hb hok, rfl⟩
theorem RowR.grown {ok : Nat → Prop} {w w' : World} {row : Option Nat} {v : Value} {l : List Rg} (h : RowR ok w v l) (hg : w.grownBy w' row) (hr : ∀ b, ok b → some b ≠ row) : RowR ok w' v l :=
  h.moved hg.size fun b hb hok => ⟨hok, hg.block b hb (hr b hok)⟩
theorem grownBy_none {w w' : World} (h : w.grownBy w' none) (row : Option Nat) : w.grownBy w' row := ⟨h.os, h.tape, h.output, h.size, fun k hk _ => h.block k hk (by simp)⟩
theorem Tree.ptr {ok : Nat → Prop} {w : World} {v : Value} {t : Re} (h : Tree ok w v t) : ∃ b, v = .pointer (some ⟨b, 0, none⟩) ∧ ok b := by
  obtain ⟨n, h⟩ := h
  cases n with
  | zero => exact h.elim
  | succ n => obtain ⟨b, _, _, h1, h2, _⟩ := h; exact ⟨b, h1, h2⟩

/-- pointers in a row of the reader's own -/
def PtrsOwn (w : World) (B : Nat) (v : Value) (l : List Re) : Prop := ∃ vs : List Value, vs.length = l.length ∧ w.ownsRow B 22 1 v vs.length vs ∧ ∀ j, j < l.length → ∃ t, l[j]? = some t ∧ Tree (fun b => B ≤ b ∧ v.ownBlock ≠ some b) w (vs.getD j .nilFunc) t

theorem fuel_all {ok : Nat → Prop} {w : World} : ∀ (l : List Re) (vs : List Value), vs.length = l.length → (∀ j, j < l.length → ∃ t, l[j]? = some t ∧ Tree ok w (vs.getD j .nilFunc) t) → ∃ n, ∀ j, j < l.length → ∃ t, l[j]? = some t ∧ IsRe ok n w (vs.getD j .nilFunc) t
  | [], _, _, _ => ⟨0, fun j hj => by simp at hj⟩
  | a :: l, [], h, _ => by simp at h
  | a :: l, v :: vs, h, hall => by
    obtain ⟨n, hn⟩ := fuel_all l vs (by simpa using h) (fun j hj => by
      have := hall (j + 1) (by simpa using hj)
      simpa using this)
    obtain ⟨t, ht, m, hm⟩ := hall 0 (by simp)
    refine ⟨max n m, fun j hj => ?_⟩
    cases j with
    | zero => exact ⟨t, ht, hm.more m _ (Nat.le_max_right _ _)⟩
    | succ j =>
      obtain ⟨t', h1, h2⟩ := hn j (by simpa using hj)
      exact ⟨t', by simpa using h1, by simpa using h2.more n _ (Nat.le_max_left _ _)⟩

/-- a node over kids that lie in a row of the reader's own -/
theorem tree_node {w : World} {B b : Nat} {kv sv : Value} {l : List Re} {kind mn mx : Int} {set : List Rg} (hb : w.heap[b]? = some (.cells #[.int .i64 kind, sv, .int .i64 mn, .int .i64 mx, kv] 48 (0, 0))) (hbB : B ≤ b) (hset : RowR (fun b => B ≤ b) w sv set) (hk : PtrsOwn w B kv l) :
    Tree (fun b => B ≤ b) w (.pointer (some ⟨b, 0, none⟩)) ⟨kind, set, mn, mx, l.map some⟩ := by
  obtain ⟨vs, hl, hown, hall⟩ := hk
  obtain ⟨n, hn⟩ := fuel_all (ok := fun b => B ≤ b) l vs hl (fun j hj => by
    obtain ⟨t, h1, h2⟩ := hall j hj
    exact ⟨t, h1, h2.imp fun b _ h => h.1⟩)
  refine ⟨n + 1, b, sv, kv, rfl, hbB, hb, hset, ?_⟩
  have hlt := hown.lt
  rcases hown.2 with ⟨rfl, h0⟩ | ⟨g, cap, cur, rfl, hB, _⟩
  · have : l = [] := List.eq_nil_of_length_eq_zero (by omega)
    subst this
    exact Or.inl ⟨rfl, _, _, rfl⟩
  · by_cases he : l = []
    · subst he
      have : vs.length = 0 := by simpa using hl
      exact Or.inl ⟨rfl, _, _, by rw [this]⟩
    · refine Or.inr ⟨g, 0, cap, by simp [hl], (hlt g rfl).2, hB, fun j hj => ?_⟩
      have hj' : j < l.length := by simpa using hj
      obtain ⟨t, h1, h2⟩ := hn j hj'
      refine ⟨vs.getD j .nilFunc, ?_, ?_⟩
      · have := hown.cellAt j (by omega)
        simp only [Nat.zero_add]
        rw [this]
        simp [hl, hj']
      · simp [h1]
        exact h2
/-- a pattern more behind -/
theorem PtrsOwn.snoc {w w4 : World} {B : Nat} {v v' p : Value} {l : List Re} {t : Re} {vs : List Value} {o : Obj} (hl : vs.length = l.length) (hall : ∀ j, j < l.length → ∃ t, l[j]? = some t ∧ Tree (fun b => B ≤ b ∧ v.ownBlock ≠ some b) w (vs.getD j .nilFunc) t) (hp : Tree (fun b => B ≤ b ∧ v.ownBlock ≠ some b) w p t)
    (hown : w4.ownsRow B 22 1 v' (vs.length + 1) (vs ++ [p])) (hg : (w.alloc o).grownBy w4 v.ownBlock) (hat : v'.ownBlock = v.ownBlock ∨ v'.ownBlock = some (w.alloc o).heap.size) : PtrsOwn w4 B v' (l ++ [t]) := by
  have hmv : ∀ {u : Value} {t : Re}, Tree (fun b => B ≤ b ∧ v.ownBlock ≠ some b) w u t → Tree (fun b => B ≤ b ∧ v'.ownBlock ≠ some b) w4 u t := fun h => by
    refine h.moved (Nat.le_trans (by simp) hg.size) fun b hb hok => ⟨⟨hok.1, ?_⟩, ?_⟩
    · rcases hat with h | h
      · rw [h]; exact hok.2
      · rw [h]; simp; omega
    · rw [hg.block b (by simp; omega) (fun e => hok.2 e.symm)]
      exact Below.heap_alloc w o b hb
  refine ⟨vs ++ [p], by simp [hl], by simpa using hown, fun j hj => ?_⟩
  by_cases hj2 : j < l.length
  · obtain ⟨t', h1, h2⟩ := hall j hj2
    refine ⟨t', by rw [List.getElem?_append_left hj2]; exact h1, ?_⟩
    have e : (vs ++ [p]).getD j .nilFunc = vs.getD j .nilFunc := by
      simp [List.getD_eq_getElem?_getD, List.getElem?_append_left (show j < vs.length by omega)]
    rw [e]
    exact hmv h2
  · have hj3 : j = l.length := by simp at hj; omega
    subst hj3
    refine ⟨t, by simp, ?_⟩
    have e : (vs ++ [p]).getD l.length .nilFunc = p := by rw [← hl]; simp
    rw [e]
    exact hmv hp
end Go.Proofs.YtbjohedenfindaaGreatDoor
