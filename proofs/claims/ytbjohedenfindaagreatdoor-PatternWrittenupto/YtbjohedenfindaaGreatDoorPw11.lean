/- Texts of the proof, put together: RRd, RRdB, RRdC, RNeed. -/
import Derived.Test.YtbjohedenfindaaGreatDoorPw09
import Derived.Test.YtbjohedenfindaaGreatDoorPw10
import Derived.RegionDies
import Derived.Deep.RegionWith
namespace Go.Proofs.YtbjohedenfindaaGreatDoor
open Go.RowKit
set_option linter.unusedVariables false
set_option maxRecDepth 100000

/-- the document's reader: its text, the place, how many are open, what is wrong, and where -/
def RrAt (w : World) (R : Nat) (s : ByteArray) (i : Nat) (o : Int) (bad : Value) (z : Int) : Prop := w.heap[R]? = some (.cells #[.string s, .int .i64 i, .int .i64 o, bad, .int .i64 z] 54 (0, 0))
theorem RrAt.cells {w : World} {R i : Nat} {o : Int} {s : ByteArray} {bad : Value} {z : Int} (h : RrAt w R s i o bad z) : w.cell? ⟨R, 0, none⟩ = some (.string s) ∧ w.cell? ⟨R, 1, none⟩ = some (.int .i64 i) ∧ w.cell? ⟨R, 2, none⟩ = some (.int .i64 o) ∧ w.cell? ⟨R, 3, none⟩ = some bad ∧ w.cell? ⟨R, 4, none⟩ = some (.int .i64 z) := by
  have h0 : w.heap[R]? = some (.cells #[.string s, .int .i64 i, .int .i64 o, bad, .int .i64 z] 54 (0, 0)) := h
  refine ⟨?_, ?_, ?_, ?_, ?_⟩ <;> simp [World.cell?, h0]
theorem RrAt.frozen {w : World} {R i : Nat} {o : Int} {s : ByteArray} {bad : Value} {z : Int} (h : RrAt w R s i o bad z) (k : Nat) : w.frozen? ⟨R, k, none⟩ = false := by
  have h0 : w.heap[R]? = some (.cells #[.string s, .int .i64 i, .int .i64 o, bad, .int .i64 z] 54 (0, 0)) := h
  simp [World.frozen?, h0]
theorem RrAt.lt {w : World} {R i : Nat} {o : Int} {s : ByteArray} {bad : Value} {z : Int} (h : RrAt w R s i o bad z) : R < w.heap.size := (Array.getElem?_eq_some_iff.1 h).1
theorem RrAt.kept {w w' : World} {R i : Nat} {o : Int} {s : ByteArray} {bad : Value} {z : Int} (h : RrAt w R s i o bad z) (hg : w.grownBy w' none) : RrAt w' R s i o bad z := (hg.block R h.lt (by simp)).trans h
theorem RrAt.set1 {w : World} {R i : Nat} {o : Int} {s : ByteArray} {bad : Value} {z : Int} (h : RrAt w R s i o bad z) (j : Nat) : RrAt (w.setCell ⟨R, 1, none⟩ (.int .i64 j)) R s j o bad z := by
  have h0 : w.heap[R]? = some (.cells #[.string s, .int .i64 i, .int .i64 o, bad, .int .i64 z] 54 (0, 0)) := h
  show (w.setCell ⟨R, 1, none⟩ (.int .i64 j)).heap[R]? = _
  simp [World.setCell, Array.getElem?_modify, h0]
theorem RrAt.set2 {w : World} {R i : Nat} {o : Int} {s : ByteArray} {bad : Value} {z : Int} (h : RrAt w R s i o bad z) (j : Int) : RrAt (w.setCell ⟨R, 2, none⟩ (.int .i64 j)) R s i j bad z := by
  have h0 : w.heap[R]? = some (.cells #[.string s, .int .i64 i, .int .i64 o, bad, .int .i64 z] 54 (0, 0)) := h
  show (w.setCell ⟨R, 2, none⟩ (.int .i64 j)).heap[R]? = _
  simp [World.setCell, Array.getElem?_modify, h0]
theorem RrAt.set34 {w : World} {R i : Nat} {o : Int} {s : ByteArray} {bad : Value} {z : Int} (h : RrAt w R s i o bad z) (e : Value) (y : Int) : RrAt ((w.setCell ⟨R, 3, none⟩ e).setCell ⟨R, 4, none⟩ (.int .i64 y)) R s i o e y := by
  have h0 : w.heap[R]? = some (.cells #[.string s, .int .i64 i, .int .i64 o, bad, .int .i64 z] 54 (0, 0)) := h
  show ((w.setCell ⟨R, 3, none⟩ e).setCell ⟨R, 4, none⟩ (.int .i64 y)).heap[R]? = _
  simp [World.setCell, Array.getElem?_modify, h0]

/-- nothing is wrong so far -/
structure SR (W0 w : World) (R : Nat) (s : ByteArray) (i o : Nat) : Prop where
  env : Env W0 w
  at_ : ∃ z, RrAt w R s i o .nilIface z
  r16 : 16 ≤ R
  text : s.size ≤ 1000000
  inn : i ≤ s.size
/-- something is wrong -/
structure BR (W0 w : World) (R : Nat) (s : ByteArray) : Prop where
  env : Env W0 w
  at_ : ∃ (i : Nat) (o : Int) (te : TypeId) (pe : Value) (z : Int), i ≤ s.size ∧ True ∧ RrAt w R s i o (.iface te pe) z
  r16 : 16 ≤ R
  text : s.size ≤ 1000000
theorem SR.step {W0 w w' : World} {R : Nat} {s : ByteArray} {i o j o' : Nat} {z : Int} (h : SR W0 w R s i o) (hg : w.grownBy w' (some R)) (hj : j ≤ s.size) (ha : RrAt w' R s j o' .nilIface z) : SR W0 w' R s j o' := ⟨h.env.grown hg h.r16, ⟨z, ha⟩, h.r16, h.text, hj⟩
theorem SR.lt {W0 w : World} {R : Nat} {s : ByteArray} {i o : Nat} (h : SR W0 w R s i o) : R < w.heap.size := by obtain ⟨z, hz⟩ := h.at_; exact hz.lt
theorem BR.lt {W0 w : World} {R : Nat} {s : ByteArray} (h : BR W0 w R s) : R < w.heap.size := by obtain ⟨i, o, te, pe, z, _, _, hz⟩ := h.at_; exact hz.lt
theorem SR.kept {W0 w w' : World} {R : Nat} {s : ByteArray} {i o : Nat} (h : SR W0 w R s i o) (hg : w.grownBy w' none) : SR W0 w' R s i o := by
  obtain ⟨z, hz⟩ := h.at_
  exact h.step (z := z) ⟨hg.os, hg.tape, hg.output, hg.size, fun k hk _ => hg.block k hk (by simp)⟩ h.inn (hz.kept hg)
theorem BR.kept {W0 w w' : World} {R : Nat} {s : ByteArray} (h : BR W0 w R s) (hg : w.grownBy w' none) : BR W0 w' R s := by
  obtain ⟨i, o, te, pe, z, h1, h2, hz⟩ := h.at_
  have hg' : w.grownBy w' (some R) := ⟨hg.os, hg.tape, hg.output, hg.size, fun k hk _ => hg.block k hk (by simp)⟩
  exact ⟨h.env.grown hg' h.r16, ⟨i, o, te, pe, z, h1, h2, hz.kept hg⟩, h.r16, h.text⟩

set_option maxHeartbeats 1000000 in
theorem fail_first {W0 w : World} {R i o : Nat} {s : ByteArray} (h : SR W0 w R s i o) (ho : o ≤ 1000) (te : TypeId) (pe : Value) (y : Int) :
    Calls Tryz.prog 22 #[.pointer (some ⟨R, 0, none⟩), .iface te pe, .int .i64 y] w fun e w' => e = .returned (.tuple #[]) ∧ w.grownBy w' (some R) ∧ BR W0 w' R s := by
  have HS : Hid (SR W0 w R s i o) := h
  obtain ⟨z, hz⟩ := h.at_
  obtain ⟨_, _, _, c3, c4⟩ := hz.cells
  have f3 := hz.frozen 3
  have f4 := hz.frozen 4
  have HZ : Hid (RrAt w R s i o .nilIface z) := hz
  clear h hz
  go_enter Tryz.func22, Tryz.ntmps22
  go_wp2
  go_end0
  have hg2 : w.grownBy ((w.setCell ⟨R, 3, none⟩ (.iface te pe)).setCell ⟨R, 4, none⟩ (.int .i64 y)) (some R) := Lib.grownBy_setB (Lib.grownBy_setCell w R 3 _) 4 _
  exact ⟨rfl, hg2, HS.out.env.grown hg2 HS.out.r16, ⟨i, o, te, pe, y, HS.out.inn, trivial, HZ.out.set34 _ _⟩, HS.out.r16, HS.out.text⟩

set_option maxHeartbeats 1000000 in
theorem fail_more {W0 w : World} {R : Nat} {s : ByteArray} (h : BR W0 w R s) (te : TypeId) (pe : Value) (y : Int) :
    Calls Tryz.prog 22 #[.pointer (some ⟨R, 0, none⟩), .iface te pe, .int .i64 y] w fun e w' => e = .returned (.tuple #[]) ∧ w' = w := by
  obtain ⟨i, o, te', pe', z, _, _, hz⟩ := h.at_
  obtain ⟨_, _, _, c3, c4⟩ := hz.cells
  clear h hz
  go_enter Tryz.func22, Tryz.ntmps22
  go_wp2
  go_end0
  exact ⟨rfl, rfl⟩

end Go.Proofs.YtbjohedenfindaaGreatDoor

namespace Go.Proofs.YtbjohedenfindaaGreatDoor
open Go.RowKit
set_option linter.unusedVariables false
set_option maxRecDepth 100000

/-- what the document's reader asks of the world: the two errors -/
structure LibR (W0 : World) : Prop where
  syn : ∃ te pe, W0.cell? ⟨0, 0, none⟩ = some (.iface te pe)
  bnd : ∃ te pe, W0.cell? ⟨1, 0, none⟩ = some (.iface te pe)
set_option maxHeartbeats 2000000 in
theorem now_bad {W0 w : World} {R : Nat} {s : ByteArray} (h : BR W0 w R s) :
    Calls Tryz.prog 74 #[.pointer (some ⟨R, 0, none⟩)] w fun e w' => e = .returned (.int .i64 (-1)) ∧ ∃ n, w' = w.drewN n := by
  obtain ⟨i, o, te', pe', z, _, _, hz⟩ := h.at_
  obtain ⟨c0, c1, _, c3, _⟩ := hz.cells
  clear h hz
  go_enter Tryz.func74, Tryz.ntmps74
  go_wp2
  go_quiet (fail)
  go_wp2
  go_ret
  exact ⟨rfl, _, rfl⟩

set_option maxHeartbeats 2000000 in
theorem now_end {W0 w : World} {R o : Nat} {s : ByteArray} (h : SR W0 w R s s.size o) :
    Calls Tryz.prog 74 #[.pointer (some ⟨R, 0, none⟩)] w fun e w' => e = .returned (.int .i64 (-1)) ∧ ∃ n, w' = w.drewN n := by
  obtain ⟨z, hz⟩ := h.at_
  obtain ⟨c0, c1, _, c3, _⟩ := hz.cells
  clear h hz
  go_enter Tryz.func74, Tryz.ntmps74
  go_wp2
  go_quiet (fail)
  go_wp2
  go_ret
  exact ⟨rfl, _, rfl⟩

set_option maxHeartbeats 2000000 in
theorem now_in {W0 w : World} {R i o : Nat} {s : ByteArray} (h : SR W0 w R s i o) (hc : 0 ≤ cpAt s i) :
    Calls Tryz.prog 74 #[.pointer (some ⟨R, 0, none⟩)] w fun e w' => e = .returned (.int .i64 (cpAt s i)) ∧ ∃ n, w' = w.drewN n := by
  obtain ⟨z, hz⟩ := h.at_
  obtain ⟨c0, c1, _, c3, _⟩ := hz.cells
  obtain ⟨hlt, e1, _⟩ := cp_in hc
  have hs := h.text
  have hok : okAt s i = true := by
    cases hb : okAt s i with
    | true => rfl
    | false =>
      exfalso
      simp [okAt] at hb
      unfold cpAt at hc
      rw [if_pos hlt, if_pos hb] at hc
      omega
  have HP : Hid (∀ w, Calls Tryz.prog 62 #[.string s, .int .i64 i] w fun e w' => e = .returned (.tuple #[.int .i64 (cpAt s i), .int .i64 (Utf8.decode s i).2, .bool true]) ∧ w' = w) := fun w => by
    have := point_any s i w (by omega) hlt
    rw [hok, ← e1] at this
    exact this
  generalize cpAt s i = c at *
  generalize (Utf8.decode s i).2 = d at *
  have hge : ¬ (s.size : Int) ≤ (i : Int) := by omega
  have hge2 : decide ((s.size : Int) ≤ (i : Int)) = false := by simp; omega
  clear h hz hok e1
  go_enter Tryz.func74, Tryz.ntmps74
  go_wp2
  go_quiet (fail)
  go_wp2
  go_region_with (go_at_call 62; refine (HP.out _).mono ?_; rintro e w' ⟨rfl, rfl⟩)
  all_goals
    go_wp2
    go_ret
    exact ⟨rfl, _, rfl⟩

set_option maxHeartbeats 2000000 in
theorem now_broken {W0 w : World} (L : LibR W0) {R i o : Nat} {s : ByteArray} (h : SR W0 w R s i o) (ho : o ≤ 1000) (hc : cpAt s i = -2) :
    Calls Tryz.prog 74 #[.pointer (some ⟨R, 0, none⟩)] w fun e w' => e = .returned (.int .i64 (-1)) ∧ w.grownBy w' (some R) ∧ BR W0 w' R s := by
  obtain ⟨z, hz⟩ := h.at_
  obtain ⟨c0, c1, _, c3, _⟩ := hz.cells
  have HS : Hid (SR W0 w R s i o) := h
  obtain ⟨te, pe, cs⟩ : ∃ te pe, w.cell? ⟨0, 0, none⟩ = some (.iface te pe) := by
    obtain ⟨te, pe, e⟩ := L.syn
    exact ⟨te, pe, (World.cell?_of_block (a := ⟨0, 0, none⟩) (h.env.2 0 (by omega))).trans e⟩
  have hs := h.text
  have hlt : i < s.size := by
    unfold cpAt at hc
    split at hc
    · assumption
    · omega
  have hok : okAt s i = false := by
    unfold cpAt at hc
    rw [if_pos hlt] at hc
    split at hc
    · rename_i h2; simp [okAt, h2]
    · omega
  have HP : Hid (∀ w, Calls Tryz.prog 62 #[.string s, .int .i64 i] w fun e w' => e = .returned (.tuple #[.int .i64 (Utf8.decode s i).1, .int .i64 (Utf8.decode s i).2, .bool false]) ∧ w' = w) := fun w => by
    have := point_any s i w (by omega) hlt
    rw [hok] at this
    exact this
  generalize (Utf8.decode s i).1 = d1 at *
  generalize (Utf8.decode s i).2 = d at *
  have hge : ¬ (s.size : Int) ≤ (i : Int) := by omega
  have hge2 : decide ((s.size : Int) ≤ (i : Int)) = false := by simp; omega
  have HF : Hid (∀ n, Calls Tryz.prog 22 #[.pointer (some ⟨R, 0, none⟩), .iface te pe, .int .i64 i] (w.drewN n) fun e w' => e = .returned (.tuple #[]) ∧ (w.drewN n).grownBy w' (some R) ∧ BR W0 w' R s) := fun n => fail_first (HS.out.kept (w' := w.drewN n) ⟨rfl, rfl, rfl, Nat.le_refl _, fun _ _ _ => rfl⟩) ho te pe i
  clear h hz hok hc
  go_enter Tryz.func74, Tryz.ntmps74
  go_wp2
  go_quiet (fail)
  go_wp2
  go_region_with (go_at_call 62; refine (HP.out _).mono ?_; rintro e w' ⟨rfl, rfl⟩)
  all_goals
    go_wp2
    go_region_with (go_at_call 22; refine (HF.out _).mono ?_; rintro e w' ⟨rfl, hg, hB⟩)
    all_goals
      go_wp2
      go_ret
      exact ⟨rfl, grownBy_undrew hg, hB⟩

set_option maxHeartbeats 2000000 in
theorem skip_in {W0 w : World} {R i o : Nat} {s : ByteArray} (h : SR W0 w R s i o) (hlt : i < s.size) :
    Calls Tryz.prog 75 #[.pointer (some ⟨R, 0, none⟩)] w fun e w' => e = .returned (.tuple #[]) ∧ w.grownBy w' (some R) ∧ SR W0 w' R s (i + szAt s i) o := by
  obtain ⟨z, hz⟩ := h.at_
  obtain ⟨c0, c1, _, c3, _⟩ := hz.cells
  have f1 := hz.frozen 1
  have HS : Hid (SR W0 w R s i o) := h
  have HZ : Hid (RrAt w R s i o .nilIface z) := hz
  have hs := h.text
  have hsz := sz_le s i h.inn
  have e1 : szAt s i = (Utf8.decode s i).2 := by unfold szAt; rw [if_pos hlt]
  have HP : Hid (∀ w, Calls Tryz.prog 62 #[.string s, .int .i64 i] w fun e w' => e = .returned (.tuple #[.int .i64 (Utf8.decode s i).1, .int .i64 (szAt s i), .bool (okAt s i)]) ∧ w' = w) := fun w => by
    have := point_any s i w (by omega) hlt
    rw [← e1] at this
    exact this
  generalize (Utf8.decode s i).1 = d1 at *
  generalize szAt s i = d at *
  generalize okAt s i = ok at *
  clear h hz e1
  go_enter Tryz.func75, Tryz.ntmps75
  go_wp2
  go_region_with (go_at_call 62; refine (HP.out _).mono ?_; rintro e w' ⟨rfl, rfl⟩)
  all_goals
    go_wp2
    go_end0
    have hgz : w.grownBy (w.setCell ⟨R, 1, none⟩ (.int .i64 ((i : Int) + d))) (some R) := Lib.grownBy_setCell w R 1 _
    have hS := HS.out.step hgz hsz (by simpa using HZ.out.set1 (i + d))
    exact ⟨rfl, ⟨hgz.os, hgz.tape, hgz.output, hgz.size, hgz.block⟩, ⟨hS.env, hS.at_, hS.r16, hS.text, hS.inn⟩⟩

end Go.Proofs.YtbjohedenfindaaGreatDoor

namespace Go.Proofs.YtbjohedenfindaaGreatDoor
open Go.RowKit
set_option linter.unusedVariables false
set_option maxRecDepth 100000

theorem grown_drewN (w : World) (n : Nat) (row : Option Nat) : w.grownBy (w.drewN n) row := ⟨rfl, rfl, rfl, Nat.le_refl _, fun _ _ _ => rfl⟩

/-- now, whatever comes -/
theorem now_any {W0 w : World} (L : LibR W0) {R i o : Nat} {s : ByteArray} (h : SR W0 w R s i o) (ho : o ≤ 1000) :
    Calls Tryz.prog 74 #[.pointer (some ⟨R, 0, none⟩)] w fun e w' => w.grownBy w' (some R) ∧ ((cpAt s i ≠ -2 ∧ e = .returned (.int .i64 (cpAt s i)) ∧ SR W0 w' R s i o) ∨ (cpAt s i = -2 ∧ e = .returned (.int .i64 (-1)) ∧ BR W0 w' R s)) := by
  by_cases h0 : 0 ≤ cpAt s i
  · refine (now_in h h0).mono ?_
    rintro e w' ⟨rfl, n, rfl⟩
    exact ⟨grown_drewN _ _ _, Or.inl ⟨by omega, rfl, h.kept (grown_drewN _ _ _)⟩⟩
  · by_cases h2 : cpAt s i = -2
    · refine (now_broken L h ho h2).mono ?_
      rintro e w' ⟨rfl, hg, hB⟩
      exact ⟨hg, Or.inr ⟨h2, rfl, hB⟩⟩
    · have h1 : i = s.size := by
        have := h.inn
        rcases Nat.lt_or_ge i s.size with hlt | hge
        · exfalso
          unfold cpAt at h0 h2
          rw [if_pos hlt] at h0 h2
          split at h2
          · exact h2 rfl
          · rename_i hn
            rw [if_neg hn] at h0
            omega
        · omega
      subst h1
      have e1 : cpAt s s.size = -1 := by simp [cpAt]
      refine (now_end h).mono ?_
      rintro e w' ⟨rfl, n, rfl⟩
      exact ⟨grown_drewN _ _ _, Or.inl ⟨by omega, by rw [e1], h.kept (grown_drewN _ _ _)⟩⟩

set_option maxHeartbeats 1000000 in
theorem eat_bad {W0 w : World} {R : Nat} {s : ByteArray} (h : BR W0 w R s) (c : Int) (hc : 0 ≤ c) :
    Calls Tryz.prog 45 #[.pointer (some ⟨R, 0, none⟩), .int .i64 c] w fun e w' => e = .returned (.bool false) ∧ ∃ n, w' = w.drewN n := by
  have HN : Hid (Calls Tryz.prog 74 #[.pointer (some ⟨R, 0, none⟩)] w fun e w' => e = .returned (.int .i64 (-1)) ∧ ∃ n, w' = w.drewN n) := now_bad h
  have hq : ((-1 : Int) != c) = true := by rw [bne_iff_ne]; omega
  clear h
  go_enter Tryz.func45, Tryz.ntmps45
  go_wp2_with fail
  refine HN.out.mono ?_
  rintro e w1 ⟨rfl, n, rfl⟩
  go_wp2
  go_ret
  exact ⟨rfl, n, rfl⟩

set_option maxHeartbeats 1000000 in
theorem eat_yes {W0 w : World} (L : LibR W0) {R i o : Nat} {s : ByteArray} (h : SR W0 w R s i o) (c : Int) (hc : 0 ≤ c) (he : cpAt s i = c) :
    Calls Tryz.prog 45 #[.pointer (some ⟨R, 0, none⟩), .int .i64 c] w fun e w' => e = .returned (.bool true) ∧ w.grownBy w' (some R) ∧ SR W0 w' R s (i + szAt s i) o := by
  have hlt := (cp_in (s := s) (i := i) (by omega)).1
  have hn := now_in h (by omega)
  rw [he] at hn
  have HN : Hid (Calls Tryz.prog 74 #[.pointer (some ⟨R, 0, none⟩)] w fun e w' => e = .returned (.int .i64 c) ∧ ∃ n, w' = w.drewN n) := hn
  have HS : Hid (SR W0 w R s i o) := h
  have hq : (c != c) = false := by simp
  clear h hn he
  go_enter Tryz.func45, Tryz.ntmps45
  go_wp2_with fail
  refine HN.out.mono ?_
  rintro e w1 ⟨rfl, n, rfl⟩
  have hS1 := HS.out.kept (grown_drewN w n none)
  go_wp2_with fail
  refine (skip_in hS1 hlt).mono ?_
  rintro e w2 ⟨rfl, hg, hS2⟩
  go_wp2
  go_ret
  exact ⟨rfl, grownBy_undrew hg, hS2⟩

set_option maxHeartbeats 1000000 in
theorem eat_no {W0 w : World} (L : LibR W0) {R i o : Nat} {s : ByteArray} (h : SR W0 w R s i o) (ho : o ≤ 1000) (c : Int) (hc : 0 ≤ c) (he : cpAt s i ≠ c) :
    Calls Tryz.prog 45 #[.pointer (some ⟨R, 0, none⟩), .int .i64 c] w fun e w' => e = .returned (.bool false) ∧ w.grownBy w' (some R) ∧ ((cpAt s i ≠ -2 ∧ SR W0 w' R s i o) ∨ (cpAt s i = -2 ∧ BR W0 w' R s)) := by
  have HN : Hid (Calls Tryz.prog 74 #[.pointer (some ⟨R, 0, none⟩)] w fun e w' => w.grownBy w' (some R) ∧ ((cpAt s i ≠ -2 ∧ e = .returned (.int .i64 (cpAt s i)) ∧ SR W0 w' R s i o) ∨ (cpAt s i = -2 ∧ e = .returned (.int .i64 (-1)) ∧ BR W0 w' R s))) := now_any L h ho
  generalize cpAt s i = x at *
  have hq1 : (x != c) = true := by rw [bne_iff_ne]; exact he
  have hq2 : ((-1 : Int) != c) = true := by rw [bne_iff_ne]; omega
  clear h he
  go_enter Tryz.func45, Tryz.ntmps45
  go_wp2_with fail
  refine HN.out.mono ?_
  rintro e w1 ⟨hg, ⟨h1, rfl, hS⟩ | ⟨h1, rfl, hB⟩⟩
  · go_wp2
    go_ret
    exact ⟨rfl, hg, Or.inl ⟨h1, hS⟩⟩
  · have H1 : Hid (x = -2) := h1
    clear h1
    go_wp2
    go_ret
    exact ⟨rfl, hg, Or.inr ⟨H1.out, hB⟩⟩

end Go.Proofs.YtbjohedenfindaaGreatDoor

namespace Go.Proofs.YtbjohedenfindaaGreatDoor
open Go.RowKit
set_option linter.unusedVariables false
set_option maxRecDepth 100000

theorem sr_not_br {W0 w : World} {R i o : Nat} {s : ByteArray} (h : SR W0 w R s i o) (hb : BR W0 w R s) : False := by
  obtain ⟨z, hz⟩ := h.at_
  obtain ⟨i1, o1, te, pe, z1, _, _, hz1⟩ := hb.at_
  have a := hz.cells.2.2.2.1
  have b := hz1.cells.2.2.2.1
  rw [a] at b
  simp at b
/-- nothing is read, or a byte that belongs to no point stands behind it -/
def BadR {α : Type} (s : ByteArray) (r : Option (α × Nat)) : Prop := r = none ∨ ∃ t j, r = some (t, j) ∧ cpAt s j = -2
theorem env_syn {W0 w : World} (L : LibR W0) (h : Env W0 w) : ∃ te pe, w.cell? ⟨0, 0, none⟩ = some (.iface te pe) := by
  obtain ⟨te, pe, e⟩ := L.syn
  exact ⟨te, pe, (World.cell?_of_block (a := ⟨0, 0, none⟩) (h.2 0 (by omega))).trans e⟩
/-- failing at the place, whatever the state -/
theorem fail_here {W0 w w1 : World} (L : LibR W0) {R i o : Nat} {s : ByteArray} (hg : w.grownBy w1 (some R)) (h : (SR W0 w1 R s i o ∧ o ≤ 1000) ∨ BR W0 w1 R s) : ∃ te pe, ∃ i1 : Nat, w1.cell? ⟨0, 0, none⟩ = some (.iface te pe) ∧ w1.cell? ⟨R, 1, none⟩ = some (.int .i64 (i1 : Int)) ∧
    ∀ n, Calls Tryz.prog 22 #[.pointer (some ⟨R, 0, none⟩), .iface te pe, .int .i64 i1] (w1.drewN n) fun e w' => e = .returned (.tuple #[]) ∧ w.grownBy w' (some R) ∧ BR W0 w' R s := by
  rcases h with ⟨h, ho⟩ | h
  · obtain ⟨te, pe, cs⟩ := env_syn L h.env
    obtain ⟨z, hz⟩ := h.at_
    refine ⟨te, pe, i, cs, hz.cells.2.1, fun n => (fail_first (h.kept (grown_drewN w1 n none)) ho te pe i).mono ?_⟩
    rintro e w' ⟨h1, h2, h3⟩
    exact ⟨h1, Lib.grownBy_trans hg (Lib.grownBy_trans (grown_drewN w1 n (some R)) h2), h3⟩
  · obtain ⟨te, pe, cs⟩ := env_syn L h.env
    obtain ⟨i1, o1, te', pe', z, _, _, hz⟩ := h.at_
    refine ⟨te, pe, i1, cs, hz.cells.2.1, fun n => (fail_more (h.kept (grown_drewN w1 n none)) te pe i1).mono ?_⟩
    rintro e w' ⟨h1, rfl⟩
    exact ⟨h1, Lib.grownBy_trans hg (grown_drewN w1 n (some R)), h.kept (grown_drewN w1 n none)⟩

set_option maxHeartbeats 2000000 in
theorem need_false {W0 w : World} {R : Nat} {s : ByteArray} {c : Int} {P : World → Prop} (HE : Hid (Calls Tryz.prog 45 #[.pointer (some ⟨R, 0, none⟩), .int .i64 c] w fun e w' => e = .returned (.bool false) ∧ P w'))
    (HX : Hid (∀ w1, P w1 → ∃ te pe, ∃ i1 : Nat, w1.cell? ⟨0, 0, none⟩ = some (.iface te pe) ∧ w1.cell? ⟨R, 1, none⟩ = some (.int .i64 (i1 : Int)) ∧ ∀ n, Calls Tryz.prog 22 #[.pointer (some ⟨R, 0, none⟩), .iface te pe, .int .i64 i1] (w1.drewN n) fun e w' => e = .returned (.tuple #[]) ∧ w.grownBy w' (some R) ∧ BR W0 w' R s)) :
    Calls Tryz.prog 142 #[.pointer (some ⟨R, 0, none⟩), .int .i64 c] w fun e w' => e = .returned (.tuple #[]) ∧ w.grownBy w' (some R) ∧ BR W0 w' R s := by
  go_enter Tryz.func142, Tryz.ntmps142
  go_wp2_with fail
  refine HE.out.mono ?_
  rintro e w1 ⟨rfl, hw1⟩
  obtain ⟨te, pe, i1, cs, c1, hF⟩ := HX.out w1 hw1
  have HF1 : Hid (Calls Tryz.prog 22 #[.pointer (some ⟨R, 0, none⟩), .iface te pe, .int .i64 i1] w1.drew fun e w' => e = .returned (.tuple #[]) ∧ w.grownBy w' (some R) ∧ BR W0 w' R s) := hF 1
  clear hF HX hw1
  go_wp2
  go_region_with (go_at_call 22; refine HF1.out.mono ?_; rintro e w4 ⟨rfl, hg4, hB4⟩)
  all_goals
    go_wp2
    go_end0
    exact ⟨rfl, hg4, hB4⟩
set_option maxHeartbeats 1000000 in
theorem need_true {w : World} {R : Nat} {c : Int} {P : World → Prop} (HE : Hid (Calls Tryz.prog 45 #[.pointer (some ⟨R, 0, none⟩), .int .i64 c] w fun e w' => e = .returned (.bool true) ∧ P w')) :
    Calls Tryz.prog 142 #[.pointer (some ⟨R, 0, none⟩), .int .i64 c] w fun e w' => e = .returned (.tuple #[]) ∧ P w' := by
  go_enter Tryz.func142, Tryz.ntmps142
  go_wp2_with fail
  refine HE.out.mono ?_
  rintro e w1 ⟨rfl, hw1⟩
  go_wp2
  go_end0
  exact ⟨rfl, hw1⟩
theorem need_any {W0 w : World} (L : LibR W0) {R i o : Nat} {s : ByteArray} (h : SR W0 w R s i o) (ho : o ≤ 1000) (c : Int) (hc : 0 ≤ c) :
    Calls Tryz.prog 142 #[.pointer (some ⟨R, 0, none⟩), .int .i64 c] w fun e w' => e = .returned (.tuple #[]) ∧ w.grownBy w' (some R) ∧ (BR W0 w' R s ∨ (cpAt s i = c ∧ SR W0 w' R s (i + szAt s i) o)) ∧ (BR W0 w' R s → cpAt s i ≠ c) := by
  by_cases he : cpAt s i = c
  · exact (need_true (P := fun w' => w.grownBy w' (some R) ∧ SR W0 w' R s (i + szAt s i) o) (eat_yes L h c hc he)).mono fun e w' ⟨h1, h2, h3⟩ => ⟨h1, h2, .inr ⟨he, h3⟩, fun hB => (sr_not_br h3 hB).elim⟩
  · refine (need_false (W0 := W0) (s := s) (P := fun w' => w.grownBy w' (some R) ∧ ((cpAt s i ≠ -2 ∧ SR W0 w' R s i o) ∨ (cpAt s i = -2 ∧ BR W0 w' R s))) (eat_no L h ho c hc he) ?_).mono fun e w' ⟨h1, h2, h3⟩ => ⟨h1, h2, .inl h3, fun _ => he⟩
    rintro w1 ⟨hg, h1⟩
    exact fail_here (i := i) (o := o) L hg (h1.elim (fun h => .inl ⟨h.2, ho⟩) fun h => .inr h.2)
theorem need_bad {W0 w : World} (L : LibR W0) {R : Nat} {s : ByteArray} (h : BR W0 w R s) (c : Int) (hc : 0 ≤ c) :
    Calls Tryz.prog 142 #[.pointer (some ⟨R, 0, none⟩), .int .i64 c] w fun e w' => e = .returned (.tuple #[]) ∧ w.grownBy w' (some R) ∧ BR W0 w' R s := by
  refine need_false (P := fun w' => ∃ n, w' = w.drewN n) (eat_bad h c hc) ?_
  rintro w1 ⟨n, rfl⟩
  exact fail_here (i := 0) (o := 0) L (grown_drewN w n (some R)) (.inr (h.kept (grown_drewN w n none)))
end Go.Proofs.YtbjohedenfindaaGreatDoor
