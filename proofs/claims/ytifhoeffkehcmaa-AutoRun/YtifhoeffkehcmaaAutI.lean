/- The program: whether the moves of a state may stand as they do. -/
import Derived.Test.YtifhoeffkehcmaaAut
import Derived.Test.YtifhoeffkehcmaaProg
import Derived.WalkKit
import Derived.WalkSpells
import Derived.WalkLawsBesides
import Derived.Lib.OthersKept
import Derived.BigQuiet
import Derived.Deep.QuietTactic
namespace Go.Proofs.Ytifhoeffkehcmaa
open Go.RowKit
set_option linter.unusedVariables false
set_option maxRecDepth 100000

/-- moves in memory -/
def MvCells (w : World) (b off : Nat) (ms : List Mv) : Prop := ∀ j, j < ms.length → w.cell? ⟨b, off + j * 3, none⟩ = some (.int .i64 (ms.getD j m0).1) ∧ w.cell? ⟨b, off + j * 3 + 1, none⟩ = some (.int .i64 (ms.getD j m0).2.1) ∧ w.cell? ⟨b, off + j * 3 + 2, none⟩ = some (.int .i64 (ms.getD j m0).2.2)
def Mvs (w : World) (v : Value) (ms : List Mv) : Prop :=
  (ms = [] ∧ ∃ a c, v = .slice a 0 c) ∨ ∃ b off c, v = .slice (some ⟨b, off, none⟩) ms.length c ∧ b < w.heap.size ∧ MvCells w b off ms
/-- states in memory -/
def StCells (w : World) (b off : Nat) (l : List St) : Prop := ∀ j, j < l.length → w.cell? ⟨b, off + j * 2, none⟩ = some (.int .i64 (l.getD j s0).1) ∧ ∃ mv, w.cell? ⟨b, off + j * 2 + 1, none⟩ = some mv ∧ Mvs w mv (l.getD j s0).2
def Sts (w : World) (v : Value) (l : List St) : Prop :=
  (l = [] ∧ ∃ a c, v = .slice a 0 c) ∨ ∃ b off c, v = .slice (some ⟨b, off, none⟩) l.length c ∧ b < w.heap.size ∧ StCells w b off l

theorem MvCells.below {w w' : World} {b off : Nat} {ms : List Mv} {B : Nat} (h : MvCells w b off ms) (hb : b < B) (hw : Below B w w') : MvCells w' b off ms := fun j hj =>
  ⟨(hw.cell (p := ⟨b, _, none⟩) hb).trans (h j hj).1, (hw.cell (p := ⟨b, _, none⟩) hb).trans (h j hj).2.1, (hw.cell (p := ⟨b, _, none⟩) hb).trans (h j hj).2.2⟩
theorem Mvs.below {w w' : World} {v : Value} {ms : List Mv} (h : Mvs w v ms) (hw : Below w.heap.size w w') : Mvs w' v ms := by
  rcases h with h | ⟨b, off, c, rfl, hb, hc⟩
  · exact .inl h
  · exact .inr ⟨b, off, c, rfl, by have := hw.size; omega, hc.below hb hw⟩
theorem StCells.below {w w' : World} {b off : Nat} {l : List St} (h : StCells w b off l) (hb : b < w.heap.size) (hw : Below w.heap.size w w') : StCells w' b off l := fun j hj => by
  obtain ⟨h1, mv, h2, h3⟩ := h j hj
  exact ⟨(hw.cell (p := ⟨b, _, none⟩) hb).trans h1, mv, (hw.cell (p := ⟨b, _, none⟩) hb).trans h2, h3.below hw⟩
theorem Sts.below {w w' : World} {v : Value} {l : List St} (h : Sts w v l) (hw : Below w.heap.size w w') : Sts w' v l := by
  rcases h with h | ⟨b, off, c, rfl, hb, hc⟩
  · exact .inl h
  · exact .inr ⟨b, off, c, rfl, by have := hw.size; omega, hc.below hb hw⟩
theorem Mvs.slice {w : World} {v : Value} {ms : List Mv} (h : Mvs w v ms) : ∃ a c, v = .slice a ms.length c := by
  rcases h with ⟨rfl, a, c, rfl⟩ | ⟨b, off, c, rfl, _⟩
  · exact ⟨a, c, rfl⟩
  · exact ⟨_, _, rfl⟩
theorem Sts.slice {w : World} {v : Value} {l : List St} (h : Sts w v l) : ∃ a c, v = .slice a l.length c := by
  rcases h with ⟨rfl, a, c, rfl⟩ | ⟨b, off, c, rfl, _⟩
  · exact ⟨a, c, rfl⟩
  · exact ⟨_, _, rfl⟩

set_option maxHeartbeats 2000000 in
theorem inorder_row (b off c n : Nat) (ms : List Mv) (w : World) (hb : b < w.heap.size) (hc : MvCells w b off ms) :
    Calls Try.prog 13 #[.slice (some ⟨b, off, none⟩) ms.length c, .int .i64 n] w fun e w' => e = .returned (.bool (mvOk n (-1) ms)) ∧ Below w.heap.size w w' := by
  go_enter Try.func13, Try.ntmps13
  go_wp2
  go_loopw [5, 10] (fun x i wr => ∃ (k : Nat) (last : Int), k ≤ ms.length ∧ x = .int .i64 (last + 1) ∧ i = .int .i64 k ∧ -1 ≤ last ∧ last ≤ 1114111 ∧ (k : Int) ≤ last + 1 ∧ Hid (mvOk n (-1) ms = mvOk n last (ms.drop k)) ∧ Below w.heap.size w wr) (fun _ i _ => ms.length - (intOf i).toNat)
  case atStart => exact ⟨0, -1, Nat.zero_le _, rfl, rfl, by omega, by omega, by omega, (by show _ = _; rw [List.drop_zero]), Below.refl _ _⟩
  case round =>
    obtain ⟨k, last, hk, rfl, rfl, hl0, hl1, hkl, HM, hbw⟩ := hrel
    by_cases hlt : k < ms.length
    · obtain ⟨c0a, c1a, c2a⟩ := hc k hlt
      have c0 := (hbw.cell (p := ⟨b, off + k * 3, none⟩) hb).trans c0a
      have c1 := (hbw.cell (p := ⟨b, off + k * 3 + 1, none⟩) hb).trans c1a
      have c2 := (hbw.cell (p := ⟨b, off + k * 3 + 2, none⟩) hb).trans c2a
      have hsz := hbw.size
      clear hc c0a c1a c2a
      have HY : Hid (_ → _) := mvOk_step n last ms k hlt
      have HN : Hid (_ → _) := mvOk_no n last ms k hlt
      generalize ms.getD k m0 = r at *
      obtain ⟨lo, hi, to⟩ := r
      simp only at c0 c1 c2
      by_cases g1 : lo < last + 1
      · have HS : Hid (mvOk n (-1) ms = false) := by show _ = _; rw [HM.out]; exact HN.out (by simp only; omega)
        clear HY HN
        go_wp2
        go_ret
        exact ⟨by rw [HS.out]; rfl, hbw.alloc hsz _⟩
      · by_cases g2 : lo > hi
        · have HS : Hid (mvOk n (-1) ms = false) := by show _ = _; rw [HM.out]; exact HN.out (by simp only; omega)
          clear HY HN
          go_wp2
          go_ret
          exact ⟨by rw [HS.out]; rfl, hbw.alloc hsz _⟩
        · by_cases g3 : hi > 1114111
          · have HS : Hid (mvOk n (-1) ms = false) := by show _ = _; rw [HM.out]; exact HN.out (by simp only; omega)
            clear HY HN
            go_wp2
            go_ret
            exact ⟨by rw [HS.out]; rfl, hbw.alloc hsz _⟩
          · by_cases g4 : to < 0
            · have HS : Hid (mvOk n (-1) ms = false) := by show _ = _; rw [HM.out]; exact HN.out (by simp only; omega)
              clear HY HN
              go_wp2
              go_ret
              exact ⟨by rw [HS.out]; rfl, hbw.alloc hsz _⟩
            · by_cases g5 : to ≥ (n : Int)
              · have HS : Hid (mvOk n (-1) ms = false) := by show _ = _; rw [HM.out]; exact HN.out (by simp only; omega)
                clear HY HN
                go_wp2
                go_ret
                exact ⟨by rw [HS.out]; rfl, hbw.alloc hsz _⟩
              · have HS : Hid (mvOk n (-1) ms = mvOk n hi (ms.drop (k + 1))) := by show _ = _; rw [HM.out]; exact HY.out (by simp only; omega)
                clear HY HN
                go_wp2
                go_roundw
                case rel => exact ⟨k + 1, hi, by omega, by go_num, by go_num, by omega, by omega, by omega, HS, hbw.alloc hsz _⟩
                case measure => simp [intOf]; omega
    · have HS : Hid (mvOk n (-1) ms = true) := by
        show _ = _; rw [HM.out, List.drop_eq_nil_of_le (by omega)]; rfl
      go_wp2
      go_ret
      exact ⟨by rw [HS.out]; rfl, hbw⟩

set_option maxHeartbeats 400000 in
theorem inorder_empty (a : Option Addr) (c n : Nat) (w : World) :
    Calls Try.prog 13 #[.slice a 0 c, .int .i64 n] w fun e w' => e = .returned (.bool (mvOk n (-1) [])) ∧ Below w.heap.size w w' := by
  go_enter Try.func13, Try.ntmps13
  go_wp2
  refine wp_loop_rounds 1 ?_
  rw [rounds_succ]
  go_wp2
  go_ret
  exact ⟨rfl, Below.refl _ _⟩

theorem inorder_any (v : Value) (n : Nat) (ms : List Mv) (w : World) (hv : Mvs w v ms) :
    Calls Try.prog 13 #[v, .int .i64 n] w fun e w' => e = .returned (.bool (mvOk n (-1) ms)) ∧ Below w.heap.size w w' := by
  rcases hv with ⟨rfl, a, c, rfl⟩ | ⟨b, off, c, rfl, hb, hc⟩
  · exact inorder_empty a c n w
  · exact inorder_row b off c n ms w hb hc

end Go.Proofs.Ytifhoeffkehcmaa
