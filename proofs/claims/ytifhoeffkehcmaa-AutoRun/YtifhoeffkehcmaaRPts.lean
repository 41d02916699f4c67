/- The document's answer: the points of a text. -/
import Derived.Test.YtifhoeffkehcmaaPPoints
import Derived.Test.YtifhoeffkehcmaaPointE
import Derived.BigQuiet
import Derived.Deep.QuietTactic
namespace Go.Proofs.Ytifhoeffkehcmaa
open Go.RowKit
set_option linter.unusedVariables false
set_option maxRecDepth 100000

set_option maxHeartbeats 1000000 in
theorem rpoints_any (s : ByteArray) (w : World) (hs : s.size ≤ 17592186044416) :
    Calls Try.prog 18 #[.string s] w fun e w' => ∃ v, e = .returned v ∧ w'.ownsRow w.heap.size 3 1 v (pts s).length ((pts s).map (Value.int .i64)) ∧ Below w.heap.size w w' := by
  obtain ⟨i0, hi, hz0, hz1, hz2⟩ := info_parts Try.infoInt
  go_enter Try.func18, Try.ntmps18
  go_wp2
  go_loopw [3, 4] (fun v i wr => ∃ (pos fuel : Nat) (acc : List Int), i = .int .i64 pos ∧ wr.ownsRow w.heap.size 3 1 v acc.length (acc.map (Value.int .i64)) ∧ Below w.heap.size w wr ∧ acc ++ ptsFrom s fuel pos = pts s ∧ s.size ≤ pos + fuel ∧ acc.length ≤ pos ∧ pos ≤ s.size) (fun _ i _ => s.size - (intOf i).toNat)
  case atStart =>
    refine ⟨0, s.size, [], rfl, World.ownsRow_nil _ _ _ _, Below.refl _ w, rfl, by omega, by simp, by omega⟩
  case round =>
    obtain ⟨pos, fuel, acc, rfl, hown, hbw, hacc0, hfu, hal, hpl⟩ := hrel
    have HA : Hid (acc ++ ptsFrom s fuel pos = pts s) := hacc0
    clear hacc0
    have hsz : w.heap.size ≤ wr.heap.size := hbw.size
    by_cases hp : pos < s.size
    · have hwd := dec_width s pos
      have hle := dec_le s pos hp
      have hr1 : ((Utf8.decode s pos).1 : Int) ≤ 1114111 := by have := dec_rune s pos; omega
      obtain ⟨f, rfl⟩ : ∃ f, fuel = f + 1 := ⟨fuel - 1, by omega⟩
      have HB : Hid ((acc ++ [((Utf8.decode s pos).1 : Int)]) ++ ptsFrom s f (pos + (Utf8.decode s pos).2) = pts s) := pp_step hp HA.out
      clear HA
      go_wp2_with (first | (go_at_call 29; refine (point_any s pos _ (by omega) hp).mono ?_; rintro e w' ⟨rfl, rfl⟩) | (at_builtin; refine wpList_append_own _ rfl _ _ 37 rfl w.heap.size 3 i0 (.int .i64 0) 1 8 Try.underlying37 hi hz0 hz1 hz2 rfl (by decide) _ _ _ rfl (hown.alloc _) ⟨_, 0, none⟩ 1 1 [.int .i64 (Utf8.decode s pos).1] rfl rfl ?c1 ?c2 ?c3 ?c4 ?c5 ?_))
      case c1 =>
        intro j u hj
        match j, hj with
        | 0, hj => simp at hj; subst hj; simp [Addr.add]
      case c2 => intro u hu; simp at hu; subst hu; rfl
      case c3 => unfold maxLen; omega
      case c4 => omega
      case c5 => simp; omega
      · intro v' w1 hown' hgrow _
        have hbw3 : Below w.heap.size w w1 := (hbw.alloc (by omega) _).grown hgrow (by simp; omega) (fun k hk => (hown.lt k hk).1)
        have hown3 := own_ints hown'
        clear hown' hgrow hbw hown
        go_wp2
        go_roundw
        case rel => exact ⟨pos + (Utf8.decode s pos).2, f, _, by go_num, hown3, hbw3, HB.out, by omega, by simp; omega, hle⟩
        case measure => simp [intOf]; omega
    · have HB : Hid (acc = pts s) := by
        have := HA.out; rw [ptsFrom_end s fuel pos hp, List.append_nil] at this; exact this
      clear HA
      go_wp2
      go_ret
      refine ⟨_, rfl, ?_, hbw⟩
      rw [← HB.out]
      exact hown


end Go.Proofs.Ytifhoeffkehcmaa
