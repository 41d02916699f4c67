import Derived.Test.YtbiiapdeincpbaaLawBack
import Derived.BigQuiet
import Derived.Deep.QuietTactic
namespace Go.Proofs.Ytbiiapdeincpbaa
open Go.RowKit Go.Shelf
set_option linter.unusedVariables false
set_option maxRecDepth 100000

set_option maxHeartbeats 1000000 in
theorem rpoints_any (s : ByteArray) (w : World) (hs : s.size ≤ 17592186044416) :
    Calls Try.prog 8 #[.string s] w fun e w' => ∃ v, e = .returned v ∧ w'.ownsRow w.heap.size 3 1 v (pts s).length ((pts s).map (Value.int .i64)) ∧ Below w.heap.size w w' := by
  obtain ⟨i0, hi, hz0, hz1, hz2⟩ := info_parts Try.infoInt
  go_enter Try.func8, Try.ntmps8
  go_wp2
  go_loopw [3, 4] (fun v i wr => ∃ (pos fuel : Nat) (acc : List Int), i = .int .i64 pos ∧ wr.ownsRow w.heap.size 3 1 v acc.length (acc.map (Value.int .i64)) ∧ Below w.heap.size w wr ∧ acc ++ ptsFrom s fuel pos = pts s ∧ s.size ≤ pos + fuel ∧ acc.length ≤ pos ∧ pos ≤ s.size) (fun _ i _ => s.size - (intOf i).toNat)
  case atStart =>
    refine ⟨0, s.size, [], rfl, World.ownsRow_nil _ _ _ _, Below.refl _ w, rfl, by omega, by simp, by omega⟩
  case round =>
    obtain ⟨pos, fuel, acc, rfl, hown, hbw, hacc0, hfu, hal, hpl⟩ := hrel
    have HA : Hid (acc ++ ptsFrom s fuel pos = pts s) := hacc0
    clear hacc0
    have hsz : w.heap.size ≤ wr.heap.size := hbw.size
    by_cases hp : pos < s.size
    · have hwd := dec_width s pos
      have hle := dec_le s pos hp
      have hr1 : ((Utf8.decode s pos).1 : Int) ≤ 1114111 := by have := dec_rune s pos; omega
      obtain ⟨f, rfl⟩ : ∃ f, fuel = f + 1 := ⟨fuel - 1, by omega⟩
      have HB : Hid ((acc ++ [((Utf8.decode s pos).1 : Int)]) ++ ptsFrom s f (pos + (Utf8.decode s pos).2) = pts s) := pp_step hp HA.out
      clear HA
      go_wp2_with (first | (go_at_call 28; refine (point_any s pos _ (by omega) hp).mono ?_; rintro e w' ⟨rfl, rfl⟩) | (at_builtin; refine wpList_append_own _ rfl _ _ 22 rfl w.heap.size 3 i0 (.int .i64 0) 1 8 Try.underlying22 hi hz0 hz1 hz2 rfl (by decide) _ _ _ rfl (hown.alloc _) ⟨_, 0, none⟩ 1 1 [.int .i64 (Utf8.decode s pos).1] rfl rfl ?c1 ?c2 ?c3 ?c4 ?c5 ?_))
      case c1 =>
        intro j u hj
        match j, hj with
        | 0, hj => simp at hj; subst hj; simp [Addr.add]
      case c2 => intro u hu; simp at hu; subst hu; rfl
      case c3 => unfold maxLen; omega
      case c4 => omega
      case c5 => simp; omega
      · intro v' w1 hown' hgrow _
        have hbw3 : Below w.heap.size w w1 := (hbw.alloc (by omega) _).grown hgrow (by simp; omega) (fun k hk => (hown.lt k hk).1)
        have hown3 := own_ints hown'
        clear hown' hgrow hbw hown
        go_wp2
        go_roundw
        case rel => exact ⟨pos + (Utf8.decode s pos).2, f, _, by go_num, hown3, hbw3, HB.out, by omega, by simp; omega, hle⟩
        case measure => simp [intOf]; omega
    · have HB : Hid (acc = pts s) := by
        have := HA.out; rw [ptsFrom_end s fuel pos hp, List.append_nil] at this; exact this
      clear HA
      go_wp2
      go_ret
      refine ⟨_, rfl, ?_, hbw⟩
      rw [← HB.out]
      exact hown

set_option maxHeartbeats 1000000 in
theorem same_rows (b off c b' off' c' : Nat) (zs : List Int) (w : World) (hz : zs.length ≤ 4398046511104) (hb : b < w.heap.size) (hc : ∀ j, j < zs.length → w.cell? ⟨b, off + j, none⟩ = some (.int .i64 (zs.getD j 0))) (hb' : b' < w.heap.size) (hc' : ∀ j, j < zs.length → w.cell? ⟨b', off' + j, none⟩ = some (.int .i64 (zs.getD j 0))) :
    Calls Try.prog 9 #[.slice (some ⟨b, off, none⟩) zs.length c, .slice (some ⟨b', off', none⟩) zs.length c'] w fun e w' => e = .returned (.bool true) ∧ ∃ n, w' = w.drewN n := by
  go_enter Try.func9, Try.ntmps9
  go_wp2
  go_loopw [5] (fun i wr => ∃ k nq : Nat, k ≤ zs.length ∧ i = .int .i64 k ∧ wr = w.drewN nq) (fun i _ => zs.length - (intOf i).toNat)
  case atStart => exact ⟨0, 0, Nat.zero_le _, rfl, rfl⟩
  case round =>
    obtain ⟨k, nq, hk, rfl, rfl⟩ := hrel
    by_cases hlt : k < zs.length
    · have h1 := hc k hlt
      have h2 := hc' k hlt
      go_wp2
      go_quiet (fail)
      go_wp2
      go_roundw
      case rel => exact ⟨k + 1, _, by omega, by go_num, rfl⟩
      case measure => simp [intOf]; omega
    · go_wp2
      go_ret
      exact ⟨rfl, _, rfl⟩

set_option maxHeartbeats 1000000 in
theorem same_empty (a a' : Option Addr) (c c' : Nat) (w : World) :
    Calls Try.prog 9 #[.slice a 0 c, .slice a' 0 c'] w fun e w' => e = .returned (.bool true) ∧ ∃ n, w' = w.drewN n := by
  go_enter Try.func9, Try.ntmps9
  go_wp2
  refine wp_loop_rounds 1 ?_
  rw [rounds_succ]
  go_wp2
  go_ret
  exact ⟨rfl, 0, rfl⟩

end Go.Proofs.Ytbiiapdeincpbaa
