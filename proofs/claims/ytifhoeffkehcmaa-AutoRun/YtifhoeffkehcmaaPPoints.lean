import Derived.Test.YtifhoeffkehcmaaPlain
import Derived.Test.YtifhoeffkehcmaaProg
import Derived.WalkKit
import Derived.WalkSpells
import Derived.WalkLawsBesides
import Derived.Lib.OthersKept
namespace Go.Proofs.Ytifhoeffkehcmaa
open Go.RowKit
set_option linter.unusedVariables false
set_option maxRecDepth 100000

theorem Try.infoInt : (Try.prog.info? 3).map (fun i => (i.zero, i.size, i.bytes)) = some (some (.int .i64 0), 1, 8) := by kernel_rfl

theorem pp_step {s : ByteArray} {pos f : Nat} {acc : List Int} (hp : pos < s.size) (h : acc ++ ptsFrom s (f + 1) pos = pts s) : (acc ++ [((Utf8.decode s pos).1 : Int)]) ++ ptsFrom s f (pos + (Utf8.decode s pos).2) = pts s := by
  rw [← h, ptsFrom_step s f pos hp]; simp

theorem own_ints {w : World} {B e : Nat} {v : Value} {acc : List Int} {z : Int} (h : w.ownsRow B e 1 v (acc.length + 1) (acc.map (Value.int .i64) ++ [Value.int .i64 z])) : w.ownsRow B e 1 v (acc ++ [z]).length ((acc ++ [z]).map (Value.int .i64)) := by
  simpa using h

set_option maxHeartbeats 1000000 in
theorem ppoints_any (s : ByteArray) (w : World) (hs : s.size ≤ 17592186044416) :
    Calls Try.prog 15 #[.string s] w fun e w' => ∃ v, e = .returned v ∧ w'.ownsRow (w.heap.size + 1) 3 1 v (pts s).length ((pts s).map (Value.int .i64)) ∧ Below w.heap.size w w' ∧ w.heap.size + 1 ≤ w'.heap.size := by
  obtain ⟨i0, hi, hz0, hz1, hz2⟩ := info_parts Try.infoInt
  go_enter Try.func15, Try.ntmps15
  go_wp2
  go_loopw [3] (fun v wr => ∃ (pos fuel : Nat) (acc : List Int), wr.ownsRow (w.heap.size + 1) 3 1 v acc.length (acc.map (Value.int .i64)) ∧ wr.heap[w.heap.size]? = some (.stringIter s pos) ∧ Below w.heap.size w wr ∧ acc ++ ptsFrom s fuel pos = pts s ∧ s.size ≤ pos + fuel ∧ acc.length ≤ pos ∧ pos ≤ s.size ∧ w.heap.size + 1 ≤ wr.heap.size) (fun _ wr => s.size - wr.iterPos w.heap.size)
  case atStart =>
    refine ⟨0, s.size, [], World.ownsRow_nil _ _ _ _, World.iter_heap w s 0, (Below.refl _ w).alloc (Nat.le_refl _) _, rfl, by omega, by simp, by omega, by simp [World.iter]⟩
  case round =>
    obtain ⟨pos, fuel, acc, hown, hit, hbw, hacc0, hfu, hal, hpl, hsz⟩ := hrel
    have HA : Hid (acc ++ ptsFrom s fuel pos = pts s) := hacc0
    clear hacc0
    by_cases hp : pos < s.size
    · have hnx : ∀ ty, (Instr.next (.pointer (some ⟨w.heap.size, 0, none⟩)) true ty).run Try.prog wr = _ := fun ty => Lib.run_next_any_at wr w.heap.size s pos ty hit hp
      have hwd := dec_width s pos
      have hle := dec_le s pos hp
      have hr1 : ((Utf8.decode s pos).1 : Int) ≤ 1114111 := by have := dec_rune s pos; omega
      have hown2 := ownsRow_iterAt hown (k := w.heap.size) (by omega) s (pos + (Utf8.decode s pos).2)
      have hit2 := Lib.iterAt_heap wr w.heap.size s pos (pos + (Utf8.decode s pos).2) hit
      have hbw2 := Lib.below_iterAt hbw (k := w.heap.size) (Nat.le_refl _) s (pos + (Utf8.decode s pos).2)
      have hsz2 : w.heap.size + 1 ≤ (wr.iterAt w.heap.size s (pos + (Utf8.decode s pos).2)).heap.size := by rw [Lib.iterAt_size]; exact hsz
      obtain ⟨f, rfl⟩ : ∃ f, fuel = f + 1 := ⟨fuel - 1, by omega⟩
      have HB : Hid ((acc ++ [((Utf8.decode s pos).1 : Int)]) ++ ptsFrom s f (pos + (Utf8.decode s pos).2) = pts s) := pp_step hp HA.out
      clear HA hown hbw
      go_wp2_with (at_builtin; refine wpList_append_own _ rfl _ _ 37 rfl (w.heap.size + 1) 3 i0 (.int .i64 0) 1 8 Try.underlying37 hi hz0 hz1 hz2 rfl (by decide) _ _ _ rfl (hown2.alloc _) ⟨(wr.iterAt w.heap.size s (pos + (Utf8.decode s pos).2)).heap.size, 0, none⟩ 1 1 [.int .i64 (Utf8.decode s pos).1] rfl rfl ?c1 ?c2 ?c3 ?c4 ?c5 ?_)
      case c1 =>
        intro j u hj
        match j, hj with
        | 0, hj => simp at hj; subst hj; simp [Addr.add]
      case c2 => intro u hu; simp at hu; subst hu; rfl
      case c3 => unfold maxLen; omega
      case c4 => omega
      case c5 => simp; omega
      · intro v' w1 hown' hgrow _
        have hne : u3.ownBlock ≠ some w.heap.size := by
          intro e1
          have := (hown2.lt _ e1).1
          omega
        have hlt : w.heap.size < (wr.iterAt w.heap.size s (pos + (Utf8.decode s pos).2)).heap.size := by omega
        have hit3 : w1.heap[w.heap.size]? = some (.stringIter s (pos + (Utf8.decode s pos).2)) := by
          rw [hgrow.block w.heap.size (by simp; omega) (fun e1 => hne e1.symm), Lib.alloc_old _ _ _ hlt]; exact hit2
        have hbw3 : Below w.heap.size w w1 := (hbw2.alloc (by omega) _).grown hgrow (by simp; omega) (fun k hk => by have := (hown2.lt k hk).1; omega)
        have hsz3 : w.heap.size + 1 ≤ w1.heap.size := by have := hgrow.size; simp at this; omega
        have hown3 := own_ints hown'
        clear hown' hgrow hbw2 hown2
        go_wp2
        go_roundw
        case rel => exact ⟨pos + (Utf8.decode s pos).2, f, _, hown3, hit3, hbw3, HB.out, by omega, by simp; omega, hle, hsz3⟩
        case measure =>
          simp only [World.iterPos, hit3, hit]
          omega
    · have hnx : ∀ ty, (Instr.next (.pointer (some ⟨w.heap.size, 0, none⟩)) true ty).run Try.prog wr = _ := fun ty => Lib.run_next_end_at wr w.heap.size s pos ty hit hp
      have HB : Hid (acc = pts s) := by
        have := HA.out; rw [ptsFrom_end s fuel pos hp, List.append_nil] at this; exact this
      clear HA
      go_wp2
      go_ret
      refine ⟨_, rfl, ?_, hbw, hsz⟩
      rw [← HB.out]
      exact hown

end Go.Proofs.Ytifhoeffkehcmaa
