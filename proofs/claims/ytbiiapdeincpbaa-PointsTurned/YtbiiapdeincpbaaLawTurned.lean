import Derived.Test.YtbiiapdeincpbaaRPoints
import Derived.Test.YtbiiapdeincpbaaLetter
namespace Go.Proofs.Ytbiiapdeincpbaa
open Go.RowKit Go.Shelf
set_option linter.unusedVariables false
set_option maxRecDepth 100000

theorem bytes_join (a b : List UInt8) : (⟨a.toArray⟩ : ByteArray) ++ (⟨b.toArray⟩ : ByteArray) = ⟨(a ++ b).toArray⟩ := by
  apply ByteArray.ext
  simp

theorem str_eq {a b : ByteArray} (h : a = b) : Value.string a = Value.string b := by rw [h]

set_option maxHeartbeats 1000000 in
theorem rtext_row (b off c : Nat) (zs : List Int) (w : World) (hz : zs.length ≤ 4398046511104) (hb : b < w.heap.size) (hc : ∀ j, j < zs.length → w.cell? ⟨b, off + j, none⟩ = some (.int .i64 (zs.getD j 0))) :
    Calls Try.prog 11 #[.slice (some ⟨b, off, none⟩) zs.length c] w fun e w' => e = .returned (.string ⟨(textOf zs).toArray⟩) ∧ Below w.heap.size w w' := by
  go_enter Try.func11, Try.ntmps11
  go_wp2
  go_loopw [3, 4] (fun v i wr => ∃ k : Nat, k ≤ zs.length ∧ i = .int .i64 k ∧ v = .string ⟨(textOf (zs.take k)).toArray⟩ ∧ Below w.heap.size w wr) (fun _ i _ => zs.length - (intOf i).toNat)
  case atStart => exact ⟨0, Nat.zero_le _, rfl, rfl, Below.refl _ w⟩
  case round =>
    obtain ⟨k, hk, rfl, rfl, hbw⟩ := hrel
    have hsz : w.heap.size ≤ wr.heap.size := hbw.size
    by_cases hlt : k < zs.length
    · have hcx : wr.cell? ⟨b, off + k, none⟩ = some (.int .i64 (zs.getD k 0)) := (hbw.cell (p := ⟨b, off + k, none⟩) hb).trans (hc k hlt)
      have htl := textOf_len (zs.take k)
      have htk : (zs.take k).length ≤ k := List.length_take_le _ _
      have hsn := take_snoc_int zs k hlt
      have HT : Hid (textOf (zs.take k) ++ Lib.encodeRune (zs.getD k 0) = textOf (zs.take (k + 1))) := by
        show _ = _
        rw [hsn, textOf_append, textOf_cons]
        simp [textOf]
      clear hsn
      have hel := enc_len (zs.getD k 0)
      generalize hzk : zs.getD k 0 = z at *
      have HZ : Hid (zs.getD k 0 = z) := hzk
      clear hzk
      go_wp2_with (go_at_call 32; refine (letter_any z _).mono ?_)
      rintro e W1 ⟨rfl, b1⟩
      generalize htx : textOf (zs.take k) = tx at *
      have hj := bytes_join tx (Lib.encodeRune z)
      generalize hen : Lib.encodeRune z = en at *
      go_wp2
      go_roundw
      case rel => exact ⟨k + 1, by omega, by go_num, str_eq (by first | (rw [hj, HT.out]) | (rw [HT.out]) | rw [← HT.out]), hbw.trans (b1.mono hsz)⟩
      case measure => simp [intOf]; omega
    · have HT : Hid (zs.take k = zs) := List.take_of_length_le (by omega)
      go_wp2
      go_ret
      exact ⟨by rw [HT.out]; rfl, hbw⟩

set_option maxHeartbeats 1000000 in
theorem rtext_empty (a : Option Addr) (c : Nat) (w : World) :
    Calls Try.prog 11 #[.slice a 0 c] w fun e w' => e = .returned (.string ⟨(textOf []).toArray⟩) ∧ Below w.heap.size w w' := by
  go_enter Try.func11, Try.ntmps11
  go_wp2
  refine wp_loop_rounds 1 ?_
  rw [rounds_succ]
  go_wp2
  go_ret
  exact ⟨rfl, Below.refl _ w⟩

theorem rtext_any (v : Value) (zs : List Int) (w : World) (hz : zs.length ≤ 4398046511104) (hv : Ints w v zs) :
    Calls Try.prog 11 #[v] w fun e w' => e = .returned (.string ⟨(textOf zs).toArray⟩) ∧ Below w.heap.size w w' := by
  rcases hv with ⟨rfl, a, c, rfl⟩ | ⟨b, off, c, rfl, hb, hc⟩
  · exact rtext_empty a c w
  · exact rtext_row b off c zs w hz hb hc

theorem same_any (v v' : Value) (zs : List Int) (w : World) (hz : zs.length ≤ 4398046511104) (hv : Ints w v zs) (hv' : Ints w v' zs) :
    Calls Try.prog 9 #[v, v'] w fun e w' => e = .returned (.bool true) ∧ ∃ n, w' = w.drewN n := by
  rcases hv with ⟨rfl, a, c, rfl⟩ | ⟨b, off, c, rfl, hb, hc⟩
  · rcases hv' with ⟨_, a', c', rfl⟩ | ⟨b', off', c', rfl, hb', hc'⟩
    · exact same_empty a a' c c' w
    · exact same_empty a _ c c' w
  · rcases hv' with ⟨rfl, a', c', rfl⟩ | ⟨b', off', c', rfl, hb', hc'⟩
    · exact same_empty _ a' c c' w
    · exact same_rows b off c b' off' c' zs w hz hb hc hb' hc'

theorem Ints.below {w w' : World} {B : Nat} {v : Value} {zs : List Int} (h : Ints w v zs) (hb : Below B w w') (hB : w.heap.size ≤ B) : Ints w' v zs := by
  rcases h with h | ⟨b, off, c, rfl, hlt, hc⟩
  · exact Or.inl h
  · have := hb.size
    refine Or.inr ⟨b, off, c, rfl, by omega, fun j hj => ?_⟩
    exact (hb.cell (p := ⟨b, off + j, none⟩) (by show b < B; omega)).trans (hc j hj)

theorem ints_slice {w : World} {v : Value} {zs : List Int} (h : Ints w v zs) : ∃ a c, v = .slice a zs.length c := by
  rcases h with ⟨rfl, a, c, rfl⟩ | ⟨b, off, c, rfl, _⟩
  · exact ⟨a, c, rfl⟩
  · exact ⟨_, _, rfl⟩

set_option maxHeartbeats 1000000 in
theorem law_turned (s : ByteArray) (v : Value) (zs : List Int) (w : World) (hs : s.size ≤ 140737488351232) (hz : zs.length ≤ 140737488351232) (hv : Ints w v zs) :
    Calls Try.prog 3 #[.string s, v] w fun e w' => e = .returned (.bool true) ∧ Below w.heap.size w w' := by
  obtain ⟨a0, c0, rfl⟩ := ints_slice hv
  by_cases hl : 2000 < s.size
  · go_enter Try.func3, Try.ntmps3
    go_wp2_with fail
    go_ret
    exact ⟨rfl, Below.refl _ _⟩
  · by_cases hl2 : 2000 < zs.length
    · go_enter Try.func3, Try.ntmps3
      go_wp2_with fail
      go_ret
      exact ⟨rfl, Below.refl _ _⟩
    · have hlb := (len_back s).1
      go_enter Try.func3, Try.ntmps3
      go_wp2_with (go_at_call 7; refine (ppoints_any s _ (by omega)).mono ?_)
      rintro e w1 ⟨v1, rfl, hown1, hb1, _⟩
      have hI1 := ints_of_own hown1
      clear hown1
      go_wp2_with (go_at_call 8; refine (rpoints_any s _ (by omega)).mono ?_)
      rintro e w2 ⟨v2, rfl, hown2, hb2⟩
      have hI2 := ints_of_own hown2
      have hI1' := hI1.below hb2 (Nat.le_refl _)
      clear hown2
      go_wp2_with (go_at_call 9; refine (same_any v1 v2 (pts s) _ (by omega) hI1' hI2).mono ?_)
      rintro e w3 ⟨rfl, nq, rfl⟩
      have hb2' : Below w.heap.size w (w2.drewN nq) := below_drewN (hb1.trans (hb2.mono hb1.size)) nq
      have hI := hv.below hb2' (Nat.le_refl _)
      go_wp2_with (go_at_call 10; refine (ptext_any _ zs _ (by omega) hI).mono ?_)
      rintro e w4 ⟨rfl, hb4⟩
      have hI4 := hI.below hb4 (Nat.le_refl _)
      have hb4' := hb2'.trans (hb4.mono hb2'.size)
      go_wp2_with (go_at_call 11; refine (rtext_any _ zs _ (by omega) hI4).mono ?_)
      rintro e w5 ⟨rfl, hb5⟩
      have hb5' := hb4'.trans (hb5.mono hb4'.size)
      clear hI hI4 hI1 hI1' hI2 hb1 hb2 hb2' hb4 hb4' hb5
      go_wp2
      go_ret
      exact ⟨rfl, hb5'⟩

end Go.Proofs.Ytbiiapdeincpbaa
