import Derived.Test.YtbiiapdeincpbaaBuilder
import Derived.Test.YtbiiapdeincpbaaPlain
namespace Go.Proofs.Ytbiiapdeincpbaa
open Go.RowKit Go.Shelf
set_option linter.unusedVariables false
set_option maxRecDepth 100000

def runeB (p : Int) : Int := if p < 0 ∨ 1114111 < p then 65533 else p
theorem runeB_enc (p : Int) : Lib.encodeRune (runeB p) = Lib.encodeRune p := by
  unfold runeB
  split
  · rename_i h
    unfold Lib.encodeRune
    rw [Lib.encodeRuneZ_bad (r := p) (by omega), Lib.encodeRuneZ_three (by omega)]
    decide
  · rfl
theorem runeB_bd (p : Int) : 0 ≤ runeB p ∧ runeB p ≤ 1114111 := by
  unfold runeB; split <;> omega

set_option maxHeartbeats 400000 in
theorem runeOf_any (p : Int) (w : World) : Calls Try.prog 30 #[.int .i64 p] w fun e w' => e = .returned (.int .i32 (runeB p)) ∧ w' = w := by
  by_cases h1 : p < 0
  · have e : runeB p = 65533 := by unfold runeB; rw [if_pos (by omega)]
    have E : Hid (runeB p = 65533) := e
    clear e
    go_enter Try.func30, Try.ntmps30
    go_wp2
    go_ret
    exact ⟨by rw [E.out]; rfl, rfl⟩
  · by_cases h2 : 1114111 < p
    · have e : runeB p = 65533 := by unfold runeB; rw [if_pos (by omega)]
      have E : Hid (runeB p = 65533) := e
      clear e
      go_enter Try.func30, Try.ntmps30
      go_wp2
      go_ret
      exact ⟨by rw [E.out]; rfl, rfl⟩
    · have e : runeB p = p := by unfold runeB; rw [if_neg (by omega)]
      have E : Hid (runeB p = p) := e
      clear e
      have h3 : 0 ≤ p := by omega
      have h4 : p ≤ 1114111 := by omega
      go_enter Try.func30, Try.ntmps30
      go_wp2
      go_ret
      exact ⟨by rw [E.out]; rfl, rfl⟩

/-- what the walk is told of a slice of ints: nil or empty, or a row of cells -/
def Ints (w : World) (v : Value) (zs : List Int) : Prop :=
  (zs = [] ∧ ∃ a c, v = .slice a 0 c) ∨ ∃ b off c, v = .slice (some ⟨b, off, none⟩) zs.length c ∧ b < w.heap.size ∧ ∀ j, j < zs.length → w.cell? ⟨b, off + j, none⟩ = some (.int .i64 (zs.getD j 0))

theorem take_snoc_int (zs : List Int) (k : Nat) (h : k < zs.length) : zs.take (k + 1) = zs.take k ++ [zs.getD k 0] := by
  rw [List.take_succ_eq_append_getElem h]
  simp [List.getD_eq_getElem?_getD, h]

set_option maxHeartbeats 1000000 in
theorem ptext_row (b off c : Nat) (zs : List Int) (w : World) (hz : zs.length ≤ 4398046511104) (hb : b < w.heap.size) (hc : ∀ j, j < zs.length → w.cell? ⟨b, off + j, none⟩ = some (.int .i64 (zs.getD j 0))) :
    Calls Try.prog 10 #[.slice (some ⟨b, off, none⟩) zs.length c] w fun e w' => e = .returned (.string ⟨(textOf zs).toArray⟩) ∧ Below w.heap.size w w' := by
  go_enter Try.func10, Try.ntmps10
  go_wp2
  go_loopw [8] (fun i wr => ∃ k : Nat, k ≤ zs.length ∧ i = .int .i64 k ∧ Lib.IsBuilderF 45 5 w.heap.size w.heap.size (Lib.byteCells (textOf (zs.take k))) wr ∧ Below w.heap.size w wr) (fun i _ => zs.length - (intOf i).toNat)
  case atStart =>
    exact ⟨0, Nat.zero_le _, rfl, Lib.IsBuilderF.of (Lib.fresh_isBuilder 45 5 w), (Below.refl _ w).alloc (Nat.le_refl _) _⟩
  case round =>
    obtain ⟨k, hk, rfl, hI, hbw⟩ := hrel
    have hsz : w.heap.size ≤ wr.heap.size := hbw.size
    by_cases hlt : k < zs.length
    · have hcx : wr.cell? ⟨b, off + k, none⟩ = some (.int .i64 (zs.getD k 0)) := (hbw.cell (p := ⟨b, off + k, none⟩) hb).trans (hc k hlt)
      have hrb := runeB_bd (zs.getD k 0)
      have htl := textOf_len (zs.take k)
      have htk : (zs.take k).length ≤ k := List.length_take_le _ _
      have hsn := take_snoc_int zs k hlt
      have HT : Hid (Lib.byteCells (textOf (zs.take (k + 1))) = Lib.byteCells (textOf (zs.take k)) ++ Lib.runeCells (runeB (zs.getD k 0))) := by
        show _ = _
        rw [hsn, textOf_append, Lib.byteCells_append, textOf_cons, ← runeB_enc, ← Lib.byteCells_encodeRune]
        simp [textOf]
      clear hsn
      generalize hzk : zs.getD k 0 = z at *
      have HZ : Hid (zs.getD k 0 = z) := hzk
      clear hzk
      go_wp2_with (first | (go_at_call 30; refine (runeOf_any z _).mono ?_; rintro e w' ⟨rfl, rfl⟩) | (go_at_call 29; refine (writeRune_k w.heap.size w.heap.size _ _ (by omega) (by omega) _ hI (by rw [Lib.byteCells_length]; omega) hsz).mono ?_))
      rintro e W1 ⟨rfl, h1, b1, k1⟩
      go_wp2
      go_roundw
      case rel => exact ⟨k + 1, by omega, by go_num, by rw [HT.out]; exact Or.inr h1, hbw.trans b1⟩
      case measure => simp [intOf]; omega
    · have HT : Hid (zs.take k = zs) := List.take_of_length_le (by omega)
      go_wp2_with (go_at_call 31; refine (Try.Builder_String_any_k w.heap.size w.heap.size _ _ hI hsz).mono ?_)
      rintro e W1 ⟨rfl, _, b1, _⟩
      go_wp2
      go_ret
      exact ⟨by rw [HT.out]; rfl, hbw.trans b1⟩

end Go.Proofs.Ytbiiapdeincpbaa
