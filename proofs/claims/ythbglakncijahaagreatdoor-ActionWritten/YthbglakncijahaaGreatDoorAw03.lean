/- Texts of the proof, put together: Plain, Point, PointB. -/
import Derived.Lib.MapLaws
import Derived.Lib.RuneBytes
import Derived.Test.YthbglakncijahaaGreatDoorProg
import Derived.WalkKit
import Derived.WalkSpells
import Derived.WalkLawsBesides
namespace Go.Proofs.YthbglakncijahaaGreatDoor
open Go.Lib

/-- does the place hold a code point? -/
def okAt (s : ByteArray) (pos : Nat) : Bool := !((Utf8.decode s pos).1 == 65533 && (Utf8.decode s pos).2 == 1)

def ptsFrom (s : ByteArray) : Nat → Nat → List Int
  | 0, _ => []
  | f + 1, pos => if pos < s.size then ((Utf8.decode s pos).1 : Int) :: ptsFrom s f (pos + (Utf8.decode s pos).2) else []
def pts (s : ByteArray) : List Int := ptsFrom s s.size 0

def wholeFrom (s : ByteArray) : Nat → Nat → Bool
  | 0, _ => true
  | f + 1, pos => if pos < s.size then okAt s pos && wholeFrom s f (pos + (Utf8.decode s pos).2) else true
def whole (s : ByteArray) : Bool := wholeFrom s s.size 0

def textOf (l : List Int) : List UInt8 := l.flatMap encodeRune

theorem dec_width (s : ByteArray) (pos : Nat) : 1 ≤ (Utf8.decode s pos).2 := by
  rw [← decodeL_drop]; exact decodeL_width _

theorem dec_rune (s : ByteArray) (pos : Nat) : (Utf8.decode s pos).1 ≤ 1114111 := by
  rw [← decodeL_drop]; exact decodeL_rune _

theorem dec_le (s : ByteArray) (pos : Nat) (h : pos < s.size) : pos + (Utf8.decode s pos).2 ≤ s.size := by
  rw [← decodeL_drop]
  have hne : s.data.toList.drop pos ≠ [] := by
    intro e
    have := congrArg List.length e
    simp at this
    have h2 : s.size = s.data.size := rfl
    omega
  have := decodeL_le _ hne
  simp at this
  have h2 : s.size = s.data.size := rfl
  omega

theorem dec_four (s : ByteArray) (pos : Nat) : (Utf8.decode s pos).2 ≤ 4 := by
  rw [← decodeL_drop, decodeL_N]
  rcases decodeN_shape (s.data.toList.drop pos).length ((s.data.toList.drop pos).getD 0 0).toNat ((s.data.toList.drop pos).getD 1 0).toNat ((s.data.toList.drop pos).getD 2 0).toNat ((s.data.toList.drop pos).getD 3 0).toNat with ⟨c, e⟩ | ⟨c1, c2, c3, cv, e⟩ | ⟨c1, c2, c3, c4, cv, cs, e⟩ | ⟨c1, c2, c3, c4, c5, cv, cw, e⟩ | e
  all_goals (rw [e]; dsimp only; omega)

theorem enc_dec (s : ByteArray) (pos : Nat) (h : pos < s.size) (ho : okAt s pos = true) : encodeRune ((Utf8.decode s pos).1 : Int) = (s.data.toList.drop pos).take (Utf8.decode s pos).2 := by
  have hne : s.data.toList.drop pos ≠ [] := by
    intro e
    have := congrArg List.length e
    simp at this
    have h2 : s.size = s.data.size := rfl
    omega
  have hd := decodeL_drop s pos
  have := encode_decode _ hne (by
    rw [hd]
    intro ⟨h1, h2⟩
    simp [okAt, h1, h2] at ho)
  rw [hd] at this
  exact this

theorem ptsFrom_end (s : ByteArray) (f pos : Nat) (h : ¬ pos < s.size) : ptsFrom s f pos = [] := by
  cases f with
  | zero => rfl
  | succ f => simp [ptsFrom, h]
theorem ptsFrom_step (s : ByteArray) (f pos : Nat) (h : pos < s.size) : ptsFrom s (f + 1) pos = ((Utf8.decode s pos).1 : Int) :: ptsFrom s f (pos + (Utf8.decode s pos).2) := by
  simp [ptsFrom, h]
theorem wholeFrom_end (s : ByteArray) (f pos : Nat) (h : ¬ pos < s.size) : wholeFrom s f pos = true := by
  cases f with
  | zero => rfl
  | succ f => simp [wholeFrom, h]
theorem wholeFrom_step (s : ByteArray) (f pos : Nat) (h : pos < s.size) : wholeFrom s (f + 1) pos = (okAt s pos && wholeFrom s f (pos + (Utf8.decode s pos).2)) := by
  simp [wholeFrom, h]

theorem textOf_cons (z : Int) (l : List Int) : textOf (z :: l) = encodeRune z ++ textOf l := by simp [textOf]
theorem textOf_append (a b : List Int) : textOf (a ++ b) = textOf a ++ textOf b := by simp [textOf]

/-- A whole text is the text of its points. -/
theorem text_pts (s : ByteArray) : ∀ (f pos : Nat), s.size ≤ pos + f → wholeFrom s f pos = true → textOf (ptsFrom s f pos) = s.data.toList.drop pos
  | 0, pos, h, _ => by
    have h2 : s.size = s.data.size := rfl
    rw [List.drop_eq_nil_of_le (by simp; omega)]
    rfl
  | f + 1, pos, h, hw => by
    have h2 : s.size = s.data.size := rfl
    by_cases hp : pos < s.size
    · rw [wholeFrom_step s f pos hp, Bool.and_eq_true] at hw
      have hwd := dec_width s pos
      rw [ptsFrom_step s f pos hp, textOf_cons, enc_dec s pos hp hw.1, text_pts s f _ (by omega) hw.2, ← List.drop_drop, List.take_append_drop]
    · rw [ptsFrom_end s _ pos hp, List.drop_eq_nil_of_le (by simp; omega)]
      rfl

theorem pts_len (s : ByteArray) : ∀ (f pos : Nat), s.size ≤ pos + f → pos ≤ s.size → pos + (ptsFrom s f pos).length ≤ s.size ∧ s.size ≤ pos + 4 * (ptsFrom s f pos).length
  | 0, pos, h, hq => by simp [ptsFrom]; omega
  | f + 1, pos, h, hq => by
    by_cases hp : pos < s.size
    · have hwd := dec_width s pos
      have hw4 := dec_four s pos
      have hle := dec_le s pos hp
      have ih := pts_len s f (pos + (Utf8.decode s pos).2) (by omega) hle
      rw [ptsFrom_step s f pos hp, List.length_cons]
      omega
    · rw [ptsFrom_end s _ pos hp]
      simp; omega

theorem text_back (s : ByteArray) (h : whole s = true) : textOf (pts s) = s.data.toList := by
  have := text_pts s s.size 0 (by omega) h
  simpa [pts] using this
theorem len_back (s : ByteArray) : (pts s).length ≤ s.size ∧ s.size ≤ 4 * (pts s).length := by
  have := pts_len s s.size 0 (by omega) (by omega)
  simpa [pts] using this

theorem enc_len (z : Int) : 1 ≤ (encodeRune z).length ∧ (encodeRune z).length ≤ 4 := by
  have := encodeRuneZ_length z
  simpa [encodeRune] using this
theorem textOf_len (l : List Int) : (textOf l).length ≤ 4 * l.length := by
  induction l with
  | nil => simp [textOf]
  | cons z l ih => rw [textOf_cons, List.length_append, List.length_cons]; have := enc_len z; omega

end Go.Proofs.YthbglakncijahaaGreatDoor

namespace Go.Proofs.YthbglakncijahaaGreatDoor
open Go.RowKit
set_option linter.unusedVariables false
set_option linter.unusedSimpArgs false
set_option maxRecDepth 100000

def byteAt (s : ByteArray) (k : Nat) : Nat := (s.get! k).toNat
def folB (s : ByteArray) (k : Nat) (lo hi : Int) : Bool := decide (k < s.size) && (decide (lo ≤ (byteAt s k : Int)) && decide ((byteAt s k : Int) ≤ hi))

theorem byteAt_get (s : ByteArray) (k : Nat) (h : k < s.size) : byteAt s k = s[k].toNat := by
  unfold byteAt
  have := get_at s k h
  rw [Nat.add_zero] at this
  rw [this]
theorem byteAt_lt (s : ByteArray) (k : Nat) : byteAt s k < 256 := (s.get! k).toNat_lt
theorem wrap_byte (b : UInt8) : wrap64 (b.toNat : Int) = (b.toNat : Int) := by
  have := b.toNat_lt
  unfold wrap64; omega

set_option maxHeartbeats 400000 in
theorem follow_any (s : ByteArray) (k : Nat) (lo hi : Int) (w : World) (hs : s.size ≤ 140737488351232) :
    Calls Tryz.prog 175 #[.string s, .int .i64 k, .int .i64 lo, .int .i64 hi] w fun e w' => e = .returned (.bool (folB s k lo hi)) ∧ w' = w := by
  by_cases hlt : k < s.size
  · have hg := byteAt_get s k hlt
    have hw := wrap_byte s[k]
    by_cases h1 : lo ≤ (s[k].toNat : Int)
    · by_cases h2 : (s[k].toNat : Int) ≤ hi
      · go_enter Tryz.func175, Tryz.ntmps175
        go_wp2
        go_ret
        exact ⟨by simp [folB, hlt, hg, h1, h2], rfl⟩
      · go_enter Tryz.func175, Tryz.ntmps175
        go_wp2
        go_ret
        exact ⟨by simp [folB, hlt, hg, h1, h2], rfl⟩
    · go_enter Tryz.func175, Tryz.ntmps175
      go_wp2
      go_ret
      exact ⟨by simp [folB, hlt, hg]; intro h; omega, rfl⟩
  · go_enter Tryz.func175, Tryz.ntmps175
    go_wp2
    go_ret
    exact ⟨by simp [folB, hlt], rfl⟩

set_option maxHeartbeats 400000 in
theorem pt_ascii (s : ByteArray) (k : Nat) (w : World) (hs : s.size ≤ 140737488351232) (hk : k < s.size) (c1 : (s[k].toNat : Int) < 128) :
    Calls Tryz.prog 150 #[.string s, .int .i64 k] w fun e w' => e = .returned (.tuple #[.int .i64 s[k].toNat, .int .i64 1, .bool true]) ∧ w' = w := by
  have hw := wrap_byte s[k]
  go_enter Tryz.func150, Tryz.ntmps150
  go_wp2
  go_ret3
  exact ⟨rfl, rfl⟩

set_option maxHeartbeats 1000000 in
theorem pt_2_f (s : ByteArray) (k : Nat) (w : World) (hs : s.size ≤ 140737488351232) (hk : k < s.size)  (c1 : 194 ≤ (s[k].toNat : Int)) (c2 : (s[k].toNat : Int) ≤ 223) (f1 : folB s (k + 1) 128 191 = false) :
    Calls Tryz.prog 150 #[.string s, .int .i64 k] w fun e w' => e = .returned (.tuple #[.int .i64 65533, .int .i64 1, .bool false]) ∧ w' = w := by
  have hw := wrap_byte s[k]
  go_enter Tryz.func150, Tryz.ntmps150
  go_wp2_with (go_at_call 175; refine (follow_any s (k + 1) 128 191 _ hs).mono ?_; rintro e w' ⟨rfl, rfl⟩)
  refine wp_loop_rounds 1 ?_
  rw [rounds_succ]
  go_wp2_with fail
  go_ret3
  exact ⟨rfl, rfl⟩

set_option maxHeartbeats 1000000 in
theorem pt_2_t (s : ByteArray) (k : Nat) (w : World) (hs : s.size ≤ 140737488351232) (hk : k < s.size) (hk1 : k + 1 < s.size) (c1 : 194 ≤ (s[k].toNat : Int)) (c2 : (s[k].toNat : Int) ≤ 223) (f1 : folB s (k + 1) 128 191 = true) :
    Calls Tryz.prog 150 #[.string s, .int .i64 k] w fun e w' => e = .returned (.tuple #[.int .i64 (((s[k].toNat : Int) - 192) * 64 + s[k + 1].toNat - 128), .int .i64 2, .bool true]) ∧ w' = w := by
  have hw := wrap_byte s[k]
  have hw1 := wrap_byte s[k + 1]
  have hb1 : (s[k + 1].toNat : Int) ≤ 255 := by have := s[k + 1].toNat_lt; omega
  go_enter Tryz.func150, Tryz.ntmps150
  go_wp2_with (go_at_call 175; refine (follow_any s (k + 1) 128 191 _ hs).mono ?_; rintro e w' ⟨rfl, rfl⟩)
  refine wp_loop_rounds 1 ?_
  rw [rounds_succ]
  go_wp2_with fail
  refine wp_loop_rounds 2 ?_
  rw [rounds_succ]
  go_wp2_with fail
  rw [rounds_succ]
  go_wp2_with fail
  go_ret3
  exact ⟨rfl, rfl⟩

set_option maxHeartbeats 1000000 in
theorem pt_z (s : ByteArray) (k : Nat) (w : World) (hs : s.size ≤ 140737488351232) (hk : k < s.size) (c1 : 128 ≤ (s[k].toNat : Int)) (c2 : (s[k].toNat : Int) < 194 ∨ 244 < (s[k].toNat : Int)) :
    Calls Tryz.prog 150 #[.string s, .int .i64 k] w fun e w' => e = .returned (.tuple #[.int .i64 65533, .int .i64 1, .bool false]) ∧ w' = w := by
  have hw := wrap_byte s[k]
  rcases c2 with c2 | c2
  all_goals
    go_enter Tryz.func150, Tryz.ntmps150
    go_wp2_with fail
    refine wp_loop_rounds 1 ?_
    rw [rounds_succ]
    go_wp2_with fail
    go_ret3
    exact ⟨rfl, rfl⟩


end Go.Proofs.YthbglakncijahaaGreatDoor

namespace Go.Proofs.YthbglakncijahaaGreatDoor
open Go.RowKit
set_option linter.unusedVariables false
set_option linter.unusedSimpArgs false
set_option maxRecDepth 100000

set_option maxHeartbeats 1000000 in
theorem pt_3a_f (s : ByteArray) (k : Nat) (w : World) (hs : s.size ≤ 140737488351232) (hk : k < s.size)  (c1 : 224 ≤ (s[k].toNat : Int)) (c2 : (s[k].toNat : Int) ≤ 224) (f1 : folB s (k + 1) 160 191 = false) :
    Calls Tryz.prog 150 #[.string s, .int .i64 k] w fun e w' => e = .returned (.tuple #[.int .i64 65533, .int .i64 1, .bool false]) ∧ w' = w := by
  have hw := wrap_byte s[k]
  have e0 : ((s[k].toNat : Int) == 224) = true := by rw [beq_iff_eq]; omega
  have e1 : ((s[k].toNat : Int) == 237) = false := by rw [beq_eq_false_iff_ne]; omega
  go_enter Tryz.func150, Tryz.ntmps150
  go_wp2_with (go_at_call 175; refine (follow_any s (k + 1) 160 191 _ hs).mono ?_; rintro e w' ⟨rfl, rfl⟩)
  refine wp_loop_rounds 1 ?_
  rw [rounds_succ]
  go_wp2_with fail
  go_ret3
  exact ⟨rfl, rfl⟩

set_option maxHeartbeats 1000000 in
theorem pt_3a_tf (s : ByteArray) (k : Nat) (w : World) (hs : s.size ≤ 140737488351232) (hk : k < s.size)  (c1 : 224 ≤ (s[k].toNat : Int)) (c2 : (s[k].toNat : Int) ≤ 224) (f1 : folB s (k + 1) 160 191 = true) (f2 : folB s (k + 2) 128 191 = false) :
    Calls Tryz.prog 150 #[.string s, .int .i64 k] w fun e w' => e = .returned (.tuple #[.int .i64 65533, .int .i64 1, .bool false]) ∧ w' = w := by
  have hw := wrap_byte s[k]
  have e0 : ((s[k].toNat : Int) == 224) = true := by rw [beq_iff_eq]; omega
  have e1 : ((s[k].toNat : Int) == 237) = false := by rw [beq_eq_false_iff_ne]; omega
  go_enter Tryz.func150, Tryz.ntmps150
  go_wp2_with (go_at_call 175; refine (follow_any s (k + 1) 160 191 _ hs).mono ?_; rintro e w' ⟨rfl, rfl⟩)
  refine wp_loop_rounds 2 ?_
  rw [rounds_succ]
  go_wp2_with (go_at_call 175; refine (follow_any s (k + 2) 128 191 _ hs).mono ?_; rintro e w' ⟨rfl, rfl⟩)
  rw [rounds_succ]
  go_wp2_with fail
  go_ret3
  exact ⟨rfl, rfl⟩

set_option maxHeartbeats 1000000 in
theorem pt_3a_tt (s : ByteArray) (k : Nat) (w : World) (hs : s.size ≤ 140737488351232) (hk : k < s.size) (hk1 : k + 1 < s.size) (hk2 : k + 2 < s.size) (c1 : 224 ≤ (s[k].toNat : Int)) (c2 : (s[k].toNat : Int) ≤ 224) (f1 : folB s (k + 1) 160 191 = true) (f2 : folB s (k + 2) 128 191 = true) :
    Calls Tryz.prog 150 #[.string s, .int .i64 k] w fun e w' => e = .returned (.tuple #[.int .i64 ((((s[k].toNat : Int) - 224) * 64 + s[k + 1].toNat - 128) * 64 + s[k + 2].toNat - 128), .int .i64 3, .bool true]) ∧ w' = w := by
  have hw := wrap_byte s[k]
  have e0 : ((s[k].toNat : Int) == 224) = true := by rw [beq_iff_eq]; omega
  have e1 : ((s[k].toNat : Int) == 237) = false := by rw [beq_eq_false_iff_ne]; omega
  have hw1 := wrap_byte s[k + 1]
  have hb1 : (s[k + 1].toNat : Int) ≤ 255 := by have := s[k + 1].toNat_lt; omega
  have hw2 := wrap_byte s[k + 2]
  have hb2 : (s[k + 2].toNat : Int) ≤ 255 := by have := s[k + 2].toNat_lt; omega
  go_enter Tryz.func150, Tryz.ntmps150
  go_wp2_with (go_at_call 175; refine (follow_any s (k + 1) 160 191 _ hs).mono ?_; rintro e w' ⟨rfl, rfl⟩)
  refine wp_loop_rounds 2 ?_
  rw [rounds_succ]
  go_wp2_with (go_at_call 175; refine (follow_any s (k + 2) 128 191 _ hs).mono ?_; rintro e w' ⟨rfl, rfl⟩)
  rw [rounds_succ]
  go_wp2_with fail
  refine wp_loop_rounds 3 ?_
  rw [rounds_succ]
  go_wp2_with fail
  rw [rounds_succ]
  go_wp2_with fail
  rw [rounds_succ]
  go_wp2_with fail
  go_ret3
  exact ⟨rfl, rfl⟩

set_option maxHeartbeats 1000000 in
theorem pt_3b_f (s : ByteArray) (k : Nat) (w : World) (hs : s.size ≤ 140737488351232) (hk : k < s.size)  (c1 : 237 ≤ (s[k].toNat : Int)) (c2 : (s[k].toNat : Int) ≤ 237) (f1 : folB s (k + 1) 128 159 = false) :
    Calls Tryz.prog 150 #[.string s, .int .i64 k] w fun e w' => e = .returned (.tuple #[.int .i64 65533, .int .i64 1, .bool false]) ∧ w' = w := by
  have hw := wrap_byte s[k]
  have e0 : ((s[k].toNat : Int) == 224) = false := by rw [beq_eq_false_iff_ne]; omega
  have e1 : ((s[k].toNat : Int) == 237) = true := by rw [beq_iff_eq]; omega
  go_enter Tryz.func150, Tryz.ntmps150
  go_wp2_with (go_at_call 175; refine (follow_any s (k + 1) 128 159 _ hs).mono ?_; rintro e w' ⟨rfl, rfl⟩)
  refine wp_loop_rounds 1 ?_
  rw [rounds_succ]
  go_wp2_with fail
  go_ret3
  exact ⟨rfl, rfl⟩

set_option maxHeartbeats 1000000 in
theorem pt_3b_tf (s : ByteArray) (k : Nat) (w : World) (hs : s.size ≤ 140737488351232) (hk : k < s.size)  (c1 : 237 ≤ (s[k].toNat : Int)) (c2 : (s[k].toNat : Int) ≤ 237) (f1 : folB s (k + 1) 128 159 = true) (f2 : folB s (k + 2) 128 191 = false) :
    Calls Tryz.prog 150 #[.string s, .int .i64 k] w fun e w' => e = .returned (.tuple #[.int .i64 65533, .int .i64 1, .bool false]) ∧ w' = w := by
  have hw := wrap_byte s[k]
  have e0 : ((s[k].toNat : Int) == 224) = false := by rw [beq_eq_false_iff_ne]; omega
  have e1 : ((s[k].toNat : Int) == 237) = true := by rw [beq_iff_eq]; omega
  go_enter Tryz.func150, Tryz.ntmps150
  go_wp2_with (go_at_call 175; refine (follow_any s (k + 1) 128 159 _ hs).mono ?_; rintro e w' ⟨rfl, rfl⟩)
  refine wp_loop_rounds 2 ?_
  rw [rounds_succ]
  go_wp2_with (go_at_call 175; refine (follow_any s (k + 2) 128 191 _ hs).mono ?_; rintro e w' ⟨rfl, rfl⟩)
  rw [rounds_succ]
  go_wp2_with fail
  go_ret3
  exact ⟨rfl, rfl⟩

set_option maxHeartbeats 1000000 in
theorem pt_3b_tt (s : ByteArray) (k : Nat) (w : World) (hs : s.size ≤ 140737488351232) (hk : k < s.size) (hk1 : k + 1 < s.size) (hk2 : k + 2 < s.size) (c1 : 237 ≤ (s[k].toNat : Int)) (c2 : (s[k].toNat : Int) ≤ 237) (f1 : folB s (k + 1) 128 159 = true) (f2 : folB s (k + 2) 128 191 = true) :
    Calls Tryz.prog 150 #[.string s, .int .i64 k] w fun e w' => e = .returned (.tuple #[.int .i64 ((((s[k].toNat : Int) - 224) * 64 + s[k + 1].toNat - 128) * 64 + s[k + 2].toNat - 128), .int .i64 3, .bool true]) ∧ w' = w := by
  have hw := wrap_byte s[k]
  have e0 : ((s[k].toNat : Int) == 224) = false := by rw [beq_eq_false_iff_ne]; omega
  have e1 : ((s[k].toNat : Int) == 237) = true := by rw [beq_iff_eq]; omega
  have hw1 := wrap_byte s[k + 1]
  have hb1 : (s[k + 1].toNat : Int) ≤ 255 := by have := s[k + 1].toNat_lt; omega
  have hw2 := wrap_byte s[k + 2]
  have hb2 : (s[k + 2].toNat : Int) ≤ 255 := by have := s[k + 2].toNat_lt; omega
  go_enter Tryz.func150, Tryz.ntmps150
  go_wp2_with (go_at_call 175; refine (follow_any s (k + 1) 128 159 _ hs).mono ?_; rintro e w' ⟨rfl, rfl⟩)
  refine wp_loop_rounds 2 ?_
  rw [rounds_succ]
  go_wp2_with (go_at_call 175; refine (follow_any s (k + 2) 128 191 _ hs).mono ?_; rintro e w' ⟨rfl, rfl⟩)
  rw [rounds_succ]
  go_wp2_with fail
  refine wp_loop_rounds 3 ?_
  rw [rounds_succ]
  go_wp2_with fail
  rw [rounds_succ]
  go_wp2_with fail
  rw [rounds_succ]
  go_wp2_with fail
  go_ret3
  exact ⟨rfl, rfl⟩

set_option maxHeartbeats 1000000 in
theorem pt_3c_f (s : ByteArray) (k : Nat) (w : World) (hs : s.size ≤ 140737488351232) (hk : k < s.size)  (c1 : 224 ≤ (s[k].toNat : Int)) (c2 : (s[k].toNat : Int) ≤ 239) (c3 : ((s[k].toNat : Int) == 224) = false) (c4 : ((s[k].toNat : Int) == 237) = false) (f1 : folB s (k + 1) 128 191 = false) :
    Calls Tryz.prog 150 #[.string s, .int .i64 k] w fun e w' => e = .returned (.tuple #[.int .i64 65533, .int .i64 1, .bool false]) ∧ w' = w := by
  have hw := wrap_byte s[k]
  go_enter Tryz.func150, Tryz.ntmps150
  go_wp2_with (go_at_call 175; refine (follow_any s (k + 1) 128 191 _ hs).mono ?_; rintro e w' ⟨rfl, rfl⟩)
  refine wp_loop_rounds 1 ?_
  rw [rounds_succ]
  go_wp2_with fail
  go_ret3
  exact ⟨rfl, rfl⟩

set_option maxHeartbeats 1000000 in
theorem pt_3c_tf (s : ByteArray) (k : Nat) (w : World) (hs : s.size ≤ 140737488351232) (hk : k < s.size)  (c1 : 224 ≤ (s[k].toNat : Int)) (c2 : (s[k].toNat : Int) ≤ 239) (c3 : ((s[k].toNat : Int) == 224) = false) (c4 : ((s[k].toNat : Int) == 237) = false) (f1 : folB s (k + 1) 128 191 = true) (f2 : folB s (k + 2) 128 191 = false) :
    Calls Tryz.prog 150 #[.string s, .int .i64 k] w fun e w' => e = .returned (.tuple #[.int .i64 65533, .int .i64 1, .bool false]) ∧ w' = w := by
  have hw := wrap_byte s[k]
  go_enter Tryz.func150, Tryz.ntmps150
  go_wp2_with (go_at_call 175; refine (follow_any s (k + 1) 128 191 _ hs).mono ?_; rintro e w' ⟨rfl, rfl⟩)
  refine wp_loop_rounds 2 ?_
  rw [rounds_succ]
  go_wp2_with (go_at_call 175; refine (follow_any s (k + 2) 128 191 _ hs).mono ?_; rintro e w' ⟨rfl, rfl⟩)
  rw [rounds_succ]
  go_wp2_with fail
  go_ret3
  exact ⟨rfl, rfl⟩

set_option maxHeartbeats 1000000 in
theorem pt_3c_tt (s : ByteArray) (k : Nat) (w : World) (hs : s.size ≤ 140737488351232) (hk : k < s.size) (hk1 : k + 1 < s.size) (hk2 : k + 2 < s.size) (c1 : 224 ≤ (s[k].toNat : Int)) (c2 : (s[k].toNat : Int) ≤ 239) (c3 : ((s[k].toNat : Int) == 224) = false) (c4 : ((s[k].toNat : Int) == 237) = false) (f1 : folB s (k + 1) 128 191 = true) (f2 : folB s (k + 2) 128 191 = true) :
    Calls Tryz.prog 150 #[.string s, .int .i64 k] w fun e w' => e = .returned (.tuple #[.int .i64 ((((s[k].toNat : Int) - 224) * 64 + s[k + 1].toNat - 128) * 64 + s[k + 2].toNat - 128), .int .i64 3, .bool true]) ∧ w' = w := by
  have hw := wrap_byte s[k]
  have hw1 := wrap_byte s[k + 1]
  have hb1 : (s[k + 1].toNat : Int) ≤ 255 := by have := s[k + 1].toNat_lt; omega
  have hw2 := wrap_byte s[k + 2]
  have hb2 : (s[k + 2].toNat : Int) ≤ 255 := by have := s[k + 2].toNat_lt; omega
  go_enter Tryz.func150, Tryz.ntmps150
  go_wp2_with (go_at_call 175; refine (follow_any s (k + 1) 128 191 _ hs).mono ?_; rintro e w' ⟨rfl, rfl⟩)
  refine wp_loop_rounds 2 ?_
  rw [rounds_succ]
  go_wp2_with (go_at_call 175; refine (follow_any s (k + 2) 128 191 _ hs).mono ?_; rintro e w' ⟨rfl, rfl⟩)
  rw [rounds_succ]
  go_wp2_with fail
  refine wp_loop_rounds 3 ?_
  rw [rounds_succ]
  go_wp2_with fail
  rw [rounds_succ]
  go_wp2_with fail
  rw [rounds_succ]
  go_wp2_with fail
  go_ret3
  exact ⟨rfl, rfl⟩


end Go.Proofs.YthbglakncijahaaGreatDoor
