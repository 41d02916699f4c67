/- Plain facts on UTF-8 texts and their points, for the laws on points: the points of a text by the model's own decoding, the text of points by the library's encoding; a whole text is the text of its points. -/
import Derived.Lib.MapLaws
import Derived.Lib.RuneBytes
namespace Go.Proofs.Ytifhoeffkehcmaa
open Go.Lib

/-- does the place hold a code point? -/
def okAt (s : ByteArray) (pos : Nat) : Bool := !((Utf8.decode s pos).1 == 65533 && (Utf8.decode s pos).2 == 1)

def ptsFrom (s : ByteArray) : Nat → Nat → List Int
  | 0, _ => []
  | f + 1, pos => if pos < s.size then ((Utf8.decode s pos).1 : Int) :: ptsFrom s f (pos + (Utf8.decode s pos).2) else []
def pts (s : ByteArray) : List Int := ptsFrom s s.size 0

def wholeFrom (s : ByteArray) : Nat → Nat → Bool
  | 0, _ => true
  | f + 1, pos => if pos < s.size then okAt s pos && wholeFrom s f (pos + (Utf8.decode s pos).2) else true
def whole (s : ByteArray) : Bool := wholeFrom s s.size 0

def textOf (l : List Int) : List UInt8 := l.flatMap encodeRune

theorem dec_width (s : ByteArray) (pos : Nat) : 1 ≤ (Utf8.decode s pos).2 := by
  rw [← decodeL_drop]; exact decodeL_width _

theorem dec_rune (s : ByteArray) (pos : Nat) : (Utf8.decode s pos).1 ≤ 1114111 := by
  rw [← decodeL_drop]; exact decodeL_rune _

theorem dec_le (s : ByteArray) (pos : Nat) (h : pos < s.size) : pos + (Utf8.decode s pos).2 ≤ s.size := by
  rw [← decodeL_drop]
  have hne : s.data.toList.drop pos ≠ [] := by
    intro e
    have := congrArg List.length e
    simp at this
    have h2 : s.size = s.data.size := rfl
    omega
  have := decodeL_le _ hne
  simp at this
  have h2 : s.size = s.data.size := rfl
  omega

theorem dec_four (s : ByteArray) (pos : Nat) : (Utf8.decode s pos).2 ≤ 4 := by
  rw [← decodeL_drop, decodeL_N]
  rcases decodeN_shape (s.data.toList.drop pos).length ((s.data.toList.drop pos).getD 0 0).toNat ((s.data.toList.drop pos).getD 1 0).toNat ((s.data.toList.drop pos).getD 2 0).toNat ((s.data.toList.drop pos).getD 3 0).toNat with ⟨c, e⟩ | ⟨c1, c2, c3, cv, e⟩ | ⟨c1, c2, c3, c4, cv, cs, e⟩ | ⟨c1, c2, c3, c4, c5, cv, cw, e⟩ | e
  all_goals (rw [e]; dsimp only; omega)

theorem enc_dec (s : ByteArray) (pos : Nat) (h : pos < s.size) (ho : okAt s pos = true) : encodeRune ((Utf8.decode s pos).1 : Int) = (s.data.toList.drop pos).take (Utf8.decode s pos).2 := by
  have hne : s.data.toList.drop pos ≠ [] := by
    intro e
    have := congrArg List.length e
    simp at this
    have h2 : s.size = s.data.size := rfl
    omega
  have hd := decodeL_drop s pos
  have := encode_decode _ hne (by
    rw [hd]
    intro ⟨h1, h2⟩
    simp [okAt, h1, h2] at ho)
  rw [hd] at this
  exact this

theorem ptsFrom_end (s : ByteArray) (f pos : Nat) (h : ¬ pos < s.size) : ptsFrom s f pos = [] := by
  cases f with
  | zero => rfl
  | succ f => simp [ptsFrom, h]
theorem ptsFrom_step (s : ByteArray) (f pos : Nat) (h : pos < s.size) : ptsFrom s (f + 1) pos = ((Utf8.decode s pos).1 : Int) :: ptsFrom s f (pos + (Utf8.decode s pos).2) := by
  simp [ptsFrom, h]
theorem wholeFrom_end (s : ByteArray) (f pos : Nat) (h : ¬ pos < s.size) : wholeFrom s f pos = true := by
  cases f with
  | zero => rfl
  | succ f => simp [wholeFrom, h]
theorem wholeFrom_step (s : ByteArray) (f pos : Nat) (h : pos < s.size) : wholeFrom s (f + 1) pos = (okAt s pos && wholeFrom s f (pos + (Utf8.decode s pos).2)) := by
  simp [wholeFrom, h]

theorem textOf_cons (z : Int) (l : List Int) : textOf (z :: l) = encodeRune z ++ textOf l := by simp [textOf]
theorem textOf_append (a b : List Int) : textOf (a ++ b) = textOf a ++ textOf b := by simp [textOf]

/-- A whole text is the text of its points. -/
theorem text_pts (s : ByteArray) : ∀ (f pos : Nat), s.size ≤ pos + f → wholeFrom s f pos = true → textOf (ptsFrom s f pos) = s.data.toList.drop pos
  | 0, pos, h, _ => by
    have h2 : s.size = s.data.size := rfl
    rw [List.drop_eq_nil_of_le (by simp; omega)]
    rfl
  | f + 1, pos, h, hw => by
    have h2 : s.size = s.data.size := rfl
    by_cases hp : pos < s.size
    · rw [wholeFrom_step s f pos hp, Bool.and_eq_true] at hw
      have hwd := dec_width s pos
      rw [ptsFrom_step s f pos hp, textOf_cons, enc_dec s pos hp hw.1, text_pts s f _ (by omega) hw.2, ← List.drop_drop, List.take_append_drop]
    · rw [ptsFrom_end s _ pos hp, List.drop_eq_nil_of_le (by simp; omega)]
      rfl

theorem pts_len (s : ByteArray) : ∀ (f pos : Nat), s.size ≤ pos + f → pos ≤ s.size → pos + (ptsFrom s f pos).length ≤ s.size ∧ s.size ≤ pos + 4 * (ptsFrom s f pos).length
  | 0, pos, h, hq => by simp [ptsFrom]; omega
  | f + 1, pos, h, hq => by
    by_cases hp : pos < s.size
    · have hwd := dec_width s pos
      have hw4 := dec_four s pos
      have hle := dec_le s pos hp
      have ih := pts_len s f (pos + (Utf8.decode s pos).2) (by omega) hle
      rw [ptsFrom_step s f pos hp, List.length_cons]
      omega
    · rw [ptsFrom_end s _ pos hp]
      simp; omega

theorem text_back (s : ByteArray) (h : whole s = true) : textOf (pts s) = s.data.toList := by
  have := text_pts s s.size 0 (by omega) h
  simpa [pts] using this
theorem len_back (s : ByteArray) : (pts s).length ≤ s.size ∧ s.size ≤ 4 * (pts s).length := by
  have := pts_len s s.size 0 (by omega) (by omega)
  simpa [pts] using this

theorem enc_len (z : Int) : 1 ≤ (encodeRune z).length ∧ (encodeRune z).length ≤ 4 := by
  have := encodeRuneZ_length z
  simpa [encodeRune] using this
theorem textOf_len (l : List Int) : (textOf l).length ≤ 4 * l.length := by
  induction l with
  | nil => simp [textOf]
  | cons z l ih => rw [textOf_cons, List.length_append, List.length_cons]; have := enc_len z; omega

end Go.Proofs.Ytifhoeffkehcmaa
