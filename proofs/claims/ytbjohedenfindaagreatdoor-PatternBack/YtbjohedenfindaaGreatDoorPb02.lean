/- Texts of the proof, put together: Dv, WrA, SortP, CmpP, SetsB. -/
import Derived.Test.YtbjohedenfindaaGreatDoorPb01
import Derived.Shelf.SlGeneric
import Derived.Shelf.SlSortCmp.WholeK
import Derived.Ground.SlsfProg
import Derived.Test.YtbjohedenfindaaGreatDoorProg
import Derived.Lib.Small
import Derived.WalkKit
namespace Go.Proofs.YtbjohedenfindaaGreatDoor
set_option linter.unusedVariables false

/-- a pattern as the document's answer writes it -/
structure Tm where
  kind : Int
  set : List Rg
  mn : Int
  mx : Int
  kids : List Tm

theorem Tm.ind {P : Tm → Prop} (h : ∀ t : Tm, (∀ k ∈ t.kids, P k) → P t) : ∀ t, P t := fun t => by
  match t with
  | ⟨k, s, a, b, ks⟩ => exact h _ fun k hk => Tm.ind h k

def setT (l : List Rg) : Tm := ⟨1, l, 0, 0, []⟩
def nothT : Tm := ⟨1, [], 0, 0, []⟩
def emptT : Tm := ⟨2, [], 0, 0, []⟩
def catT (a b : Tm) : Tm := ⟨2, [], 0, 0, [a, b]⟩
def sevT (k : Int) (l : List Tm) : Tm := ⟨k, [], 0, 0, l⟩
def notT (a : Tm) : Tm := ⟨5, [], 0, 0, [a]⟩
def repT (a : Tm) (lo hi : Int) : Tm := ⟨6, [], lo, hi, [a]⟩
def isNo (t : Tm) : Bool := decide (t.kind = 1) && t.set.isEmpty
def isEm (t : Tm) : Bool := decide (t.kind = 2) && t.kids.isEmpty

/-! ## Order: by the numbers that tell a tree -/
def encR (s : List Rg) : List Int := s.flatMap fun r => [r.1, r.2]
def enc (t : Tm) : List Int := match t with
  | ⟨k, s, a, b, ks⟩ => k :: a :: b :: (s.length : Int) :: (encR s ++ (ks.length : Int) :: (ks.map enc).flatten)
theorem enc_eq (t : Tm) : enc t = t.kind :: t.mn :: t.mx :: (t.set.length : Int) :: (encR t.set ++ (t.kids.length : Int) :: (t.kids.map enc).flatten) := by
  obtain ⟨k, s, a, b, ks⟩ := t; rw [enc]
theorem encR_inj : ∀ (s u : List Rg) (x y : List Int), s.length = u.length → encR s ++ x = encR u ++ y → s = u ∧ x = y
  | [], [], x, y, _, h => by simpa [encR] using h
  | [], _ :: _, x, y, hl, _ => by simp at hl
  | _ :: _, [], x, y, hl, _ => by simp at hl
  | r :: s, q :: u, x, y, hl, h => by
    have h' : r.1 :: r.2 :: (encR s ++ x) = q.1 :: q.2 :: (encR u ++ y) := by simpa [encR] using h
    injection h' with h1 h2
    injection h2 with h2 h3
    obtain ⟨h4, h5⟩ := encR_inj s u x y (by simpa using hl) h3
    exact ⟨by rw [h4, show r = q from Prod.ext h1 h2], h5⟩
theorem enc_pre : ∀ (t : Tm) (u : Tm) (x y : List Int), enc t ++ x = enc u ++ y → t = u ∧ x = y := by
  refine Tm.ind ?_
  intro t ih u x y h
  have kids : ∀ (l m : List Tm), (∀ k ∈ l, k ∈ t.kids) → l.length = m.length → ∀ x y, (l.map enc).flatten ++ x = (m.map enc).flatten ++ y → l = m ∧ x = y := by
    intro l
    induction l with
    | nil => intro m _ hl x y h; cases m with
      | nil => exact ⟨rfl, by simpa using h⟩
      | cons _ _ => simp at hl
    | cons a l ih2 => intro m hk hl x y h; cases m with
      | nil => simp at hl
      | cons b m =>
        simp only [List.map_cons, List.flatten_cons, List.append_assoc] at h
        obtain ⟨h1, h2⟩ := ih a (hk a (by simp)) b _ _ h
        obtain ⟨h3, h4⟩ := ih2 m (fun k hk' => hk k (by simp [hk'])) (by simpa using hl) x y h2
        exact ⟨by rw [h1, h3], h4⟩
  rw [enc_eq, enc_eq] at h
  simp only [List.cons_append] at h
  injection h with h1 h
  injection h with h2 h
  injection h with h3 h
  injection h with h4 h
  simp only [List.append_assoc, List.cons_append] at h
  obtain ⟨h5, h6⟩ := encR_inj _ _ _ _ (by omega) h
  injection h6 with h6 h7
  obtain ⟨h8, h9⟩ := kids t.kids u.kids (fun _ h => h) (by omega) x y h7
  obtain ⟨k, s, a, b, ks⟩ := t
  obtain ⟨k', s', a', b', ks'⟩ := u
  simp only at h1 h2 h3 h5 h8
  subst h1 h2 h3 h5 h8
  exact ⟨rfl, h9⟩
theorem enc_inj {t u : Tm} (h : enc t = enc u) : t = u := (enc_pre t u [] [] (by simpa using h)).1

def cmpL : List Int → List Int → Int
  | [], [] => 0
  | [], _ :: _ => -1
  | _ :: _, [] => 1
  | a :: x, b :: y => if a = b then cmpL x y else a - b
theorem cmpL_zero : ∀ (x y : List Int), cmpL x y = 0 ↔ x = y
  | [], [] => by simp [cmpL]
  | [], _ :: _ => by simp [cmpL]
  | _ :: _, [] => by simp [cmpL]
  | a :: x, b :: y => by
    simp only [cmpL]; split
    · subst_vars; rw [cmpL_zero x y]; simp
    · constructor
      · omega
      · intro h; injection h; omega
theorem cmpL_flip : ∀ (x y : List Int), 0 < cmpL x y ↔ cmpL y x < 0
  | [], [] => by simp [cmpL]
  | [], _ :: _ => by simp [cmpL]
  | _ :: _, [] => by simp [cmpL]
  | a :: x, b :: y => by
    simp only [cmpL]; split
    · subst_vars; simp only [if_true]; exact cmpL_flip x y
    · rw [if_neg (by omega)]; omega
theorem cmpL_trans : ∀ (x y z : List Int), cmpL x y < 0 → cmpL y z < 0 → cmpL x z < 0
  | [], [], _, h, _ => by simp [cmpL] at h
  | [], _ :: _, [], _, h => by simp [cmpL] at h
  | [], _ :: _, _ :: _, _, _ => by simp [cmpL]
  | _ :: _, [], _, h, _ => by simp [cmpL] at h
  | _ :: _, _ :: _, [], _, h => by simp [cmpL] at h
  | a :: x, b :: y, c :: z, h, g => by
    simp only [cmpL] at h g ⊢
    split at h <;> split at g
    · subst_vars; rw [if_pos rfl]; exact cmpL_trans x y z h g
    · subst_vars; rw [if_neg (by omega)]; exact g
    · subst_vars; rw [if_neg (by omega)]; exact h
    · rw [if_neg (by omega)]; omega

def ord (t u : Tm) : Int := cmpL (enc t) (enc u)
theorem ord_zero {t u : Tm} : ord t u = 0 ↔ t = u := by
  unfold ord; rw [cmpL_zero]; exact ⟨enc_inj, fun h => by rw [h]⟩
theorem ord_flip {t u : Tm} : 0 < ord t u ↔ ord u t < 0 := cmpL_flip _ _
theorem ord_trans {t u v : Tm} (h : ord t u < 0) (g : ord u v < 0) : ord t v < 0 := cmpL_trans _ _ _ h g

/-! ## Rows in order, each once -/
def Srt (l : List Tm) : Prop := l.Pairwise fun a b => ord a b < 0
def insS : List Tm → Tm → List Tm
  | [], t => [t]
  | x :: r, t => if ord x t = 0 then x :: r else if 0 < ord x t then t :: x :: r else x :: insS r t
theorem mem_insS : ∀ (l : List Tm) (t x : Tm), x ∈ insS l t ↔ x ∈ l ∨ x = t
  | [], t, x => by simp [insS]
  | y :: r, t, x => by
    simp only [insS]; split
    · rename_i h; have := ord_zero.1 h; subst this; simp only [List.mem_cons]; constructor
      · intro h; exact .inl h
      · rintro (h | h); exact h; exact .inl h
    · split
      · simp only [List.mem_cons]; constructor
        · rintro (h | h | h); exact .inr h; exact .inl (.inl h); exact .inl (.inr h)
        · rintro ((h | h) | h); exact .inr (.inl h); exact .inr (.inr h); exact .inl h
      · simp only [List.mem_cons, mem_insS r t x]; constructor
        · rintro (h | h | h); exact .inl (.inl h); exact .inl (.inr h); exact .inr h
        · rintro ((h | h) | h); exact .inl h; exact .inr (.inl h); exact .inr (.inr h)
theorem srt_insS : ∀ (l : List Tm) (t : Tm), Srt l → Srt (insS l t)
  | [], t, _ => by simp [insS, Srt]
  | y :: r, t, h => by
    have h1 := List.pairwise_cons.1 h
    simp only [insS]; split
    · exact h
    · split
      · rename_i h2 h3
        refine List.pairwise_cons.2 ⟨?_, h⟩
        intro z hz
        rcases List.mem_cons.1 hz with rfl | hz
        · exact ord_flip.1 h3
        · exact ord_trans (ord_flip.1 h3) (h1.1 z hz)
      · refine List.pairwise_cons.2 ⟨?_, srt_insS r t h1.2⟩
        intro z hz
        rcases (mem_insS r t z).1 hz with hz | rfl
        · exact h1.1 z hz
        · omega
theorem len_insS : ∀ (l : List Tm) (t : Tm), l.length ≤ (insS l t).length ∧ (insS l t).length ≤ l.length + 1
  | [], t => by simp [insS]
  | y :: r, t => by
    have := len_insS r t
    simp only [insS]; split
    · simp
    · split <;> simp <;> omega
theorem Srt.nodup {l : List Tm} (h : Srt l) : l.Nodup := by
  refine List.Pairwise.imp ?_ h
  intro a b hab hne
  subst hne
  have := ord_zero.2 (rfl : a = a)
  omega
theorem nodup_le : ∀ (l m : List Tm), l.Nodup → (∀ x ∈ l, x ∈ m) → l.length ≤ m.length
  | [], m, _, _ => by simp
  | a :: l, m, h, hs => by
    classical
    have h1 := List.nodup_cons.1 h
    have ha := hs a (by simp)
    have h2 := nodup_le l (m.erase a) h1.2 fun x hx => by
      refine (List.mem_erase_of_ne ?_).2 (hs x (by simp [hx]))
      rintro rfl; exact h1.1 hx
    rw [List.length_erase_of_mem ha] at h2
    have : 0 < m.length := List.length_pos_of_mem ha
    simp; omega
/-- two rows in order with the same members are one -/
theorem srt_unique {l m : List Tm} (hl : Srt l) (hm : Srt m) (h : ∀ x, x ∈ l ↔ x ∈ m) : l = m := by
  induction l generalizing m with
  | nil => cases m with
    | nil => rfl
    | cons b m => exact absurd ((h b).2 (by simp)) (by simp)
  | cons a l ih => cases m with
    | nil => exact absurd ((h a).1 (by simp)) (by simp)
    | cons b m =>
      have h1 := List.pairwise_cons.1 hl
      have h2 := List.pairwise_cons.1 hm
      have e : a = b := by
        rcases List.mem_cons.1 ((h a).1 (by simp)) with e | e
        · exact e
        · rcases List.mem_cons.1 ((h b).2 (by simp)) with e' | e'
          · exact e'.symm
          · have := h2.1 a e; have := h1.1 b e'; have := ord_flip.2 (h2.1 a e); omega
      subst e
      rw [ih h1.2 h2.2 fun x => ?_]
      have := h x
      simp only [List.mem_cons] at this
      constructor
      · intro hx
        rcases this.1 (.inr hx) with rfl | h3
        · have := h1.1 x hx; have := ord_zero.2 (rfl : x = x); omega
        · exact h3
      · intro hx
        rcases this.2 (.inr hx) with rfl | h3
        · have := h2.1 x hx; have := ord_zero.2 (rfl : x = x); omega
        · exact h3

end Go.Proofs.YtbjohedenfindaaGreatDoor

namespace Go.Proofs.YtbjohedenfindaaGreatDoor
set_option linter.unusedVariables false

/-- these bytes stand in a text from a place on -/
def At (s : ByteArray) (i : Nat) (l : List Nat) : Prop := ∀ k, (h : k < l.length) → i + k < s.size ∧ (s.get! (i + k)).toNat = l[k]
theorem At.nil (s : ByteArray) (i : Nat) : At s i [] := fun k h => by simp at h
theorem At.append {s : ByteArray} {i : Nat} {a b : List Nat} : At s i (a ++ b) ↔ At s i a ∧ At s (i + a.length) b := by
  constructor
  · intro h
    refine ⟨fun k hk => ?_, fun k hk => ?_⟩
    · have := h k (by simp; omega)
      rw [List.getElem_append_left hk] at this
      exact this
    · have := h (a.length + k) (by simp; omega)
      rw [List.getElem_append_right (by omega)] at this
      simp only [Nat.add_sub_cancel_left] at this
      rw [show i + a.length + k = i + (a.length + k) by omega]
      exact this
  · rintro ⟨h1, h2⟩ k hk
    by_cases hka : k < a.length
    · rw [List.getElem_append_left hka]; exact h1 k hka
    · rw [List.getElem_append_right (by omega)]
      have := h2 (k - a.length) (by simp at hk; omega)
      rw [show i + a.length + (k - a.length) = i + k by omega] at this
      exact this
theorem At.cons {s : ByteArray} {i : Nat} {b : Nat} {l : List Nat} : At s i (b :: l) ↔ (i < s.size ∧ (s.get! i).toNat = b) ∧ At s (i + 1) l := by
  rw [show b :: l = [b] ++ l from rfl, At.append]
  constructor
  · rintro ⟨h1, h2⟩; exact ⟨by simpa using h1 0 (by simp), h2⟩
  · rintro ⟨h1, h2⟩
    refine ⟨fun k hk => ?_, h2⟩
    have : k = 0 := by simpa using hk
    subst this
    simpa using h1
theorem At.one {s : ByteArray} {i b : Nat} : At s i [b] ↔ (i < s.size ∧ (s.get! i).toNat = b) := by
  rw [At.cons]; exact ⟨fun h => h.1, fun h => ⟨h, At.nil _ _⟩⟩
theorem At.le {s : ByteArray} {i : Nat} {l : List Nat} (h : At s i l) (hi : i ≤ s.size) : i + l.length ≤ s.size := by
  rcases Nat.eq_zero_or_pos l.length with h0 | h0
  · omega
  · have := (h (l.length - 1) (by omega)).1; omega
theorem At.cp {s : ByteArray} {i b : Nat} {l : List Nat} (h : At s i (b :: l)) (hb : b < 128) : cpAt s i = (b : Int) ∧ szAt s i = 1 ∧ i < s.size := by
  obtain ⟨⟨h1, h2⟩, _⟩ := At.cons.1 h
  obtain ⟨e1, e2⟩ := ascii_cp h1 (by omega)
  exact ⟨by rw [e1, h2], e2, h1⟩

/-- the bytes of a point that is written as it stands -/
def encB (c : Nat) : List Nat := if c < 128 then [c] else [192 + c / 64, 128 + c % 64]
theorem At.enc {s : ByteArray} {i c : Nat} (h : At s i (encB c)) (hc : c < 2048) : cpAt s i = (c : Int) ∧ szAt s i = (encB c).length ∧ i < s.size := by
  unfold encB at h ⊢
  by_cases h1 : c < 128
  · rw [if_pos h1] at h ⊢
    exact h.cp h1
  · rw [if_neg h1] at h ⊢
    obtain ⟨⟨g1, g2⟩, g3⟩ := At.cons.1 h
    obtain ⟨g4, g5⟩ := At.one.1 g3
    have hd : Utf8.decode s i = (c, 2) := by
      rw [Lib.decode_at, g2, g5]
      unfold Lib.decodeN
      rw [if_neg (by omega), if_pos (by omega)]
      have e : (192 + c / 64) % 32 * 64 + (128 + c % 64) % 64 = c := by omega
      rw [e, if_pos (by omega)]
    unfold cpAt szAt
    rw [if_pos g1, if_pos g1, hd, if_neg (by simp)]
    exact ⟨rfl, rfl, g1⟩

/-- a hex digit -/
def hexD (n : Nat) : Nat := if n < 10 then 48 + n else 87 + n
theorem hexD_of (n : Nat) (h : n < 16) : hexOf (hexD n) = (n : Int) ∧ hexD n < 128 := by
  unfold hexD
  split
  · rename_i h1
    unfold hexOf
    rw [if_pos (by omega)]
    omega
  · rename_i h1
    unfold hexOf
    rw [if_neg (by omega), if_pos (by omega)]
    omega
def hexB : Nat → Nat → List Nat
  | 0, _ => []
  | f + 1, n => if n < 16 then [hexD n] else hexB f (n / 16) ++ [hexD (n % 16)]
/-- the hex digits of a number below 2^28 -/
def hexT (n : Nat) : List Nat := hexB 7 n
theorem hexB_len : ∀ (f n k : Nat), n < 16 ^ k → 1 ≤ k → k ≤ f → 1 ≤ (hexB f n).length ∧ (hexB f n).length ≤ k
  | 0, n, k, _, h1, h2 => by omega
  | f + 1, n, k, h, h1, h2 => by
    unfold hexB
    split
    · simp; omega
    · rename_i hn
      have hk : 2 ≤ k := by
        rcases Nat.lt_or_ge k 2 with h | h
        · obtain rfl : k = 1 := by omega
          simp at h; omega
        · exact h
      obtain ⟨k', rfl⟩ : ∃ k', k = k' + 1 := ⟨k - 1, by omega⟩
      have := hexB_len f (n / 16) k' (by rw [Nat.pow_succ] at h; omega) (by omega) (by omega)
      simp; omega
theorem hexB_val : ∀ (f n k : Nat) (s : ByteArray) (i : Nat), n < 16 ^ k → 1 ≤ k → k ≤ f → At s i (hexB f n) → hexVal s i (hexB f n).length = (n : Int) ∧ ∀ j, j < (hexB f n).length → isHex s (i + j) = true
  | 0, n, k, _, _, _, h1, h2, _ => by omega
  | f + 1, n, k, s, i, h, h1, h2, hA => by
    unfold hexB at hA ⊢
    split at hA
    · rename_i hn
      rw [if_pos hn]
      obtain ⟨g1, g2⟩ := At.one.1 hA
      have hd := hexD_of n hn
      refine ⟨?_, fun j hj => ?_⟩
      · simp only [List.length_singleton, hexVal, Nat.add_zero, g2, hd.1]; omega
      · obtain rfl : j = 0 := by simpa using hj
        simp [isHex, g1, g2, hd.1]
    · rename_i hn
      rw [if_neg hn]
      obtain ⟨hA1, hA2⟩ := At.append.1 hA
      obtain ⟨g1, g2⟩ := At.one.1 hA2
      have hk : 2 ≤ k := by
        rcases Nat.lt_or_ge k 2 with h | h
        · obtain rfl : k = 1 := by omega
          simp at h; omega
        · exact h
      obtain ⟨k', rfl⟩ : ∃ k', k = k' + 1 := ⟨k - 1, by omega⟩
      have ih := hexB_val f (n / 16) k' s i (by rw [Nat.pow_succ] at h; omega) (by omega) (by omega) hA1
      have hd := hexD_of (n % 16) (by omega)
      refine ⟨?_, fun j hj => ?_⟩
      · rw [List.length_append, List.length_singleton, hexVal, ih.1, g2, hd.1]; omega
      · rw [List.length_append, List.length_singleton] at hj
        rcases Nat.lt_or_ge j (hexB f (n / 16)).length with hj2 | hj2
        · exact ih.2 j hj2
        · obtain rfl : j = (hexB f (n / 16)).length := by omega
          simp [isHex, g1, g2, hd.1]
          omega
theorem hexRun_at : ∀ (m f : Nat) (s : ByteArray) (i : Nat), m ≤ f → (∀ j, j < m → isHex s (i + j) = true) → isHex s (i + m) = false → hexRun s f i = m
  | 0, 0, s, i, _, _, _ => rfl
  | 0, f + 1, s, i, _, _, h => by rw [hexRun, if_neg (by simpa using h)]
  | m + 1, f + 1, s, i, hm, h, h2 => by
    rw [hexRun, if_pos (by simpa using h 0 (by omega))]
    rw [hexRun_at m f s (i + 1) (by omega) (fun j hj => by rw [show i + 1 + j = i + (j + 1) by omega]; exact h (j + 1) (by omega)) (by rw [show i + 1 + m = i + (m + 1) by omega]; exact h2)]
theorem hexS_at {s : ByteArray} {i n : Nat} (hn : n ≤ 1114111) (h : At s i (hexT n ++ [125])) : hexS s i = some ((n : Int), i + (hexT n).length + 1) := by
  obtain ⟨h1, h2⟩ := At.append.1 h
  have hl := hexB_len 7 n 6 (by omega) (by omega) (by omega)
  have hv := hexB_val 7 n 6 s i (by omega) (by omega) (by omega) h1
  have hcp := (At.cp h2 (by omega)).1
  have h125 := At.one.1 h2
  have hr : hexRun s 7 i = (hexT n).length := hexRun_at _ 7 s i (by unfold hexT; omega) hv.2 (by
    unfold isHex
    have : (s.get! (i + (hexT n).length)).toNat = 125 := h125.2
    rw [this]
    simp [hexOf])
  have hv1 : hexVal s i (hexT n).length = (n : Int) := hv.1
  have hl1 : 1 ≤ (hexT n).length ∧ (hexT n).length ≤ 6 := hl
  unfold hexS
  rw [hr, if_pos ⟨hl1.1, hl1.2, hcp, by rw [hv1]; omega⟩, hv1]

def plainB (c : Nat) : Bool := (decide (32 ≤ c) && decide (c ≤ 126)) || (decide (161 ≤ c) && decide (c ≤ 591) && decide (c ≠ 173))
/-- what stands behind a stroke for a point -/
def signOf (c : Nat) : Option Nat := if c = 10 then some 110 else if c = 13 then some 114 else if c = 9 then some 116 else if escSign (c : Int) then some c else none
/-- a point as it is written -/
def ptB (sg : Int → Bool) (c : Nat) : List Nat :=
  if plainB c && decide (c ≠ 96) && !sg (c : Int) then encB c
  else match signOf c with
    | some b => [92, b]
    | none => [92, 117, 123] ++ hexT c ++ [125]

theorem sign_esc {c b : Nat} (h : signOf c = some b) : escOf (b : Int) = some (c : Int) ∧ b < 128 := by
  unfold signOf at h
  split at h
  · rename_i e; cases h; subst e; decide
  · split at h
    · rename_i e; cases h; subst e; decide
    · split at h
      · rename_i e; cases h; subst e; decide
      · split at h
        · rename_i e
          cases h
          have he := e
          simp [escSign] at he
          unfold escOf
          rw [if_neg (by omega), if_neg (by omega), if_neg (by omega), if_pos e]
          exact ⟨rfl, by omega⟩
        · cases h
/-- signs of which a stroke is one -/
def SgOk (sg : Int → Bool) : Prop := sg 92 = true
theorem pt_at {s : ByteArray} {i c : Nat} {sg : Int → Bool} (hsg : SgOk sg) (hc : c ≤ 1114111) (h : At s i (ptB sg c)) : pointS s sg i = some ((c : Int), i + (ptB sg c).length) := by
  unfold ptB at h ⊢
  split at h
  · rename_i h1
    rw [if_pos h1]
    simp only [Bool.and_eq_true, decide_eq_true_eq, Bool.not_eq_true'] at h1
    have hlt : c < 2048 := by
      have := h1.1.1
      simp only [plainB, Bool.or_eq_true, Bool.and_eq_true, decide_eq_true_eq] at this
      omega
    obtain ⟨e1, e2, e3⟩ := At.enc h hlt
    have hn : c ≠ 92 := by
      rintro rfl
      have := h1.2
      rw [show ((92 : Nat) : Int) = 92 from rfl, hsg] at this
      cases this
    unfold pointS
    rw [e1, if_neg (by omega), if_neg (by rw [h1.2]; simp), e2]
  · rename_i h1
    rw [if_neg h1]
    cases hs : signOf c with
    | some b =>
      rw [hs] at h
      obtain ⟨e1, e2⟩ := sign_esc hs
      have c1 := (At.cp h (by omega)).1
      have c2 := (At.cp (At.cons.1 h).2 e2).1
      unfold pointS
      rw [if_pos (by simpa using c1)]
      unfold escS
      rw [c2, e1]
      rfl
    | none =>
      rw [hs] at h
      simp only at h ⊢
      rw [List.append_assoc] at h ⊢
      have h' : At s i (92 :: 117 :: 123 :: (hexT c ++ [125])) := h
      have c1 := (At.cp h' (by omega)).1
      have h2 := (At.cons.1 h').2
      have c2 := (At.cp h2 (by omega)).1
      have h3 := (At.cons.1 h2).2
      have c3 := (At.cp h3 (by omega)).1
      have h4 := (At.cons.1 h3).2
      have hx := hexS_at hc h4
      have he : escOf 117 = none := by decide
      unfold pointS
      rw [if_pos (by simpa using c1)]
      unfold escS
      rw [c2, show ((117 : Nat) : Int) = 117 from rfl, he]
      simp only
      rw [if_pos ⟨trivial, by simpa using c3⟩, show i + 1 + 2 = i + 1 + 1 + 1 by omega, hx]
      simp
      omega

/-- the first byte of a point is none of the signs -/
theorem pt_first {s : ByteArray} {i c : Nat} {sg : Int → Bool} (hsg : SgOk sg) (hc : c ≤ 1114111) (h : At s i (ptB sg c)) : i < s.size ∧ (cpAt s i = 92 ∨ (0 ≤ cpAt s i ∧ sg (cpAt s i) = false)) := by
  unfold ptB at h
  split at h
  · rename_i h1
    simp only [Bool.and_eq_true, decide_eq_true_eq, Bool.not_eq_true'] at h1
    have hlt : c < 2048 := by
      have := h1.1.1
      simp only [plainB, Bool.or_eq_true, Bool.and_eq_true, decide_eq_true_eq] at this
      omega
    obtain ⟨e1, e2, e3⟩ := At.enc h hlt
    exact ⟨e3, .inr ⟨by rw [e1]; omega, by rw [e1]; exact h1.2⟩⟩
  · cases hs : signOf c with
    | some b =>
      rw [hs] at h
      have := At.cp h (by omega)
      exact ⟨this.2.2, .inl (by simpa using this.1)⟩
    | none =>
      rw [hs] at h
      have h' : At s i (92 :: ([117, 123] ++ hexT c ++ [125])) := h
      have := At.cp h' (by omega)
      exact ⟨this.2.2, .inl (by simpa using this.1)⟩
theorem pt_len {c : Nat} {sg : Int → Bool} (hc : c ≤ 1114111) : 1 ≤ (ptB sg c).length ∧ (ptB sg c).length ≤ 10 := by
  unfold ptB
  split
  · unfold encB; split <;> simp
  · cases hs : signOf c with
    | some b => simp
    | none =>
      have hl : 1 ≤ (hexT c).length ∧ (hexT c).length ≤ 6 := hexB_len 7 c 6 (by omega) (by omega) (by omega)
      simp; omega
theorem outer_ok : SgOk outerS := by show outerS 92 = true; decide
theorem inner_ok : SgOk innerS := by show innerS 92 = true; decide

end Go.Proofs.YtbjohedenfindaaGreatDoor

namespace Go.Proofs
open Go.Shelf
def Tryz.sortEdge_ren : Go.Shelf.Ren := ⟨fun | 6 => 166 | 15 => 178 | 14 => 177 | 28 => 193 | 29 => 162 | 20 => 185 | 21 => 186 | 22 => 187 | 23 => 188 | 24 => 189 | 25 => 190 | 26 => 191 | 27 => 192 | 46 => 201 | 47 => 202 | 48 => 203 | 49 => 204 | 50 => 205 | 57 => 211 | n => n, fun | 22 => 204 | 24 => 207 | 25 => 220 | 3 => 3 | 39 => 197 | 0 => 0 | 53 => 216 | 55 => 119 | 4 => 4 | 46 => 235 | 45 => 234 | 50 => 225 | 5 => 5 | 9 => 9 | 66 => 246 | 70 => 250 | 76 => 257 | 77 => 57 | n => n, fun | n => n⟩
theorem Tryz.sortEdge : Go.Proofs.SlLaysF0.n6 Tryz.prog Tryz.sortEdge_ren := {
  mixed := by kernel_rfl
  f6 := ⟨Tryz.f166.name, by decide, Tryz.func166.trans (congrArg some (by kernel_rfl))⟩
  f14 := ⟨Tryz.f177.name, by decide, Tryz.func177.trans (congrArg some (by kernel_rfl))⟩
  f15 := Tryz.func178.trans (congrArg some (by kernel_rfl))
  f20 := ⟨Tryz.f185.name, by decide, Tryz.func185.trans (congrArg some (by kernel_rfl))⟩
  f21 := ⟨Tryz.f186.name, by decide, Tryz.func186.trans (congrArg some (by kernel_rfl))⟩
  f22 := ⟨Tryz.f187.name, by decide, Tryz.func187.trans (congrArg some (by kernel_rfl))⟩
  f23 := ⟨Tryz.f188.name, by decide, Tryz.func188.trans (congrArg some (by kernel_rfl))⟩
  f24 := ⟨Tryz.f189.name, by decide, Tryz.func189.trans (congrArg some (by kernel_rfl))⟩
  f25 := ⟨Tryz.f190.name, by decide, Tryz.func190.trans (congrArg some (by kernel_rfl))⟩
  f26 := ⟨Tryz.f191.name, by decide, Tryz.func191.trans (congrArg some (by kernel_rfl))⟩
  f27 := ⟨Tryz.f192.name, by decide, Tryz.func192.trans (congrArg some (by kernel_rfl))⟩
  f28 := Tryz.func193.trans (congrArg some (by kernel_rfl))
  f29 := Tryz.func162.trans (congrArg some (by kernel_rfl))
  f46 := ⟨Tryz.f201.name, by decide, Tryz.func201.trans (congrArg some (by kernel_rfl))⟩
  f47 := Tryz.func202.trans (congrArg some (by kernel_rfl))
  f48 := Tryz.func203.trans (congrArg some (by kernel_rfl))
  f49 := ⟨Tryz.f204.name, by decide, Tryz.func204.trans (congrArg some (by kernel_rfl))⟩
  f50 := ⟨Tryz.f205.name, by decide, Tryz.func205.trans (congrArg some (by kernel_rfl))⟩
  f57 := ⟨Tryz.f211.name, by decide, Tryz.func211.trans (congrArg some (by kernel_rfl))⟩
  t0 := Tryz.underlying0
  a0 := Tryz.isAgg0
  z0 := Tryz.sizeOf0
  v0 := Tryz.zeroValue0
  t3 := Tryz.underlying3
  a3 := Tryz.isAgg3
  z3 := Tryz.sizeOf3
  v3 := Tryz.zeroValue3
  t4 := Tryz.underlying4
  a4 := Tryz.isAgg4
  z4 := Tryz.sizeOf4
  v4 := Tryz.zeroValue4
  t5 := Tryz.underlying5
  a5 := Tryz.isAgg5
  z5 := Tryz.sizeOf5
  v5 := Tryz.zeroValue5
  t9 := Tryz.underlying9
  a9 := Tryz.isAgg9
  z9 := Tryz.sizeOf9
  v9 := Tryz.zeroValue9
  t22 := Tryz.underlying204
  a22 := Tryz.isAgg204
  z22 := Tryz.sizeOf204
  v22 := Tryz.zeroValue204
  t25 := Tryz.underlying220
  a25 := Tryz.isAgg220
  z25 := Tryz.sizeOf220
  v25 := Tryz.zeroValue220
  t39 := Tryz.underlying197
  a39 := Tryz.isAgg197
  z39 := Tryz.sizeOf197
  v39 := Tryz.zeroValue197
  t45 := Tryz.underlying234
  a45 := Tryz.isAgg234
  z45 := Tryz.sizeOf234
  v45 := Tryz.zeroValue234
  t46 := Tryz.underlying235
  a46 := Tryz.isAgg235
  z46 := Tryz.sizeOf235
  v46 := Tryz.zeroValue235
  t50 := Tryz.underlying225
  a50 := Tryz.isAgg225
  z50 := Tryz.sizeOf225
  v50 := Tryz.zeroValue225
  t53 := Tryz.underlying216
  a53 := Tryz.isAgg216
  z53 := Tryz.sizeOf216
  v53 := Tryz.zeroValue216
  t55 := Tryz.underlying119
  a55 := Tryz.isAgg119
  z55 := Tryz.sizeOf119
  v55 := Tryz.zeroValue119
  t66 := Tryz.underlying246
  a66 := Tryz.isAgg246
  z66 := Tryz.sizeOf246
  v66 := Tryz.zeroValue246
  t70 := Tryz.underlying250
  a70 := Tryz.isAgg250
  z70 := Tryz.sizeOf250
  v70 := Tryz.zeroValue250
  t76 := Tryz.underlying257
  a76 := Tryz.isAgg257
  z76 := Tryz.sizeOf257
  v76 := Tryz.zeroValue257
  t77 := Tryz.underlying57
  a77 := Tryz.isAgg57
  z77 := Tryz.sizeOf57
  v77 := Tryz.zeroValue57 }
end Go.Proofs

namespace Go.Proofs.YtbjohedenfindaaGreatDoor
open Go.RowKit
set_option linter.unusedVariables false
set_option maxRecDepth 100000
set_option maxHeartbeats 1000000 in
theorem isNaN_any (x : Int) (w : World) : Calls Tryz.prog 179 #[.int .i64 x] w fun e w' => e = .returned (.bool false) ∧ w' = w := by
  go_enter Tryz.func179, Tryz.ntmps179
  go_wp2
  go_ret
  exact ⟨by simp, rfl⟩
set_option maxHeartbeats 1000000 in
theorem compare_any (x y : Int) (w : World) : Calls Tryz.prog 168 #[.int .i64 x, .int .i64 y] w fun e w' => e = .returned (.int .i64 (Lib.compareInt x y)) ∧ w' = w := by
  have h : (x < y ∧ Lib.compareInt x y = -1) ∨ (¬ x < y ∧ y < x ∧ Lib.compareInt x y = 1) ∨ (¬ x < y ∧ ¬ y < x ∧ Lib.compareInt x y = 0) := by
    unfold Lib.compareInt
    by_cases h1 : x < y
    · simp [h1]
    · by_cases h2 : y < x <;> simp [h1, h2]
  generalize Lib.compareInt x y = z at *
  rcases h with ⟨h1, rfl⟩ | ⟨h1, h2, rfl⟩ | ⟨h1, h2, rfl⟩
  all_goals
    go_enter Tryz.func168, Tryz.ntmps168
    go_wp2_with (go_at_call 179; refine (isNaN_any _ _).mono ?_; rintro e w' ⟨rfl, rfl⟩)
    go_ret
    exact ⟨rfl, rfl⟩
end Go.Proofs.YtbjohedenfindaaGreatDoor
namespace Go.Proofs
theorem Tryz.cmp_Compare_int (x y : Int) (w : World) : Calls Tryz.prog 168 #[.int .i64 x, .int .i64 y] w fun e w' => e = .returned (.int .i64 (Lib.compareInt x y)) ∧ w' = w := YtbjohedenfindaaGreatDoor.compare_any x y w
end Go.Proofs

namespace Go.Proofs.YtbjohedenfindaaGreatDoor
set_option linter.unusedVariables false

abbrev Eg := Int × Int × Int
def genR (i : Int) (r : Rg) : List Eg := if max r.1 0 ≤ min r.2 1114111 then [(max r.1 0, i, 1), (min r.2 1114111 + 1, i, -1)] else []
def genS (i : Int) (s : List Rg) : List Eg := s.flatMap (genR i)
def gen : Int → List (List Rg) → List Eg
  | _, [] => []
  | i, s :: t => genS i s ++ gen (i + 1) t

def sumBy (f : Eg → Int) : List Eg → Int
  | [] => 0
  | e :: t => f e + sumBy f t
theorem sumBy_append (f : Eg → Int) (a b : List Eg) : sumBy f (a ++ b) = sumBy f a + sumBy f b := by
  induction a with
  | nil => simp [sumBy]
  | cons e t ih => simp only [List.cons_append, sumBy, ih]; omega
theorem sumBy_perm (f : Eg → Int) {a b : List Eg} (h : a.Perm b) : sumBy f a = sumBy f b := by
  induction h with
  | nil => rfl
  | cons x _ ih => simp only [sumBy, ih]
  | swap x y l => simp only [sumBy]; omega
  | trans _ _ h1 h2 => rw [h1, h2]
theorem sumBy_congr (f g : Eg → Int) : ∀ (a : List Eg), (∀ e ∈ a, f e = g e) → sumBy f a = sumBy g a
  | [], _ => rfl
  | e :: t, h => by
    simp only [sumBy, h e (by simp), sumBy_congr f g t (fun x hx => h x (by simp [hx]))]
theorem sumBy_zero (f : Eg → Int) (a : List Eg) (h : ∀ e ∈ a, f e = 0) : sumBy f a = 0 := by
  induction a with
  | nil => rfl
  | cons e t ih => simp only [sumBy, h e (by simp), ih (fun x hx => h x (by simp [hx]))]; omega

def dep (E : List Eg) (p s : Int) : Int := sumBy (fun e => if e.1 ≤ p ∧ e.2.1 = s then e.2.2 else 0) E
def sumS (E : List Eg) (s : Int) : Int := sumBy (fun e => if e.2.1 = s then e.2.2 else 0) E

theorem dep_split (A B : List Eg) (p s : Int) (hA : ∀ e ∈ A, e.1 ≤ p) (hB : ∀ e ∈ B, p < e.1) : dep (A ++ B) p s = sumS A s := by
  unfold dep sumS
  rw [sumBy_append, sumBy_zero _ B, sumBy_congr _ (fun e => if e.2.1 = s then e.2.2 else 0) A]
  · omega
  · intro e he; simp [hA e he]
  · intro e he
    have := hB e he
    rw [if_neg (by omega)]

def cnt (l : List Rg) (p : Int) : Int := (l.countP (inR p) : Nat)

theorem dep_genR (i : Int) (r : Rg) (p s : Int) (h0 : 0 ≤ p) (h1 : p ≤ 1114111) : dep (genR i r) p s = if i = s then (if inR p r then 1 else 0) else 0 := by
  unfold genR
  split
  · rename_i h
    simp only [dep, sumBy]
    by_cases his : i = s
    · subst his
      simp only [and_true, if_true]
      by_cases hin : inR p r = true
      · have := (inR_iff p r).1 hin
        rw [if_pos hin, if_pos (by omega), if_neg (by omega)]
        omega
      · rw [if_neg hin]
        rw [inR_iff] at hin
        by_cases hlo : max r.1 0 ≤ p
        · rw [if_pos hlo, if_pos (by omega)]
          omega
        · rw [if_neg hlo, if_neg (by omega)]
          omega
    · simp [his]
  · rename_i h
    simp only [dep, sumBy]
    split
    · by_cases hin : inR p r = true
      · have := (inR_iff p r).1 hin
        exfalso; omega
      · rw [if_neg hin]
    · rfl

theorem dep_append (a b : List Eg) (p s : Int) : dep (a ++ b) p s = dep a p s + dep b p s := sumBy_append _ _ _

theorem dep_genS (i : Int) (l : List Rg) (p s : Int) (h0 : 0 ≤ p) (h1 : p ≤ 1114111) : dep (genS i l) p s = if i = s then cnt l p else 0 := by
  induction l with
  | nil => simp [genS, dep, sumBy, cnt]
  | cons r t ih =>
    have e : genS i (r :: t) = genR i r ++ genS i t := by simp [genS]
    rw [e, dep_append, ih, dep_genR i r p s h0 h1]
    by_cases his : i = s
    · simp only [his, if_true, cnt, List.countP_cons]
      by_cases hin : inR p r = true <;> simp [hin] <;> omega
    · simp [his]

theorem dep_gen_low : ∀ (sets : List (List Rg)) (i p s : Int), 0 ≤ p → p ≤ 1114111 → s < i → dep (gen i sets) p s = 0
  | [], _, _, _, _, _, _ => rfl
  | l :: t, i, p, s, h0, h1, hs => by
    rw [gen, dep_append, dep_genS i l p s h0 h1, dep_gen_low t (i + 1) p s h0 h1 (by omega), if_neg (by omega)]
    rfl

theorem dep_gen : ∀ (sets : List (List Rg)) (i p : Int) (j : Nat), 0 ≤ p → p ≤ 1114111 → j < sets.length → dep (gen i sets) p (i + j) = cnt (sets.getD j []) p
  | [], _, _, _, _, _, h => by simp at h
  | l :: t, i, p, 0, h0, h1, _ => by
    rw [gen, dep_append, dep_genS i l p _ h0 h1, dep_gen_low t (i + 1) p _ h0 h1 (by omega), if_pos (by omega)]
    simp
  | l :: t, i, p, j + 1, h0, h1, h => by
    have ih := dep_gen t (i + 1) p j h0 h1 (by simpa using h)
    have e : i + ((j + 1 : Nat) : Int) = i + 1 + (j : Int) := by omega
    rw [gen, dep_append, dep_genS i l p _ h0 h1, if_neg (by omega), e, ih]
    simp

theorem cnt_pos (l : List Rg) (p : Int) : decide (0 < cnt l p) = hasL l p := by
  unfold cnt hasL
  rw [Bool.eq_iff_iff]
  simp only [decide_eq_true_eq, List.any_eq_true]
  constructor
  · intro h
    have : 0 < l.countP (inR p) := by omega
    obtain ⟨x, hx, hp⟩ := List.countP_pos_iff.1 this
    exact ⟨x, hx, hp⟩
  · rintro ⟨x, hx, hp⟩
    have := List.countP_pos_iff.2 ⟨x, hx, hp⟩
    omega

theorem gen_bd : ∀ (sets : List (List Rg)) (i : Int), ∀ e ∈ gen i sets, 0 ≤ e.1 ∧ e.1 ≤ 1114112 ∧ i ≤ e.2.1 ∧ e.2.1 < i + sets.length ∧ (e.2.2 = 1 ∨ e.2.2 = -1)
  | [], _, e, h => by simp [gen] at h
  | l :: t, i, e, h => by
    rw [gen, List.mem_append] at h
    rcases h with h | h
    · simp only [genS, List.mem_flatMap] at h
      obtain ⟨r, _, hr⟩ := h
      unfold genR at hr
      split at hr
      · simp at hr
        rcases hr with rfl | rfl <;> simp <;> omega
      · simp at hr
    · have := gen_bd t (i + 1) e h
      simp only [List.length_cons]
      omega

theorem genR_len (i : Int) (r : Rg) : (genR i r).length ≤ 2 := by unfold genR; split <;> simp
theorem genS_len (i : Int) (l : List Rg) : (genS i l).length ≤ 2 * l.length := by
  induction l with
  | nil => simp [genS]
  | cons r t ih =>
    have e : genS i (r :: t) = genR i r ++ genS i t := by simp [genS]
    have := genR_len i r
    rw [e, List.length_append, List.length_cons]; omega

/-- sorted by place -/
def Asc (E : List Eg) : Prop := E.Pairwise fun a b => a.1 ≤ b.1

/-- what holds of the sweep when the edges A are behind it and B ahead -/
structure Swept (A B : List Eg) (fr : Int) (out : List Rg) (f : Int → Bool) : Prop where
  upto : Upto out fr f
  behind : ∀ e ∈ A, e.1 ≤ fr
  ahead : ∀ e ∈ B, fr ≤ e.1
  low : 0 ≤ fr
  high : fr ≤ 1114112

def askD (want : Bool → Bool → Bool) (E : List Eg) (p : Int) : Bool := want (decide (0 < dep E p 0)) (decide (0 < dep E p 1))

theorem swept_ask {A B : List Eg} {want : Bool → Bool → Bool} {p fr hi : Int} (hA : ∀ e ∈ A, e.1 ≤ fr) (hB : ∀ e ∈ B, hi < e.1) (h1 : fr ≤ p) (h2 : p ≤ hi) :
    askD want (A ++ B) p = want (decide (0 < sumS A 0)) (decide (0 < sumS A 1)) := by
  unfold askD
  rw [dep_split A B p 0 (fun e he => by have := hA e he; omega) (fun e he => by have := hB e he; omega), dep_split A B p 1 (fun e he => by have := hA e he; omega) (fun e he => by have := hB e he; omega)]

theorem swept_take {A B : List Eg} {fr : Int} {out : List Rg} {want : Bool → Bool → Bool} {e : Eg} (h : Swept A (e :: B) fr out (askD want (A ++ e :: B))) (hs : Asc (A ++ e :: B)) (hlt : fr < e.1) (hb : e.1 ≤ 1114112) :
    Swept A (e :: B) e.1 (if want (decide (0 < sumS A 0)) (decide (0 < sumS A 1)) then growL out fr (e.1 - 1) else out) (askD want (A ++ e :: B)) := by
  have hpw := (List.pairwise_append.1 hs).2.1
  have hB : ∀ x ∈ e :: B, e.1 - 1 < x.1 := by
    intro x hx
    rcases List.mem_cons.1 hx with rfl | hx
    · omega
    · have := (List.pairwise_cons.1 hpw).1 x hx; omega
  have hask : ∀ p, fr ≤ p → p ≤ e.1 - 1 → askD want (A ++ e :: B) p = want (decide (0 < sumS A 0)) (decide (0 < sumS A 1)) := fun p h1 h2 => swept_ask h.behind hB h1 h2
  have e1 : e.1 - 1 + 1 = e.1 := by omega
  refine ⟨?_, fun x hx => by have := h.behind x hx; omega, fun x hx => by have := hB x hx; omega, by have := h.low; omega, hb⟩
  split
  · rename_i hw
    have := h.upto.grow h.low (hi := e.1 - 1) (by omega) (fun p h1 h2 => by rw [hask p h1 h2, hw])
    rw [e1] at this
    exact this
  · rename_i hw
    have := h.upto.skip (hi := e.1 - 1) (by omega) (fun p h1 h2 => by rw [hask p h1 h2]; simpa using hw)
    rw [e1] at this
    exact this

theorem swept_turn {A B : List Eg} {fr : Int} {out : List Rg} {f : Int → Bool} {e : Eg} (h : Swept A (e :: B) fr out f) (hle : e.1 ≤ fr) : Swept (A ++ [e]) B fr out f := by
  refine ⟨h.upto, fun x hx => ?_, fun x hx => h.ahead x (by simp [hx]), h.low, h.high⟩
  rcases List.mem_append.1 hx with hx | hx
  · exact h.behind x hx
  · simp at hx; subst hx; exact hle

theorem swept_end {A : List Eg} {fr : Int} {out : List Rg} {want : Bool → Bool → Bool} (h : Swept A [] fr out (askD want A)) (hle : fr ≤ 1114111) :
    Upto (if want (decide (0 < sumS A 0)) (decide (0 < sumS A 1)) then growL out fr 1114111 else out) 1114112 (askD want A) := by
  have hask : ∀ p, fr ≤ p → p ≤ 1114111 → askD want A p = want (decide (0 < sumS A 0)) (decide (0 < sumS A 1)) := fun p h1 h2 => by
    have := swept_ask (A := A) (B := []) (want := want) h.behind (hi := 1114111) (by simp) h1 h2
    simpa using this
  split
  · rename_i hw
    exact h.upto.grow h.low (hi := 1114111) hle (fun p h1 h2 => by rw [hask p h1 h2, hw])
  · rename_i hw
    exact h.upto.skip (hi := 1114111) (by omega) (fun p h1 h2 => by rw [hask p h1 h2]; simpa using hw)

theorem swept_done {A : List Eg} {fr : Int} {out : List Rg} {f : Int → Bool} (h : Swept A [] fr out f) (hle : ¬ fr ≤ 1114111) : Upto out 1114112 f := by
  have e : fr = 1114112 := by have := h.high; omega
  rw [← e]; exact h.upto

/-- what the sweep asks is what the sets have -/
theorem ask_sets {E : List Eg} {a b : List Rg} {want : Bool → Bool → Bool} (h : E.Perm (gen 0 [a, b])) (p : Int) (h0 : 0 ≤ p) (h1 : p ≤ 1114111) : askD want E p = want (hasL a p) (hasL b p) := by
  unfold askD
  have d0 : dep E p 0 = cnt a p := by
    unfold dep
    rw [sumBy_perm _ h]
    have := dep_gen [a, b] 0 p 0 h0 h1 (by simp)
    simpa [dep] using this
  have d1 : dep E p 1 = cnt b p := by
    unfold dep
    rw [sumBy_perm _ h]
    have := dep_gen [a, b] 0 p 1 h0 h1 (by simp)
    simpa [dep] using this
  rw [d0, d1, cnt_pos, cnt_pos]

end Go.Proofs.YtbjohedenfindaaGreatDoor
