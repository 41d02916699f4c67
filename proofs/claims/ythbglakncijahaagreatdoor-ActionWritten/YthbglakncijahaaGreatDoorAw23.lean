/- Texts of the proof, put together: AWrN, AWrQ. -/
import Derived.Test.YthbglakncijahaaGreatDoorAw22
import Derived.Lib.MapLaws
namespace Go.Proofs.YthbglakncijahaaGreatDoor
open Go.RowKit
set_option linter.unusedVariables false
set_option maxRecDepth 100000

def baL (l : List UInt8) : ByteArray := ⟨l.toArray⟩
theorem baL_list (l : List UInt8) : (baL l).data.toList = l := by simp [baL]
theorem baL_size (l : List UInt8) : (baL l).size = l.length := by show l.toArray.size = _; simp
theorem baL_self (x : ByteArray) : baL x.data.toList = x := by cases x; simp [baL]
theorem baL_append (a b : List UInt8) : baL a ++ baL b = baL (a ++ b) := by
  have : (baL a ++ baL b).data = (baL (a ++ b)).data := by
    rw [ByteArray.data_append]
    simp [baL]
  cases h1 : baL a ++ baL b with
  | mk d => rw [h1] at this; cases h2 : baL (a ++ b) with
    | mk e => rw [h2] at this; simp only at this; rw [this]
theorem at_extr {s : ByteArray} {i : Nat} {l : List UInt8} (h : At s i l) (hi : i ≤ s.size) : s.extract i (i + l.length) = baL l := by
  have := at_extract (s := s) (i := i) (x := baL l) (by rw [baL_list]; exact h) hi
  rwa [baL_list] at this

theorem dg_byte {d : Nat} (h : d < 10) : (UInt8.ofNat (48 + d)).toNat = 48 + d := by
  rw [UInt8.toNat_ofNat']
  omega
theorem dec_digits (u : Nat) : ∀ b ∈ Lib.decDigits u, digitB (b.toNat : Int) = true := by
  induction u using Nat.strongRecOn with
  | _ u ih =>
    intro b hb
    rw [Lib.decDigits] at hb
    split at hb
    · rename_i h
      obtain rfl : b = UInt8.ofNat (48 + u) := by simpa using hb
      rw [dg_byte h]
      simp [digitB]; omega
    · rename_i h
      rw [List.mem_append] at hb
      rcases hb with hb | hb
      · exact ih (u / 10) (by omega) b hb
      · obtain rfl : b = UInt8.ofNat (48 + u % 10) := by simpa using hb
        rw [dg_byte (by omega)]
        simp [digitB]; omega
theorem dec_val (u : Nat) : ∀ (D : ByteArray) (i : Nat), At D i (Lib.decDigits u) → digV D i (Lib.decDigits u).length = (u : Int) := by
  induction u using Nat.strongRecOn with
  | _ u ih =>
    intro D i h
    rw [Lib.decDigits] at h ⊢
    split
    · rename_i h1
      rw [dif_pos h1] at h
      obtain ⟨h2, h3⟩ := At.one.1 h
      show digV D i 1 = _
      simp only [digV, Nat.add_zero]
      rw [h3, dg_byte h1]
      omega
    · rename_i h1
      rw [dif_neg h1, At.append] at h
      obtain ⟨h2, h3⟩ := At.one.1 h.2
      rw [List.length_append, List.length_singleton, digV, ih (u / 10) (by omega) D i h.1, h3, dg_byte (by omega)]
      omega
theorem dec_head (u : Nat) (h : 1 ≤ u) : ∃ b l, Lib.decDigits u = b :: l ∧ b.toNat ≠ 48 := by
  induction u using Nat.strongRecOn with
  | _ u ih =>
    rw [Lib.decDigits]
    split
    · rename_i h1
      exact ⟨_, [], rfl, by rw [dg_byte h1]; omega⟩
    · rename_i h1
      obtain ⟨b, l, h2, h3⟩ := ih (u / 10) (by omega) (by omega)
      exact ⟨b, l ++ [UInt8.ofNat (48 + u % 10)], by rw [h2]; rfl, h3⟩
theorem dec_pos (u : Nat) : 1 ≤ (Lib.decDigits u).length := by rw [Lib.decDigits_length]; exact Lib.nDigits_pos u
theorem num_at {s : ByteArray} {i u : Nat} (hu : u ≤ 9223372036854775807) (h : At s i (Lib.decDigits u)) (hn : NoW s (i + (Lib.decDigits u).length)) (hi : i ≤ s.size) : numE s i = some ((u : Int), i + (Lib.decDigits u).length) := by
  have hr : run digitB s i = i + (Lib.decDigits u).length := run_at _ i h (dec_digits u) (fun hh => by
    have := hn hh
    unfold wordB at this
    simp only [Bool.or_eq_false_iff] at this
    exact this.1.2)
  have hx := at_extr h hi
  have hl := dec_pos u
  have hw : wholeZ (baL (Lib.decDigits u)) = some (u : Int) := by
    have ha := at_whole (Lib.decDigits u)
    have hd : allD (baL (Lib.decDigits u)) 0 (Lib.decDigits u).length := fun j hj => by
      have := (ha j hj).2
      show digitB (((baL (Lib.decDigits u)).get! (0 + j)).toNat : Int) = true
      rw [show (baL (Lib.decDigits u)).get! (0 + j) = _ from this]
      exact dec_digits u _ (List.getElem_mem _)
    have hv := dec_val u (baL (Lib.decDigits u)) 0 ha
    have h0 := digit_range (hd 0 (by omega))
    unfold wholeZ
    rw [baL_size, if_neg (by simp only [Nat.add_zero] at h0; omega), if_pos ⟨by omega, (allDB_iff _ _ _).2 hd, by rw [hv]; omega⟩, hv]
  unfold numE
  simp only
  rw [hr, hx, hw]
  simp only
  rw [if_neg]
  rintro ⟨h1, h2⟩
  have hu1 : 10 ≤ u := by
    rcases Nat.lt_or_ge u 10 with hh | hh
    · rw [Lib.decDigits_length, Lib.nDigits_small hh] at h1; omega
    · exact hh
  obtain ⟨b, l, h3, h4⟩ := dec_head u (by omega)
  rw [h3] at h
  obtain ⟨⟨_, h5⟩, _⟩ := At.cons.1 h
  rw [h5] at h2
  exact h4 h2
theorem cut_num {s : ByteArray} {i u : Nat} (hu : u ≤ 9223372036854775807) (h : At s i (Lib.decDigits u)) (hn : NoW s (i + (Lib.decDigits u).length)) (hi : i ≤ s.size) : cutE s i = some ⟨1, emptyT, i, i + (Lib.decDigits u).length, (u : Int)⟩ := by
  have hl := dec_pos u
  have h0 := h 0 (by omega)
  have hd := dec_digits u _ (List.getElem_mem (show 0 < (Lib.decDigits u).length by omega))
  have hr := digit_range hd
  rw [cut_here (b := (Lib.decDigits u)[0]) (At.one.2 ⟨by omega, by simpa using h0.2⟩) (by simp [blankB]; omega)]
  unfold cutAt
  rw [if_pos (by omega), show s.get! i = _ from by simpa using h0.2, if_pos hd, num_at hu h hn hi]
  rfl
theorem cut_arg {s : ByteArray} {i u : Nat} (hu : u ≤ 9223372036854775807) (h : At s i (36 :: Lib.decDigits u)) (hn : NoW s (i + 1 + (Lib.decDigits u).length)) : cutE s i = some ⟨3, emptyT, i, i + 1 + (Lib.decDigits u).length, (u : Int)⟩ := by
  obtain ⟨⟨h1, h2⟩, h3⟩ := At.cons.1 h
  rw [cut_here (b := 36) (At.one.2 ⟨h1, h2⟩) rfl]
  unfold cutAt
  rw [if_pos h1, h2, if_neg (by decide), if_pos (show UInt8.toNat 36 = 36 by decide), num_at hu h3 hn (by omega)]
  rfl

/-- a text between quotes -/
def escB (b : UInt8) : List UInt8 := if b = 34 then [92, 34] else if b = 92 then [92, 92] else if b = 10 then [92, 110] else [b]
def escU (l : List UInt8) : List UInt8 := l.flatMap escB
theorem escU_append (a b : List UInt8) : escU (a ++ b) = escU a ++ escU b := by simp [escU]
theorem escU_same {l : List UInt8} (h : ∀ b ∈ l, b ≠ 34 ∧ b ≠ 92 ∧ b ≠ 10) : escU l = l := by
  induction l with
  | nil => rfl
  | cons b l ih =>
    have hb := h b (by simp)
    rw [show b :: l = [b] ++ l from rfl, escU_append, ih fun c hc => h c (by simp [hc])]
    simp [escU, escB, hb]
theorem dec_same {s x : ByteArray} {i k : Nat} (hk : k < x.size) (hok : okAt x k = true) (h : ∀ j, j < (Utf8.decode x k).2 → i + j < s.size ∧ s.get! (i + j) = x.get! (k + j)) : Utf8.decode s i = Utf8.decode x k := by
  have hx := Lib.decode_at x k
  have hs := Lib.decode_at s i
  have h0 := h 0 (by have := dec_width x k; omega)
  simp only [Nat.add_zero] at h0
  rcases Lib.decodeN_shape (x.size - k) (x.get! k).toNat (x.get! (k + 1)).toNat (x.get! (k + 2)).toNat (x.get! (k + 3)).toNat with ⟨c, e⟩ | ⟨c1, c2, c3, cv, e⟩ | ⟨c1, c2, c3, c4, cv, cs, e⟩ | ⟨c1, c2, c3, c4, c5, cv, cw, e⟩ | e
  · rw [hs, hx, e, h0.2, Lib.decodeN, if_pos c]
  · rw [e] at hx
    have h1 := h 1 (by rw [hx]; simp)
    rw [hs, hx, h0.2, h1.2]
    generalize (x.get! k).toNat = b0 at *
    generalize (x.get! (k + 1)).toNat = b1 at *
    rw [Lib.decodeN, if_neg (by omega), if_pos ⟨c1, by omega, c3⟩, if_pos (by omega)]
  · rw [e] at hx
    have h1 := h 1 (by rw [hx]; simp)
    have h2 := h 2 (by rw [hx]; simp)
    rw [hs, hx, h0.2, h1.2, h2.2]
    generalize (x.get! k).toNat = b0 at *
    generalize (x.get! (k + 1)).toNat = b1 at *
    generalize (x.get! (k + 2)).toNat = b2 at *
    rw [Lib.decodeN, if_neg (by omega), if_neg (by omega), if_pos ⟨c1, ⟨by omega, c3⟩, by omega, c4⟩, if_pos ⟨by omega, by omega⟩]
  · rw [e] at hx
    have h1 := h 1 (by rw [hx]; simp)
    have h2 := h 2 (by rw [hx]; simp)
    have h3 := h 3 (by rw [hx]; simp)
    rw [hs, hx, h0.2, h1.2, h2.2, h3.2]
    generalize (x.get! k).toNat = b0 at *
    generalize (x.get! (k + 1)).toNat = b1 at *
    generalize (x.get! (k + 2)).toNat = b2 at *
    generalize (x.get! (k + 3)).toNat = b3 at *
    rw [Lib.decodeN, if_neg (by omega), if_neg (by omega), if_neg (by omega), if_pos ⟨c1, ⟨by omega, c3⟩, ⟨by omega, c4⟩, by omega, c5⟩, if_pos ⟨by omega, by omega⟩]
  · exfalso
    rw [e] at hx
    unfold okAt at hok
    rw [hx] at hok
    simp at hok
/-- the bytes of a point of several bytes are high -/
theorem dec_high {x : ByteArray} {k : Nat} (hk : k < x.size) (hok : okAt x k = true) (hb : 128 ≤ (x.get! k).toNat) : ∀ j, j < (Utf8.decode x k).2 → 128 ≤ (x.get! (k + j)).toNat := by
  have hx := Lib.decode_at x k
  intro j hj
  rcases Lib.decodeN_shape (x.size - k) (x.get! k).toNat (x.get! (k + 1)).toNat (x.get! (k + 2)).toNat (x.get! (k + 3)).toNat with ⟨c, e⟩ | ⟨c1, c2, c3, cv, e⟩ | ⟨c1, c2, c3, c4, cv, cs, e⟩ | ⟨c1, c2, c3, c4, c5, cv, cw, e⟩ | e
  · omega
  · rw [e] at hx
    rw [hx] at hj
    simp only at hj
    rcases (show j = 0 ∨ j = 1 by omega) with rfl | rfl
    · simpa using hb
    · omega
  · rw [e] at hx
    rw [hx] at hj
    simp only at hj
    rcases (show j = 0 ∨ j = 1 ∨ j = 2 by omega) with rfl | rfl | rfl
    · simpa using hb
    · omega
    · omega
  · rw [e] at hx
    rw [hx] at hj
    simp only at hj
    rcases (show j = 0 ∨ j = 1 ∨ j = 2 ∨ j = 3 by omega) with rfl | rfl | rfl | rfl
    · simpa using hb
    · omega
    · omega
    · omega
  · exfalso
    rw [e] at hx
    unfold okAt at hok
    rw [hx] at hok
    simp at hok

end Go.Proofs.YthbglakncijahaaGreatDoor

namespace Go.Proofs.YthbglakncijahaaGreatDoor
open Go.RowKit
set_option linter.unusedVariables false
set_option maxRecDepth 100000

theorem drop_get {x : ByteArray} {k : Nat} (hk : k < x.size) : x.data.toList.drop k = x.get! k :: x.data.toList.drop (k + 1) := by
  have h1 : k < x.data.toList.length := by rw [Array.length_toList]; exact hk
  rw [List.drop_eq_getElem_cons h1]
  congr 1
  rw [get_bangA]
  have h2 : k < x.data.size := hk
  rw [Array.getElem?_eq_getElem h2]
  simp
theorem drop_piece {x : ByteArray} {k n : Nat} (h : k + n ≤ x.size) : ∃ l, l.length = n ∧ x.data.toList.drop k = l ++ x.data.toList.drop (k + n) ∧ (∀ j, (hj : j < l.length) → l[j] = x.get! (k + j)) ∧ x.data.toList.take (k + n) = x.data.toList.take k ++ l := by
  have hsz : x.data.toList.length = x.size := by rw [Array.length_toList]; rfl
  refine ⟨(x.data.toList.drop k).take n, by simp; omega, ?_, fun j hj => ?_, ?_⟩
  · rw [← List.drop_drop, List.take_append_drop]
  · have h2 : k + j < x.data.size := by simp at hj; show _ < x.size; omega
    rw [get_bangA, Array.getElem?_eq_getElem h2]
    simp
  · rw [List.take_add]
set_option maxHeartbeats 4000000 in
theorem quo_at {s x : ByteArray} : ∀ (f k i g : Nat), x.size ≤ k + f → k ≤ x.size → wholeFrom x f k = true → At s i (escU (x.data.toList.drop k) ++ [34]) → i ≤ s.size → s.size < i + g → quoE s g i (baL (x.data.toList.take k)) = some (x, i + (escU (x.data.toList.drop k)).length + 1)
  | f, k, i, 0, _, _, _, h, hi, hg => by omega
  | f, k, i, g + 1, hf, hk, hw, h, hi, hg => by
    have hsz : x.data.toList.length = x.size := by rw [Array.length_toList]; rfl
    by_cases hlt : k < x.size
    · obtain ⟨f', rfl⟩ : ∃ f', f = f' + 1 := ⟨f - 1, by omega⟩
      rw [wholeFrom_step x f' k hlt, Bool.and_eq_true] at hw
      obtain ⟨hok, hw2⟩ := hw
      have hd1 := dec_width x k
      have hdl := dec_le x k hlt
      by_cases hb : 128 ≤ (x.get! k).toNat
      · -- several bytes
        obtain ⟨l, hl, hdrop, hget, htake⟩ := drop_piece hdl
        have hhigh := dec_high hlt hok hb
        have hesc : escU l = l := escU_same fun b hb2 => by
          obtain ⟨j, hj, rfl⟩ := List.getElem_of_mem hb2
          have h3 := hhigh j (by omega)
          rw [← hget j hj] at h3
          refine ⟨fun e => ?_, fun e => ?_, fun e => ?_⟩ <;> (rw [e] at h3; revert h3; decide)
        rw [hdrop, escU_append, hesc, List.append_assoc, At.append] at h
        obtain ⟨hA, hB⟩ := h
        have hbytes : ∀ j, j < (Utf8.decode x k).2 → i + j < s.size ∧ s.get! (i + j) = x.get! (k + j) := fun j hj => by
          have h3 := hA j (by omega)
          exact ⟨h3.1, by rw [h3.2, hget j (by omega)]⟩
        have hdec := dec_same hlt hok hbytes
        have hi1 : i < s.size := by have := (hbytes 0 (by omega)).1; omega
        have hg0 : s.get! i = x.get! k := by have := (hbytes 0 (by omega)).2; simpa using this
        have hoks : okAt s i = true := by unfold okAt at hok ⊢; rw [hdec]; exact hok
        have hle2 := hA.le hi
        rw [quoE, if_pos hi1, if_neg (by rw [hoks, hg0]; rintro (h | h); cases h; omega), if_neg (by rw [hg0]; omega), if_pos (by rw [hg0]; omega), hdec]
        have hpc : s.extract i (i + (Utf8.decode x k).2) = baL l := by rw [← hl]; exact at_extr hA hi
        rw [hpc, baL_append, ← htake]
        rw [hl] at hB
        have := quo_at f' (k + (Utf8.decode x k).2) (i + (Utf8.decode x k).2) g (by omega) hdl hw2 hB (by omega) (by omega)
        rw [this, hdrop, escU_append, hesc, List.length_append, hl]
        simp only [Option.some.injEq, Prod.mk.injEq, true_and]
        omega
      · -- one byte
        have hd : Utf8.decode x k = ((x.get! k).toNat, 1) := by rw [Lib.decode_at, Lib.decodeN, if_pos (by omega)]
        rw [hd] at hw2
        have hdrop := drop_get hlt
        have htake : x.data.toList.take (k + 1) = x.data.toList.take k ++ [x.get! k] := by
          rw [List.take_add, hdrop]; rfl
        rw [hdrop, show x.get! k :: x.data.toList.drop (k + 1) = [x.get! k] ++ x.data.toList.drop (k + 1) from rfl, escU_append, List.append_assoc] at h
        have e1 : escU [x.get! k] = escB (x.get! k) := by simp [escU]
        rw [e1, At.append] at h
        obtain ⟨hA, hB⟩ := h
        have hlen : (escU (x.data.toList.drop k)).length = (escB (x.get! k)).length + (escU (x.data.toList.drop (k + 1))).length := by
          rw [hdrop, show x.get! k :: x.data.toList.drop (k + 1) = [x.get! k] ++ x.data.toList.drop (k + 1) from rfl, escU_append, e1, List.length_append]
        have asc : ∀ {j : Nat} {b : UInt8}, At s j [b] → b.toNat < 128 → okAt s j = true ∧ Utf8.decode s j = (b.toNat, 1) := fun {j b} hj hb => by
          obtain ⟨_, h2⟩ := At.one.1 hj
          have hd2 : Utf8.decode s j = (b.toNat, 1) := by rw [Lib.decode_at, h2, Lib.decodeN, if_pos hb]
          refine ⟨?_, hd2⟩
          unfold okAt
          rw [hd2]
          simp
          omega
        have fin : ∀ {i2 : Nat}, i2 = i + (escB (x.get! k)).length → i2 ≤ s.size → quoE s g i2 (baL (x.data.toList.take (k + 1))) = some (x, i + (escU (x.data.toList.drop k)).length + 1) := fun {i2} e hle => by
          rw [← e] at hB
          have hne : 1 ≤ (escB (x.get! k)).length := by unfold escB; split <;> (try split) <;> (try split) <;> simp
          have := quo_at f' (k + 1) i2 g (by omega) (by omega) hw2 hB hle (by omega)
          rw [this, hlen]
          simp only [Option.some.injEq, Prod.mk.injEq, true_and]
          omega
        have hle := hA.le hi
        by_cases h34 : x.get! k = 34
        · have eb : escB (x.get! k) = [92, 34] := by rw [h34]; rfl
          rw [eb] at hA hle fin
          obtain ⟨⟨p1, p2⟩, hA2⟩ := At.cons.1 hA
          obtain ⟨p3, p4⟩ := At.one.1 hA2
          obtain ⟨q1, q2⟩ := asc (At.one.2 ⟨p1, p2⟩) (by decide)
          rw [quoE, if_pos p1, if_neg (by rw [q1, p2]; rintro (h | h); cases h; revert h; decide), if_neg (by rw [p2]; decide), if_neg (by rw [p2]; decide), if_pos p3, if_neg (by rw [p4]; decide), if_pos (by rw [p4]; decide)]
          rw [show (⟨#[34]⟩ : ByteArray) = baL [34] from rfl, baL_append, ← h34, ← htake]
          exact fin rfl hle
        · by_cases h92 : x.get! k = 92
          · have eb : escB (x.get! k) = [92, 92] := by rw [h92]; rfl
            rw [eb] at hA hle fin
            obtain ⟨⟨p1, p2⟩, hA2⟩ := At.cons.1 hA
            obtain ⟨p3, p4⟩ := At.one.1 hA2
            obtain ⟨q1, q2⟩ := asc (At.one.2 ⟨p1, p2⟩) (by decide)
            rw [quoE, if_pos p1, if_neg (by rw [q1, p2]; rintro (h | h); cases h; revert h; decide), if_neg (by rw [p2]; decide), if_neg (by rw [p2]; decide), if_pos p3, if_neg (by rw [p4]; decide), if_neg (by rw [p4]; decide), if_pos (by rw [p4]; decide)]
            rw [show (⟨#[92]⟩ : ByteArray) = baL [92] from rfl, baL_append, ← h92, ← htake]
            exact fin rfl hle
          · by_cases h10 : x.get! k = 10
            · have eb : escB (x.get! k) = [92, 110] := by rw [h10]; rfl
              rw [eb] at hA hle fin
              obtain ⟨⟨p1, p2⟩, hA2⟩ := At.cons.1 hA
              obtain ⟨p3, p4⟩ := At.one.1 hA2
              obtain ⟨q1, q2⟩ := asc (At.one.2 ⟨p1, p2⟩) (by decide)
              rw [quoE, if_pos p1, if_neg (by rw [q1, p2]; rintro (h | h); cases h; revert h; decide), if_neg (by rw [p2]; decide), if_neg (by rw [p2]; decide), if_pos p3, if_pos (by rw [p4]; decide)]
              rw [show (⟨#[10]⟩ : ByteArray) = baL [10] from rfl, baL_append, ← h10, ← htake]
              exact fin rfl hle
            · have eb : escB (x.get! k) = [x.get! k] := by unfold escB; rw [if_neg h34, if_neg h92, if_neg h10]
              rw [eb] at hA hle fin
              obtain ⟨p1, p2⟩ := At.one.1 hA
              obtain ⟨q1, q2⟩ := asc hA (by omega)
              have inj : ∀ {c : UInt8}, x.get! k ≠ c → (x.get! k).toNat ≠ c.toNat := fun hne e => hne (UInt8.toNat_inj.1 e)
              have n34 := inj h34
              have n92 := inj h92
              have n10 := inj h10
              rw [quoE, if_pos p1, if_neg (by rw [q1, p2]; rintro (h | h); cases h; exact n10 h), if_neg (by rw [p2]; exact n34), if_pos (by rw [p2]; exact n92), q2]
              have hpc : s.extract i (i + 1) = baL [x.get! k] := at_extr hA hi
              simp only
              rw [hpc, baL_append, ← htake]
              exact fin rfl hle
    · obtain rfl : k = x.size := by omega
      have hdn : x.data.toList.drop x.size = [] := List.drop_eq_nil_of_le (by omega)
      have htn : x.data.toList.take x.size = x.data.toList := List.take_of_length_le (by omega)
      rw [hdn] at h ⊢
      obtain ⟨p1, p2⟩ := At.one.1 (show At s i [34] from h)
      have hd2 : Utf8.decode s i = (34, 1) := by rw [Lib.decode_at, p2, Lib.decodeN, if_pos (by decide)]; rfl
      have hok : okAt s i = true := by unfold okAt; rw [hd2]; rfl
      rw [quoE, if_pos p1, if_neg (by rw [hok, p2]; rintro (h | h); cases h; revert h; decide), if_pos (by rw [p2]; decide), htn, baL_self]
      rfl
theorem cut_text {s x : ByteArray} {i : Nat} (hw : whole x = true) (h : At s i (34 :: (escU x.data.toList ++ [34]))) : cutE s i = some ⟨2, x, i, i + 1 + (escU x.data.toList).length + 1, 0⟩ := by
  obtain ⟨⟨h1, h2⟩, h3⟩ := At.cons.1 h
  rw [cut_here (b := 34) (At.one.2 ⟨h1, h2⟩) rfl]
  unfold cutAt
  have hq := quo_at (s := s) (x := x) x.size 0 (i + 1) (s.size - i) (by omega) (by omega) hw (by simpa using h3) (by omega) (by omega)
  rw [if_pos h1, h2, if_neg (by decide), if_neg (by decide), if_pos (show UInt8.toNat 34 = 34 by decide)]
  have e : baL (x.data.toList.take 0) = emptyT := rfl
  rw [e] at hq
  rw [hq]
  simp

end Go.Proofs.YthbglakncijahaaGreatDoor
