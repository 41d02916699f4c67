/- Texts of the proof, put together: AWrE, AWrF. -/
import Derived.Test.YthbglakncijahaaGreatDoorAw23
import Derived.Test.YthbglakncijahaaGreatDoorAw25
namespace Go.Proofs.YthbglakncijahaaGreatDoor
open Go.RowKit
set_option linter.unusedVariables false
set_option maxRecDepth 100000

/-- how tight an expression holds together -/
def tightU (k : Int) (x : ByteArray) : Nat := if k = 5 ∨ k = 6 then 0 else if k = 7 then (lvlL x.toList + 1).toNat else if k = 8 then 4 else 5
def rowU : List (Nat → List UInt8) → List UInt8
  | [] => []
  | [a] => a 0
  | a :: b :: l => a 0 ++ ([44, 32] ++ rowU (b :: l))
def nthU (ws : List (Nat → List UInt8)) (i : Nat) : Nat → List UInt8 := ws.getD i fun _ => []
def bareU (k n : Int) (x : ByteArray) (ws : List (Nat → List UInt8)) : List UInt8 :=
  if k = 1 then Lib.itoa n
  else if k = 2 then 34 :: (escU x.data.toList ++ [34])
  else if k = 3 then 36 :: Lib.itoa n
  else if k = 5 then [108, 101, 116, 32] ++ (x.data.toList ++ ([32, 61, 32] ++ (nthU ws 0 0 ++ ([32, 105, 110, 32] ++ nthU ws 1 0))))
  else if k = 6 then [105, 102, 32] ++ (nthU ws 0 0 ++ ([32, 116, 104, 101, 110, 32] ++ (nthU ws 1 0 ++ ([32, 101, 108, 115, 101, 32] ++ nthU ws 2 0))))
  else if k = 7 then nthU ws 0 (if tightU 7 x = 1 then 2 else tightU 7 x) ++ ([32] ++ (x.data.toList ++ ([32] ++ nthU ws 1 (tightU 7 x + 1))))
  else if k = 8 then 45 :: nthU ws 0 4
  else if k = 9 then 91 :: (rowU ws ++ [93])
  else if k = 10 then x.data.toList ++ (40 :: (rowU ws ++ [41]))
  else x.data.toList
/-- its text where what is looser than a level stands in brackets -/
def wrU (t : Ex) : Nat → List UInt8 := match t with
  | ⟨_, k, n, x, ks⟩ => fun lv => if tightU k x < lv then 40 :: (bareU k n x (ks.map wrU) ++ [41]) else bareU k n x (ks.map wrU)
def barE (t : Ex) : List UInt8 := bareU t.kind t.num t.text (t.kids.map wrU)
def tigE (t : Ex) : Nat := tightU t.kind t.text
theorem wrU_eq (t : Ex) (lv : Nat) : wrU t lv = if tigE t < lv then 40 :: (barE t ++ [41]) else barE t := by obtain ⟨i, k, n, x, ks⟩ := t; rw [wrU]; rfl

/-- an operator of a level -/
def opAt (n : Int) (u : Tok) : Prop := u.kind = 6 ∧ lvlL u.text.toList = n
/-- neither let nor if, nor a bracket that closes a list -/
def notLI (t : Tok) : Prop := isS letL (some t) = false ∧ isS ifL (some t) = false ∧ isS [93] (some t) = false
abbrev exF (s : ByteArray) (f : Nat) : Tok → RE := exprS s f
abbrev sgF (s : ByteArray) (f : Nat) : Tok → RE := sgdS s (exprS s f) (s.size + 1)
abbrev l2F (s : ByteArray) (f : Nat) : Tok → RE := levS s 2 (sgF s f)
abbrev l1F (s : ByteArray) (f : Nat) : Tok → RE := levS s 1 (l2F s f)
abbrev l0F (s : ByteArray) (f : Nat) : Tok → RE := levS s 0 (l1F s f)
/-- from a token on an expression is read, as a level asks, up to another token -/
def RdS (s : ByteArray) (f : Nat) (t : Tok) (e : Ex) (u : Tok) : Nat → Prop
  | 5 => atomS s (exF s f) t = some (e, u) ∧ isS [45] (some t) = false ∧ notLI t
  | 4 => (∀ g, s.size + 1 ≤ g + t.fr → sgdS s (exF s f) g t = some (e, u)) ∧ notLI t
  | 3 => l2F s f t = opsS s 2 (sgF s f) (s.size + 1) e u ∧ notLI t
  | 2 => (¬ opAt 2 u → l1F s f t = opsS s 1 (l2F s f) (s.size + 1) e u) ∧ notLI t
  | 1 => (¬ opAt 2 u → ¬ opAt 1 u → ¬ opAt 0 u → l0F s f t = some (e, u)) ∧ notLI t
  | _ => (¬ opAt 2 u → ¬ opAt 1 u → ¬ opAt 0 u → exprS s (f + 1) t = some (e, u)) ∧ isS [93] (some t) = false
theorem ops_stop {s : ByteArray} {n : Int} {sub : Tok → RE} {a : Ex} {u : Tok} (h : ¬ opAt n u) : opsS s n sub (s.size + 1) a u = some (a, u) := ops_miss h
theorem RdS.d5 {s : ByteArray} {f : Nat} {t : Tok} {e : Ex} {u : Tok} (h : RdS s f t e u 5) (ht : TokOk s t) : RdS s f t e u 4 := by
  refine ⟨fun g hg => ?_, h.2.2⟩
  obtain ⟨g', rfl⟩ : ∃ g', g = g' + 1 := ⟨g - 1, by have := ht.2.1; omega⟩
  rw [sgdS, h.2.1]
  exact h.1
theorem RdS.d4 {s : ByteArray} {f : Nat} {t : Tok} {e : Ex} {u : Tok} (h : RdS s f t e u 4) : RdS s f t e u 3 := by
  refine ⟨?_, h.2⟩
  have := h.1 (s.size + 1) (by omega)
  show levS s 2 (sgF s f) t = _
  unfold levS
  rw [show sgF s f t = some (e, u) from this]
theorem RdS.d3 {s : ByteArray} {f : Nat} {t : Tok} {e : Ex} {u : Tok} (h : RdS s f t e u 3) : RdS s f t e u 2 := by
  refine ⟨fun h2 => ?_, h.2⟩
  show levS s 1 (l2F s f) t = _
  unfold levS
  rw [show l2F s f t = some (e, u) from h.1.trans (ops_stop h2)]
theorem RdS.d2 {s : ByteArray} {f : Nat} {t : Tok} {e : Ex} {u : Tok} (h : RdS s f t e u 2) : RdS s f t e u 1 := by
  refine ⟨fun h2 h1 h0 => ?_, h.2⟩
  show levS s 0 (l1F s f) t = _
  unfold levS
  rw [show l1F s f t = some (e, u) from (h.1 h2).trans (ops_stop h1)]
  exact ops_stop h0
theorem RdS.d1 {s : ByteArray} {f : Nat} {t : Tok} {e : Ex} {u : Tok} (h : RdS s f t e u 1) : RdS s f t e u 0 := by
  refine ⟨fun h2 h1 h0 => ?_, h.2.2.2⟩
  rw [exprS, h.2.1, h.2.2.1]
  exact h.1 h2 h1 h0
/-- as a looser level asks -/
theorem RdS.down {s : ByteArray} {f : Nat} {t : Tok} {e : Ex} {u : Tok} (ht : TokOk s t) : ∀ {a b : Nat}, b ≤ a → a ≤ 5 → RdS s f t e u a → RdS s f t e u b := by
  intro a b hb ha h
  rcases (show a = 0 ∨ a = 1 ∨ a = 2 ∨ a = 3 ∨ a = 4 ∨ a = 5 by omega) with rfl | rfl | rfl | rfl | rfl | rfl
  · obtain rfl : b = 0 := by omega
    exact h
  · rcases (show b = 0 ∨ b = 1 by omega) with rfl | rfl
    · exact h.d1
    · exact h
  · rcases (show b = 0 ∨ b = 1 ∨ b = 2 by omega) with rfl | rfl | rfl
    · exact h.d2.d1
    · exact h.d2
    · exact h
  · rcases (show b = 0 ∨ b = 1 ∨ b = 2 ∨ b = 3 by omega) with rfl | rfl | rfl | rfl
    · exact h.d3.d2.d1
    · exact h.d3.d2
    · exact h.d3
    · exact h
  · rcases (show b = 0 ∨ b = 1 ∨ b = 2 ∨ b = 3 ∨ b = 4 by omega) with rfl | rfl | rfl | rfl | rfl
    · exact h.d4.d3.d2.d1
    · exact h.d4.d3.d2
    · exact h.d4.d3
    · exact h.d4
    · exact h
  · rcases (show b = 0 ∨ b = 1 ∨ b = 2 ∨ b = 3 ∨ b = 4 ∨ b = 5 by omega) with rfl | rfl | rfl | rfl | rfl | rfl
    · exact (h.d5 ht).d4.d3.d2.d1
    · exact (h.d5 ht).d4.d3.d2
    · exact (h.d5 ht).d4.d3
    · exact (h.d5 ht).d4
    · exact h.d5 ht
    · exact h
/-- an expression's text is read again -/
def RdT (t : Ex) (l : List UInt8) (lv : Nat) : Prop := ∀ (s : ByteArray) (i : Nat) (u : Tok) (f : Nat), At s i l → i ≤ s.size → NoW s (i + l.length) → cutE s (i + l.length) = some u → s.size ≤ f + i → ∃ t0, cutE s i = some t0 ∧ t0.fr = i ∧ RdS s f t0 t u lv
theorem cut_ok {s : ByteArray} {i : Nat} {t : Tok} (hi : i ≤ s.size) (h : cutE s i = some t) : TokOk s t := by
  have := cut_goes hi h
  exact ⟨this.2.2.2.2.2.1, this.2.1, this.2.2.1, this.2.2.2.1⟩
theorem RdT.down {t : Ex} {l : List UInt8} {a b : Nat} (h : RdT t l a) (hb : b ≤ a) (ha : a ≤ 5) : RdT t l b := fun s i u f h1 h2 h3 h4 h5 => by
  obtain ⟨t0, q1, q2, q3⟩ := h s i u f h1 h2 h3 h4 h5
  exact ⟨t0, q1, q2, RdS.down (cut_ok h2 q1) hb ha q3⟩
theorem isS_sign {b : UInt8} {i j : Nat} {n : Int} {x : List UInt8} : isS x (some ⟨6, ⟨#[b]⟩, i, j, n⟩) = ([b] == x) := by
  simp only [isS]
  rw [Lib.toList_data]
  rfl
theorem notLI_kind {t : Tok} (h6 : t.kind ≠ 6) (h4 : t.kind ≠ 4) : notLI t := by
  unfold notLI
  simp [isS, h6, h4]
theorem isS_kind {t : Tok} {x : List UInt8} (h6 : t.kind ≠ 6) (h4 : t.kind ≠ 4) : isS x (some t) = false := by
  simp [isS, h6, h4]
theorem notLI_sign {b : UInt8} {i j : Nat} {n : Int} (hb : b ≠ 93) : notLI ⟨6, ⟨#[b]⟩, i, j, n⟩ := by
  unfold notLI
  rw [isS_sign, isS_sign, isS_sign]
  exact ⟨by simp [letL], by simp [ifL], by simp [hb]⟩
theorem cut_one {s : ByteArray} {i : Nat} {b : UInt8} (h : At s i [b]) (hb : sgnB b.toNat = true) (h1 : b.toNat ≠ 61) (h2 : b.toNat ≠ 43) : cutE s i = some ⟨6, ⟨#[b]⟩, i, i + 1, 0⟩ :=
  cut_sign h hb (by rintro ⟨_, ⟨h, _⟩ | ⟨h, _⟩⟩; exact h1 h; exact h2 h)
theorem noW_byte {s : ByteArray} {j : Nat} {b : UInt8} {l : List UInt8} (h : At s j (b :: l)) (hb : wordB (b.toNat : Int) = false) : NoW s j := fun _ => by
  rw [(At.cons.1 h).1.2]
  exact hb
theorem op_sign {b : UInt8} {i j : Nat} {n : Int} {k : Int} (h : lvlL [b] = -1) (hk : 0 ≤ k) : ¬ opAt k ⟨6, ⟨#[b]⟩, i, j, n⟩ := by
  rintro ⟨_, h2⟩
  rw [Lib.toList_data] at h2
  have : lvlL [b] = k := h2
  omega
theorem op_word {x : ByteArray} {i j : Nat} {n : Int} {k : Int} : ¬ opAt k ⟨4, x, i, j, n⟩ := by
  rintro ⟨h1, _⟩
  exact absurd h1 (by simp)
theorem atom_paren' {s : ByteArray} {ex : Tok → RE} {t : Tok} (hi : isS [40] (some t) = true) : atomS s ex t = match (nextS s (some t)).bind ex with | none => none | some (e, u) => (needS s [41] (some u)).map fun v => (e, v) := by
  have hk := is_kind hi
  unfold atomS
  rw [if_neg (by omega), if_neg (by omega), if_neg (by omega), if_pos hi]
  cases (nextS s (some t)).bind ex <;> rfl
/-- in brackets -/
theorem rd_paren {t : Ex} {l : List UInt8} (h : RdT t l 0) : RdT t (40 :: (l ++ [41])) 5 := by
  intro s i u f hA hi hn hu hf
  obtain ⟨⟨p1, p2⟩, hB⟩ := At.cons.1 hA
  obtain ⟨hC, hD⟩ := At.append.1 hB
  obtain ⟨q1, q2⟩ := At.one.1 hD
  have hlen : (40 :: (l ++ [41])).length = l.length + 2 := by simp
  rw [hlen] at hu hn
  have hT0 : cutE s i = some ⟨6, ⟨#[40]⟩, i, i + 1, 0⟩ := cut_one (At.one.2 ⟨p1, p2⟩) (by decide) (by decide) (by decide)
  have hT1 : cutE s (i + 1 + l.length) = some ⟨6, ⟨#[41]⟩, i + 1 + l.length, i + 1 + l.length + 1, 0⟩ := cut_one hD (by decide) (by decide) (by decide)
  obtain ⟨f', rfl⟩ : ∃ f', f = f' + 1 := ⟨f - 1, by omega⟩
  obtain ⟨t1, e1, e2, e3⟩ := h s (i + 1) _ f' hC (by omega) (noW_byte hD (by decide)) hT1 (by omega)
  have e4 := e3.1 (op_sign rfl (by omega)) (op_sign rfl (by omega)) (op_sign rfl (by omega))
  refine ⟨_, hT0, rfl, ?_, by rw [isS_sign]; rfl, notLI_sign (by decide)⟩
  rw [atom_paren' (by rw [isS_sign]; rfl)]
  have n1 : nextS s (some ⟨6, ⟨#[40]⟩, i, i + 1, 0⟩) = some t1 := e1
  rw [n1, Option.bind_some]
  rw [show exF s (f' + 1) t1 = _ from e4]
  simp only
  unfold needS
  rw [isS_sign, if_pos (by rfl)]
  have n2 : nextS s (some ⟨6, ⟨#[41]⟩, i + 1 + l.length, i + 1 + l.length + 1, 0⟩) = some u := by
    show cutE s (i + 1 + l.length + 1) = _
    rw [show i + 1 + l.length + 1 = i + (l.length + 2) by omega]
    exact hu
  rw [n2]
  rfl
/-- at any level -/
theorem rd_level {t : Ex} (h : RdT t (barE t) (tigE t)) (ht : tigE t ≤ 5) {lv : Nat} (hl : lv ≤ 5) : RdT t (wrU t lv) lv := by
  rw [wrU_eq]
  split
  · exact (rd_paren (h.down (by omega) ht)).down (by omega) (by omega)
  · exact h.down (by omega) ht

end Go.Proofs.YthbglakncijahaaGreatDoor

namespace Go.Proofs.YthbglakncijahaaGreatDoor
open Go.RowKit
set_option linter.unusedVariables false
set_option maxRecDepth 100000

theorem rd_num {u : Nat} (hu : u ≤ 9223372036854775807) : RdT (exN 1 (u : Int) emptyT []) (Lib.decDigits u) 5 := by
  intro s i v f hA hi hn hv hf
  refine ⟨_, cut_num hu hA hn hi, rfl, ?_, isS_kind (by simp) (by simp), notLI_kind (by simp) (by simp)⟩
  unfold atomS
  rw [if_pos rfl]
  have : nextS s (some ⟨1, emptyT, i, i + (Lib.decDigits u).length, (u : Int)⟩) = some v := hv
  rw [this]
  rfl
theorem rd_arg {u : Nat} (hu : u ≤ 9223372036854775807) : RdT (exN 3 (u : Int) emptyT []) (36 :: Lib.decDigits u) 5 := by
  intro s i v f hA hi hn hv hf
  have hlen : (36 :: Lib.decDigits u).length = (Lib.decDigits u).length + 1 := by simp
  rw [hlen] at hn hv
  refine ⟨_, cut_arg hu hA (by rwa [show i + 1 + (Lib.decDigits u).length = i + ((Lib.decDigits u).length + 1) by omega]), rfl, ?_, isS_kind (by simp) (by simp), notLI_kind (by simp) (by simp)⟩
  unfold atomS
  rw [if_neg (by simp), if_pos rfl]
  have : nextS s (some ⟨3, emptyT, i, i + 1 + (Lib.decDigits u).length, (u : Int)⟩) = some v := by
    show cutE s (i + 1 + (Lib.decDigits u).length) = _
    rw [show i + 1 + (Lib.decDigits u).length = i + ((Lib.decDigits u).length + 1) by omega]
    exact hv
  rw [this]
  rfl
theorem rd_text {x : ByteArray} (hw : whole x = true) : RdT (exN 2 0 x []) (34 :: (escU x.data.toList ++ [34])) 5 := by
  intro s i v f hA hi hn hv hf
  have hlen : (34 :: (escU x.data.toList ++ [34])).length = (escU x.data.toList).length + 2 := by simp
  rw [hlen] at hv
  refine ⟨_, cut_text hw hA, rfl, ?_, isS_kind (by simp) (by simp), notLI_kind (by simp) (by simp)⟩
  unfold atomS
  rw [if_neg (by simp), if_neg (by simp), if_pos rfl]
  have : nextS s (some ⟨2, x, i, i + 1 + (escU x.data.toList).length + 1, 0⟩) = some v := by
    show cutE s (i + 1 + (escU x.data.toList).length + 1) = _
    rw [show i + 1 + (escU x.data.toList).length + 1 = i + ((escU x.data.toList).length + 2) by omega]
    exact hv
  rw [this]
  rfl

/-- a word's bytes -/
structure WordL (l : List UInt8) : Prop where
  head : ∃ b r, l = b :: r ∧ smallB (b.toNat : Int) = true
  all : ∀ c ∈ l, wordB (c.toNat : Int) = true
theorem word_list {x : ByteArray} (h : isWordB x = true) : WordL x.data.toList := by
  unfold isWordB at h
  simp only [Bool.and_eq_true, decide_eq_true_eq] at h
  obtain ⟨h1, h2, h3⟩ := h
  have hsz : x.data.toList.length = x.size := by rw [Array.length_toList]; rfl
  have hget : ∀ j, (hj : j < x.data.toList.length) → x.data.toList[j] = x.get! j := fun j hj => by
    rw [get_bangA, Array.getElem?_eq_getElem (by simpa using hj)]
    simp
  refine ⟨?_, fun c hc => ?_⟩
  · have := drop_get h1
    rw [List.drop_zero] at this
    exact ⟨_, _, this, h2⟩
  · obtain ⟨j, hj, rfl⟩ := List.getElem_of_mem hc
    rw [hget j hj]
    unfold allB at h3
    rw [List.all_eq_true] at h3
    exact h3 j (List.mem_range.2 (by omega))
theorem WordL.cut {x : ByteArray} {s : ByteArray} {i : Nat} (h : WordL x.data.toList) (hA : At s i x.data.toList) (hn : NoW s (i + x.data.toList.length)) (hi : i ≤ s.size) : cutE s i = some ⟨4, x, i, i + x.data.toList.length, 0⟩ := by
  obtain ⟨b, r, h1, h2⟩ := h.head
  exact cut_word h1 hA h2 h.all hn hi
theorem WordL.isS {x : ByteArray} {i j : Nat} {n : Int} {b : UInt8} (h : WordL x.data.toList) (hb : smallB (b.toNat : Int) = false) : isS [b] (some ⟨4, x, i, j, n⟩) = false := by
  obtain ⟨c, r, h1, h2⟩ := h.head
  simp only [Go.Proofs.YthbglakncijahaaGreatDoor.isS]
  rw [Lib.toList_data, h1]
  have : (c :: r == [b]) = false := by
    rw [beq_eq_false_iff_ne]
    intro e
    simp only [List.cons.injEq] at e
    rw [e.1, hb] at h2
    cases h2
  rw [this, Bool.and_false]
theorem kept_not {x : ByteArray} {i j : Nat} {n : Int} (hw : WordL x.data.toList) (h : keptL x.toList = false) : notLI ⟨4, x, i, j, n⟩ := by
  unfold notLI
  refine ⟨?_, ?_, hw.isS (by decide)⟩
  · cases hc : isS letL (some ⟨4, x, i, j, n⟩) with
    | false => rfl
    | true =>
      simp only [isS, Bool.and_eq_true, beq_iff_eq] at hc
      rw [hc.2] at h
      revert h
      decide
  · cases hc : isS ifL (some ⟨4, x, i, j, n⟩) with
    | false => rfl
    | true =>
      simp only [isS, Bool.and_eq_true, beq_iff_eq] at hc
      rw [hc.2] at h
      revert h
      decide
theorem rd_name {x : ByteArray} (hx : isNameB x = true) : RdT (exN 4 0 x []) x.data.toList 5 := by
  unfold isNameB at hx
  simp only [Bool.and_eq_true, Bool.not_eq_true', beq_iff_eq] at hx
  obtain ⟨h1, h2, h3, h4⟩ := hx
  have hw := word_list h1
  intro s i v f hA hi hn hv hf
  refine ⟨_, hw.cut hA hn hi, rfl, ?_, hw.isS (by decide), kept_not hw h3⟩
  unfold atomS
  rw [if_neg (by simp), if_neg (by simp), if_neg (by simp), if_neg (by rw [hw.isS (by decide)]; simp), if_neg (by rw [hw.isS (by decide)]; simp), if_neg (by rw [h4]; simp)]
  have hnm : namedS (some ⟨4, x, i, i + x.data.toList.length, 0⟩) = true := by
    simp only [namedS]
    rw [h3, h4]
    rfl
  have : nameS s (some ⟨4, x, i, i + x.data.toList.length, 0⟩) = some v := by
    unfold nameS
    rw [if_pos hnm]
    exact hv
  rw [this]
  rfl
theorem rd_neg {k : Ex} {l : List UInt8} (h : RdT k l 4) : RdT (exN 8 0 emptyT [k]) (45 :: l) 4 := by
  intro s i v f hA hi hn hv hf
  obtain ⟨⟨p1, p2⟩, hB⟩ := At.cons.1 hA
  have hlen : (45 :: l).length = l.length + 1 := by simp
  rw [hlen] at hn hv
  obtain ⟨t1, e1, e2, e3, e4⟩ := h s (i + 1) v f hB (by omega) (by rwa [show i + 1 + l.length = i + (l.length + 1) by omega]) (by rw [show i + 1 + l.length = i + (l.length + 1) by omega]; exact hv) (by omega)
  refine ⟨_, cut_one (At.one.2 ⟨p1, p2⟩) (by decide) (by decide) (by decide), rfl, fun g hg => ?_, notLI_sign (by decide)⟩
  simp only at hg
  obtain ⟨g', rfl⟩ : ∃ g', g = g' + 1 := ⟨g - 1, by omega⟩
  rw [sgdS, isS_sign, if_pos (by rfl)]
  have : nextS s (some ⟨6, ⟨#[45]⟩, i, i + 1, 0⟩) = some t1 := e1
  rw [this, Option.bind_some, e3 g' (by omega)]

/-- readers of operators ask for no more than enough -/
theorem ops_fuel {s : ByteArray} {n : Int} {sub : Tok → RE} (hx : GoesE s sub) : ∀ (f g : Nat) (a : Ex) (u : Tok), TokOk s u → s.size + 1 ≤ f + u.fr → s.size + 1 ≤ g + u.fr → opsS s n sub f a u = opsS s n sub g a u
  | 0, g, a, u, hu, hf, hg => by have := hu.2.1; omega
  | f + 1, 0, a, u, hu, hf, hg => by have := hu.2.1; omega
  | f + 1, g + 1, a, u, hu, hf, hg => by
    rw [opsS, opsS]
    split
    · rename_i hc
      cases h1 : (nextS s (some u)).bind sub with
      | none => rfl
      | some y =>
        obtain ⟨k, v⟩ := y
        simp only
        have g1 := (OkO.next hu (Nat.le_refl _) (by omega)).read hx h1
        split
        · rfl
        · exact ops_fuel hx f g _ v g1.1 (by omega) (by omega)
    · rfl
theorem op_list {l : List UInt8} (h : 0 ≤ lvlL l) : l = [61, 61] ∨ l = [60] ∨ l = [43] ∨ l = [45] ∨ l = [43, 43] ∨ l = [42] ∨ l = [47] ∨ l = [37] := by
  unfold lvlL at h
  cases h1 : l == [61, 61]
  · cases h2 : l == [60]
    · cases h3 : l == [43]
      · cases h4 : l == [45]
        · cases h5 : l == [43, 43]
          · cases h6 : l == [42]
            · cases h7 : l == [47]
              · cases h8 : l == [37]
                · simp [h1, h2, h3, h4, h5, h6, h7, h8] at h
                · simp only [beq_iff_eq] at h8; simp [h8]
              · simp only [beq_iff_eq] at h7; simp [h7]
            · simp only [beq_iff_eq] at h6; simp [h6]
          · simp only [beq_iff_eq] at h5; simp [h5]
        · simp only [beq_iff_eq] at h4; simp [h4]
      · simp only [beq_iff_eq] at h3; simp [h3]
    · simp only [beq_iff_eq] at h2; simp [h2]
  · simp only [beq_iff_eq] at h1; simp [h1]
theorem cut_op {s x : ByteArray} {j : Nat} (hx : 0 ≤ lvlL x.toList) (h : At s j (x.data.toList ++ [32])) : cutE s j = some ⟨6, x, j, j + x.data.toList.length, 0⟩ := by
  rw [Lib.toList_data] at hx
  have hxe : x = baL x.data.toList := (baL_self x).symm
  obtain ⟨hA, hB⟩ := At.append.1 h
  obtain ⟨b1, b2⟩ := At.one.1 hB
  have one : ∀ b : UInt8, x.data.toList = [b] → sgnB b.toNat = true → cutE s j = some ⟨6, x, j, j + x.data.toList.length, 0⟩ := fun b hb hs => by
    rw [hb] at hA b2 ⊢
    rw [hxe, hb]
    refine cut_sign hA hs ?_
    rintro ⟨_, ⟨_, h⟩ | ⟨_, h⟩⟩
    · rw [show s.get! (j + 1) = 32 from b2] at h; revert h; decide
    · rw [show s.get! (j + 1) = 32 from b2] at h; revert h; decide
  have two : ∀ b : UInt8, x.data.toList = [b, b] → (b = 61 ∨ b = 43) → cutE s j = some ⟨6, x, j, j + x.data.toList.length, 0⟩ := fun b hb hs => by
    rw [hb] at hA ⊢
    rw [hxe, hb]
    exact cut_two hA hs
  rcases op_list hx with h | h | h | h | h | h | h | h
  · exact two _ h (.inl rfl)
  · exact one _ h (by decide)
  · exact one _ h (by decide)
  · exact one _ h (by decide)
  · exact two _ h (.inr rfl)
  · exact one _ h (by decide)
  · exact one _ h (by decide)
  · exact one _ h (by decide)

end Go.Proofs.YthbglakncijahaaGreatDoor
