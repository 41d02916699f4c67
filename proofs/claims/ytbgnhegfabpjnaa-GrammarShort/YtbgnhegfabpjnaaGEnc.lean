/- Sentences as bytes: there and back. No program. -/
import Derived.Test.YtbgnhegfabpjnaaGLsS
import Derived.Laws.StructEq
namespace Go.Proofs.Ytbgnhegfabpjnaa
open Go.RowKit
set_option linter.unusedVariables false

def decL : List UInt8 → List Int
  | a :: b :: r => ((a.toNat * 256 + b.toNat : Nat) : Int) :: decL r
  | _ => []
theorem byteU_nat (x : Int) (h0 : 0 ≤ x) (h1 : x < 256) : (byteU x).toNat = x.toNat := by
  unfold byteU
  rw [UInt8.toNat_ofNat']
  exact Nat.mod_eq_of_lt (by omega)
theorem decL_enc : ∀ (l : List Int), (∀ x ∈ l, 0 ≤ x ∧ x ≤ 300) → decL (encL l) = l
  | [], _ => rfl
  | x :: l, h => by
    have hx := h x (by simp)
    have ih := decL_enc l fun y hy => h y (by simp [hy])
    have e : encL (x :: l) = byteU (x / 256) :: byteU (x % 256) :: encL l := by simp [encL]
    rw [e]
    show (((byteU (x / 256)).toNat * 256 + (byteU (x % 256)).toNat : Nat) : Int) :: decL (encL l) = x :: l
    rw [ih, byteU_nat _ (by omega) (by omega), byteU_nat _ (by omega) (by omega)]
    congr 1
    omega
theorem encB_list (a : SF) : (encB a).toList = encL (txF a) := by
  rw [ByteArray.toList_eq]; rfl
theorem sf_eq {a b : SF} (ha : OkS a) (hb : OkS b) (h : knF a = knF b) (h2 : encL (txF a) = encL (txF b)) : a = b := by
  refine sf_inj h ?_
  have h3 : ∀ c : SF, OkS c → ∀ x ∈ txF c, 0 ≤ x ∧ x ≤ 300 := fun c hc x hx => by
    cases c with
    | told l => exact (hc l rfl).2 x hx
    | non => simp [txF] at hx
    | long => simp [txF] at hx
  rw [← decL_enc _ (h3 a ha), ← decL_enc _ (h3 b hb), h2]
theorem sfC_inj : ∀ (L L' : List SF), (∀ a ∈ L, OkS a) → (∀ a ∈ L', OkS a) → sfC L = sfC L' → L = L'
  | [], [], _, _, _ => rfl
  | [], _ :: _, _, _, h => by simp [sfC] at h
  | _ :: _, [], _, _, h => by simp [sfC] at h
  | a :: L, b :: L', ha, hb, h => by
    have e1 : sfC (a :: L) = .int .i64 (knF a) :: .string (encB a) :: sfC L := by simp [sfC]
    have e2 : sfC (b :: L') = .int .i64 (knF b) :: .string (encB b) :: sfC L' := by simp [sfC]
    rw [e1, e2] at h
    injection h with h1 h
    injection h with h2 h
    have h1' : knF a = knF b := by injection h1
    have h2' : encB a = encB b := by injection h2
    have h3 : encL (txF a) = encL (txF b) := by rw [← encB_list, ← encB_list, h2']
    rw [sf_eq (ha a (by simp)) (hb b (by simp)) h1' h3, sfC_inj L L' (fun c hc => ha c (by simp [hc])) (fun c hc => hb c (by simp [hc])) h]
theorem okS_mem {L : List SF} (h : ∀ n, OkS (factF L n)) : ∀ a ∈ L, OkS a := fun a ha => by
  obtain ⟨i, hi, rfl⟩ := List.mem_iff_getElem.1 ha
  have := h i
  unfold factF at this
  simpa [List.getD, hi] using this
noncomputable def rdRowS (w : World) (D : Nat) : List SF := open Classical in if h : ∃ L, RowS w D L ∧ ∀ n, OkS (factF L n) then Classical.choose h else []
theorem RowS.rd {w : World} {D : Nat} {L : List SF} (h : RowS w D L) (hok : ∀ n, OkS (factF L n)) : rdRowS w D = L := by
  have hex : ∃ L, RowS w D L ∧ ∀ n, OkS (factF L n) := ⟨L, h, hok⟩
  unfold rdRowS
  rw [dif_pos hex]
  obtain ⟨h1, h2⟩ := Classical.choose_spec hex
  have e : sfC (Classical.choose hex) = sfC L := by
    generalize Classical.choose hex = X at h1
    have h3 : some (Obj.cells (sfC X).toArray 35 (0, 0)) = some (Obj.cells (sfC L).toArray 35 (0, 0)) := h1.symm.trans h
    injection h3 with h3
    injection h3 with h3
    simpa using congrArg Array.toList h3
  exact sfC_inj _ _ (okS_mem h2) (okS_mem hok) e
theorem okS_len {a : SF} (h : OkS a) : (txF a).length ≤ 1000 := by
  cases a with
  | told l => exact (h l rfl).1
  | non => simp [txF]
  | long => simp [txF]
theorem encL_len (l : List Int) : (encL l).length = l.length * 2 := by
  induction l with
  | nil => rfl
  | cons x l ih => simp [encL] at ih ⊢; omega

end Go.Proofs.Ytbgnhegfabpjnaa
