/- Texts of the proof, put together: WrF, WrG, LCon. -/
import Derived.Test.YtbjohedenfindaaGreatDoorPb36
import Derived.Test.YtbjohedenfindaaGreatDoorPb25
import Derived.Test.YtbjohedenfindaaGreatDoorPb08
import Derived.Laws.Runes
import Derived.Lib.Bytealg
import Derived.WalkKit
import Derived.WalkMore
import Derived.WalkSpells
import Derived.WalkLawsBesides
import Derived.Lib.OthersKept
namespace Go.Proofs.YtbjohedenfindaaGreatDoor
set_option linter.unusedVariables false

variable {mk : List Rg → Bool → List Rg}

/-- how long the texts of its sets are, in all, so many levels deep -/
def sN (mk : List Rg → Bool → List Rg) : Nat → Re → Nat
  | 0, _ => 0
  | n + 1, t => (if t.kind = 1 then (setB mk t.set).length else 0) + (t.kids.map fun o => match o with | none => 0 | some x => sN mk n x).sum
def Cst (mk : List Rg → Bool → List Rg) (t : Re) (c : Nat) : Prop := ∀ n, sN mk n t ≤ c
def CstL (mk : List Rg → Bool → List Rg) (l : List Re) (c : Nat) : Prop := ∀ n, (l.map (sN mk n)).sum ≤ c
theorem cst_set {l : List Rg} {c : Nat} (h : (setB mk l).length ≤ c) : Cst mk (setRe l) c
  | 0 => by simp [sN]
  | n + 1 => by simp [sN, setRe]; exact h
theorem cst_not {t : Re} {c : Nat} (h : Cst mk t c) : Cst mk (notRe t) c
  | 0 => by simp [sN]
  | n + 1 => by simp [sN, notRe]; exact h n
theorem cst_rep {a b : Int} {t : Re} {c : Nat} (h : Cst mk t c) : Cst mk (repRe a b t) c
  | 0 => by simp [sN]
  | n + 1 => by simp [sN, repRe]; exact h n
theorem cst_gather {k : Int} (hk : k ≠ 1) {l : List Re} {c : Nat} (h : CstL mk l c) : Cst mk (gatherS k l) c := by
  by_cases h1 : l.length = 1
  · obtain ⟨x, rfl⟩ := List.length_eq_one_iff.1 h1
    intro n
    have := h n
    simpa [gatherS] using this
  · rw [gather_many h1]
    intro n
    cases n with
    | zero => simp [sN]
    | succ n =>
      have := h n
      simp only [sN, hk, if_false, List.map_map, Function.comp_def, Nat.zero_add]
      exact this
theorem cst_snoc {l : List Re} {p : Re} {c d : Nat} (h1 : CstL mk l c) (h2 : Cst mk p d) : CstL mk (l ++ [p]) (c + d) := fun n => by
  have := h1 n
  have := h2 n
  simp
  omega
theorem CstL.mono {l : List Re} {c d : Nat} (h : CstL mk l c) (hcd : c ≤ d) : CstL mk l d := fun n => Nat.le_trans (h n) hcd
theorem Cst.mono {t : Re} {c d : Nat} (h : Cst mk t c) (hcd : c ≤ d) : Cst mk t d := fun n => Nat.le_trans (h n) hcd

/-- all sets of a tree are so short -/
def Few (B : Nat) : Nat → Re → Prop
  | 0, _ => True
  | n + 1, t => t.set.length ≤ B ∧ ∀ o ∈ t.kids, ∀ k, o = some k → Few B n k
def FewT (B : Nat) (t : Re) : Prop := ∀ n, Few B n t
theorem few_set {B : Nat} {l : List Rg} (h : l.length ≤ B) : FewT B (setRe l)
  | 0 => trivial
  | n + 1 => ⟨h, by simp [setRe]⟩
theorem few_not {B : Nat} {t : Re} (h : FewT B t) : FewT B (notRe t)
  | 0 => trivial
  | n + 1 => ⟨by simp [notRe], fun o ho k hk => by simp [notRe] at ho; rw [ho] at hk; cases hk; exact h n⟩
theorem few_rep {B : Nat} {a b : Int} {t : Re} (h : FewT B t) : FewT B (repRe a b t)
  | 0 => trivial
  | n + 1 => ⟨by simp [repRe], fun o ho k hk => by simp [repRe] at ho; rw [ho] at hk; cases hk; exact h n⟩
theorem few_gather {B : Nat} {k : Int} {l : List Re} (h : ∀ t ∈ l, FewT B t) : FewT B (gatherS k l) := by
  by_cases h1 : l.length = 1
  · obtain ⟨x, rfl⟩ := List.length_eq_one_iff.1 h1
    exact h x (by simp)
  · rw [gather_many h1]
    intro n
    cases n with
    | zero => trivial
    | succ n =>
      refine ⟨by simp, fun o ho k hk => ?_⟩
      obtain ⟨t, ht, rfl⟩ := List.mem_map.1 ho
      cases hk
      exact h _ ht n

/-- what is read of so many bytes costs no more -/
def CstU (mk : List Rg → Bool → List Rg) (B : Nat) (s : ByteArray) (u : Nat → Option (Re × Nat)) : Prop := ∀ i t j, i ≤ s.size → u i = some (t, j) → Cst mk t (24 * (j - i)) ∧ FewT B t
theorem partS_cst {B c : Nat} {s : ByteArray} : ∀ (f : Nat) {p q : Re} {i j : Nat}, i ≤ s.size → FewT B p → Cst mk p c → partS s f p i = some (q, j) → Cst mk q c ∧ FewT B q
  | 0, _, _, _, _, _, _, _, h => by simp [partS] at h
  | f + 1, p, q, i, j, hi, hp, hc, h => by
    rw [partS_eq] at h
    split at h
    · rename_i e
      have := cp_eq_size e (by omega) (by omega)
      exact partS_cst f (by omega) (few_rep hp) (cst_rep hc) h
    · split at h
      · rename_i e
        have := cp_eq_size e (by omega) (by omega)
        exact partS_cst f (by omega) (few_rep hp) (cst_rep hc) h
      · split at h
        · rename_i e
          have := cp_eq_size e (by omega) (by omega)
          exact partS_cst f (by omega) (few_rep hp) (cst_rep hc) h
        · split at h
          · rename_i e
            have := cp_eq_size e (by omega) (by omega)
            split at h
            · simp at h
            · rename_i a b k hk
              have h1 := timesS_some (by omega) hk
              exact partS_cst f (by omega) (few_rep hp) (cst_rep hc) h
          · simp at h; rw [← h.1]; exact ⟨hc, hp⟩
theorem rowS_cst {B : Nat} {s : ByteArray} {u : Nat → Option (Re × Nat)} (hu : Goes s u) (hg : CstU mk B s u) : ∀ (f : Nat) {acc out : List Re} {i j c : Nat}, i ≤ s.size → (∀ t ∈ acc, FewT B t) → CstL mk acc c → rowS s u f acc i = some (out, j) → CstL mk out (c + 24 * (j - i)) ∧ (∀ t ∈ out, FewT B t)
  | 0, _, _, _, _, _, _, _, _, h => by simp [rowS] at h
  | f + 1, acc, out, i, j, c, hi, hacc, hca, h => by
    rw [rowS_eq] at h
    split at h
    · simp at h; obtain ⟨rfl, rfl⟩ := h; exact ⟨hca.mono (by omega), hacc⟩
    · split at h
      · simp at h
      · rename_i p k hk
        cases hu1 : u i with
        | none => rw [hu1] at hk; simp at hk
        | some x =>
          obtain ⟨q, m⟩ := x
          rw [hu1] at hk
          simp at hk
          have h1 := hu i q m hi hu1
          have h2 := partS_some _ (by omega) hk
          obtain ⟨h3, h4⟩ := hg i q m hi hu1
          obtain ⟨h5, h6⟩ := partS_cst (mk := mk) _ (by omega) h4 h3 hk
          have h8 := rowS_some hu _ (by omega) h
          have h7 := rowS_cst hu hg f (by omega) (fun t ht => by
            rcases List.mem_append.1 ht with ht | ht
            · exact hacc t ht
            · rw [List.mem_singleton.1 ht]; exact h6) (cst_snoc hca h5) h
          exact ⟨h7.1.mono (by omega), h7.2⟩
theorem sevS_cst {B : Nat} {s : ByteArray} {c : Int} (hc : 0 ≤ c ∧ c < 128) {r : Nat → Option (Re × Nat)} (hr : Stays s r) (hg : CstU mk B s r) : ∀ (f : Nat) {acc out : List Re} {i j d : Nat}, i ≤ s.size → (∀ t ∈ acc, FewT B t) → CstL mk acc d → sevS s c r f acc i = some (out, j) → CstL mk out (d + 24 * (j - i)) ∧ (∀ t ∈ out, FewT B t)
  | 0, _, _, _, _, _, _, _, _, h => by simp [sevS] at h
  | f + 1, acc, out, i, j, d, hi, hacc, hca, h => by
    rw [sevS_eq] at h
    split at h
    · rename_i e
      have h0 := cp_eq_size e hc.1 hc.2
      split at h
      · simp at h
      · rename_i p k hk
        have h1 := hr _ _ _ (by omega) hk
        obtain ⟨h3, h4⟩ := hg _ _ _ (by omega) hk
        have h8 := sevS_some hc hr _ (by omega) h
        have h7 := sevS_cst hc hr hg f (by omega) (fun t ht => by
          rcases List.mem_append.1 ht with ht | ht
          · exact hacc t ht
          · rw [List.mem_singleton.1 ht]; exact h4) (cst_snoc hca h3) h
        exact ⟨h7.1.mono (by omega), h7.2⟩
    · simp at h; obtain ⟨rfl, rfl⟩ := h; exact ⟨hca.mono (by omega), hacc⟩
theorem cst_one {p : Re} {c : Nat} (h : Cst mk p c) : CstL mk [p] c := fun n => by simpa using h n
theorem severalS_cst {B : Nat} {s : ByteArray} {k c : Int} (hk : k ≠ 1) (hc : 0 ≤ c ∧ c < 128) {r : Nat → Option (Re × Nat)} (hr : Stays s r) (hg : CstU mk B s r) : CstU mk B s (severalS s k c r) := by
  intro i t j hi h
  unfold severalS at h
  split at h
  · simp at h
  · rename_i p m hm
    have h1 := hr _ _ _ hi hm
    obtain ⟨h3, h4⟩ := hg _ _ _ hi hm
    simp at h
    obtain ⟨a, h2, h5⟩ := h
    have h6 := sevS_cst (mk := mk) hc hr hg _ (by omega) (by simpa using h4) (cst_one h3) h2
    have := sevS_some hc hr _ (by omega) h2
    rw [← h5]
    exact ⟨(cst_gather hk h6.1).mono (by omega), few_gather h6.2⟩
theorem rowReS_cst {B : Nat} {s : ByteArray} {u : Nat → Option (Re × Nat)} (hu : Goes s u) (hg : CstU mk B s u) : CstU mk B s (rowReS s u) := by
  intro i t j hi h
  unfold rowReS at h
  simp at h
  obtain ⟨a, h2, h3⟩ := h
  have h6 := rowS_cst (mk := mk) (c := 0) hu hg _ hi (by simp) (fun n => by simp) h2
  rw [← h3]
  exact ⟨(cst_gather (by omega) h6.1).mono (by omega), few_gather h6.2⟩
theorem patS_cst {B : Nat} {s : ByteArray} {u : Nat → Option (Re × Nat)} (hu : Goes s u) (hg : CstU mk B s u) : CstU mk B s (patS s u) :=
  severalS_cst (by omega) (by omega) (bothS_stays hu) (severalS_cst (by omega) (by omega) (rowReS_stays hu) (rowReS_cst hu hg))

/-- items that are read are ranges -/
theorem items_read {s : ByteArray} : ∀ (f : Nat) {acc out : List Rg} {i j : Nat}, i ≤ s.size → (∀ r ∈ acc, RngOk r) → itemsS s f acc i = some (out, j) → out.length + 1 ≤ acc.length + (j - i) ∧ (∀ r ∈ out, RngOk r)
  | 0, _, _, _, _, _, _, h => by simp [itemsS] at h
  | f + 1, acc, out, i, j, hi, hacc, h => by
    unfold itemsS at h
    split at h
    · rename_i e
      have := cp_eq_size e (by omega) (by omega)
      simp at h
      obtain ⟨rfl, rfl⟩ := h
      exact ⟨by omega, hacc⟩
    · split at h
      · simp at h
      · rename_i r k hk
        have h1 := itemS_some hi hk
        have hr : RngOk r := by
          unfold itemS at hk
          split at hk
          · simp at hk
          · rename_i lo m hm
            have g1 := pointS_some hi hm
            split at hk
            · rename_i e
              have := cp_eq_size e (by omega) (by omega)
              split at hk
              · simp at hk
              · rename_i hi' m2 hm2
                have g2 := pointS_some (by omega) hm2
                split at hk
                · simp at hk
                · simp at hk
                  rw [← hk.1]
                  exact ⟨g1.2.2.1, by omega, g2.2.2.2⟩
            · simp at hk
              rw [← hk.1]
              exact ⟨g1.2.2.1, by omega, g1.2.2.2⟩
        have h8 := itemsS_some f (by omega) h
        have h7 := items_read f (by omega) (fun x hx => by
          rcases List.mem_append.1 hx with hx | hx
          · exact hacc x hx
          · rw [List.mem_singleton.1 hx]; exact hr) h
        refine ⟨?_, h7.2⟩
        have := h7.1
        simp at this
        omega
theorem itemsB_len : ∀ (l : List Rg), (∀ r ∈ l, RngOk r) → (itemsB l).length ≤ 21 * l.length
  | [], _ => by simp [itemsB]
  | r :: t, h => by
    have h1 := itemB_len r (h r (by simp))
    have h2 := itemsB_len t fun x hx => h x (by simp [hx])
    have e : itemsB (r :: t) = itemB r ++ itemsB t := by simp [itemsB]
    rw [e, List.length_append, List.length_cons]
    omega
theorem MkOk.few (M : MkOk mk) {a : List Rg} (ha : ∀ r ∈ a, RngOk r) : (mk a false).length ≤ a.length := by
  have h := mk_all M a false ha
  exact upto_few ha h
theorem MkOk.twice (M : MkOk mk) {a : List Rg} (ha : ∀ r ∈ a, RngOk r) : mk (mk a true) true = mk a false := by
  refine M.not (mk_all M) (M a false).2.1 fun p => ?_
  have hok := canon_ok (M a false).2.1
  have h1 := mk_all M a true ha
  have h2 := mk_all M (mk a false) true hok
  have h3 := mk_all M a false ha
  have e : mk a true = mk (mk a false) true := by
    refine upto_unique h1 h2 fun q h0 h1 => ?_
    have := h3.has q h0 (by omega)
    simp only [fOf] at this ⊢
    simpa using this
  rw [e]
theorem setB_le (M : MkOk mk) {a : List Rg} (ha : ∀ r ∈ a, RngOk r) (neg : Bool) : (setB mk (mk a neg)).length ≤ 21 * a.length + 10 := by
  have hf := M.few ha
  have hc : ∀ b, canonFrom 0 (mk a b) = true := fun b => (M a b).2.1
  have hit := itemsB_len (mk a false) (canon_ok (hc false))
  unfold setB
  split
  · rename_i h1
    obtain ⟨x, hx⟩ := List.length_eq_one_iff.1 h1.1
    have hxo := canon_ok (hc neg) x (by rw [hx]; simp)
    rw [hx]
    have := pt_len (c := x.1.toNat) (sg := outerS) (by have := hxo.2.1; have := hxo.2.2; omega)
    simp; omega
  · split
    · simp
    · split
      · rename_i h3
        simp only [List.length_cons, List.length_append, List.length_nil]
        cases neg with
        | false => omega
        | true => rw [M.twice ha]; omega
      · rename_i h3
        simp only [List.length_cons, List.length_append, List.length_nil]
        cases neg with
        | false => omega
        | true => rw [M.twice ha] at h3; omega

end Go.Proofs.YtbjohedenfindaaGreatDoor

namespace Go.Proofs.YtbjohedenfindaaGreatDoor
set_option linter.unusedVariables false

variable {mk : List Rg → Bool → List Rg}

theorem unitS_cst (M : MkOk mk) {s : ByteArray} : ∀ n, CstU mk (2 * s.size + 1) s (unitS s mk n) := by
  have leaf : CstU mk (2 * s.size + 1) s (leafS s mk) := by
    intro i t j hi h
    unfold leafS at h
    split at h
    · rename_i e
      have := cp_eq_size e (by omega) (by omega)
      simp at h
      obtain ⟨rfl, rfl⟩ := h
      rw [M.dot]
      refine ⟨cst_set ?_, few_set (by simp; omega)⟩
      have : setB mk [(0, 9), (11, 1114111)] = [46] := by simp [setB]
      rw [this]; simp only [List.length_singleton]; omega
    · cases h2 : pointS s outerS i with
      | none => rw [h2] at h; simp at h
      | some x =>
        obtain ⟨a, b⟩ := x
        rw [h2] at h
        simp at h
        obtain ⟨rfl, rfl⟩ := h
        have hp := pointS_some hi h2
        refine ⟨cst_set ?_, few_set (by simp)⟩
        have : setB mk [(a, a)] = ptB outerS a.toNat := by simp [setB]
        rw [this]
        have := pt_len (c := a.toNat) (sg := outerS) (by omega)
        omega
  have brack : CstU mk (2 * s.size + 1) s (fun i => brackS s mk i) := by
    intro i t j hi h
    simp only [brackS] at h
    split at h
    · rename_i e
      have h0 := cp_eq_size e (by omega) (by omega)
      simp at h
      obtain ⟨a, h2, h3⟩ := h
      have h4 := items_read _ (by omega) (by simp) h2
      have h5 := itemsS_some _ (by omega) h2
      have h6 := setB_le M h4.2 true
      have h7 := M.len a true
      have := h4.1
      simp at this
      rw [← h3]
      exact ⟨cst_set (by omega), few_set (by omega)⟩
    · simp at h
      obtain ⟨a, h2, h3⟩ := h
      have h4 := items_read _ hi (by simp) h2
      have h5 := itemsS_some _ hi h2
      have h6 := setB_le M h4.2 false
      have h7 := M.len a false
      have := h4.1
      simp at this
      rw [← h3]
      exact ⟨cst_set (by omega), few_set (by omega)⟩
  intro n
  induction n with
  | zero => exact leaf
  | succ n ih =>
    intro i t j hi h
    rw [unitS] at h
    split at h
    · rename_i e
      have := cp_eq_size e (by omega) (by omega)
      simp at h
      obtain ⟨a, h2, h3⟩ := h
      obtain ⟨g1, g2⟩ := ih _ _ _ (by omega) h2
      have := unitS_goes n _ _ _ (by omega) h2
      rw [← h3]
      exact ⟨(cst_not g1).mono (by omega), few_not g2⟩
    · split at h
      · rename_i e
        have := cp_eq_size e (by omega) (by omega)
        split at h
        · simp at h
        · rename_i p k hk
          have h1 := patS_stays (unitS_goes n) _ _ _ (by omega) hk
          split at h
          · rename_i e2
            have := cp_eq_size e2 (by omega) (by omega)
            simp at h
            obtain ⟨g1, g2⟩ := patS_cst (unitS_goes n) ih _ _ _ (by omega) hk
            rw [← h.1, ← h.2]
            exact ⟨g1.mono (by omega), g2⟩
          · simp at h
      · split at h
        · rename_i e
          have h0 := cp_eq_size e (by omega) (by omega)
          have hb := brackS_goes _ _ _ (by omega) h
          obtain ⟨g1, g2⟩ := brack (i + 1) t j (by omega) h
          exact ⟨g1.mono (by omega), g2⟩
        · exact leaf _ _ _ hi h
theorem wholeS_cst (M : MkOk mk) {s : ByteArray} {t : Re} (h : wholeS s mk = some t) : Cst mk t (24 * s.size) ∧ FewT (2 * s.size + 1) t := by
  unfold wholeS at h
  split at h
  · simp at h
  · rename_i p j hp
    split at h
    · simp at h
      have h1 := patS_stays (unitS_goes 100) _ _ _ (by omega) hp
      obtain ⟨g1, g2⟩ := patS_cst (unitS_goes 100) (unitS_cst M 100) _ _ _ (by omega) hp
      rw [← h]
      exact ⟨g1.mono (by omega), g2⟩
    · simp at h

theorem weigh_parts {n : Nat} {t : Tm} (h : weighS (n + 1) (reOf t) ≤ 60) : 1 + (t.kids.map fun x => weighS n (reOf x)).sum ≤ weighS (n + 1) (reOf t) ∧ ∀ x ∈ t.kids, weighS n (reOf x) ≤ 60 := by
  have hkids : (reOf t).kids = (t.kids.map reOf).map some := by rw [reOf_eq]
  have hsum : ((reOf t).kids.map (kidW n)) = t.kids.map fun x => weighS n (reOf x) := by
    rw [hkids, List.map_map, List.map_map]; rfl
  have hW : weighS (n + 1) (reOf t) = if (60 : Int) < ((reOf t).kids.map (kidW n)).sum then 61 else min (1 + (if (reOf t).kind = 6 then ((reOf t).kids.map (kidW n)).sum * max (max (reOf t).mn (reOf t).mx) 1 else ((reOf t).kids.map (kidW n)).sum)) 61 := rfl
  rw [hW, hsum] at h ⊢
  have hpos : ∀ (l : List Tm), 0 ≤ (l.map fun x => weighS n (reOf x)).sum ∧ ∀ x ∈ l, weighS n (reOf x) ≤ (l.map fun x => weighS n (reOf x)).sum := by
    intro l
    induction l with
    | nil => simp
    | cons y r ih =>
      have h1 := (weighS_bd n (reOf y)).1
      simp only [List.map_cons, List.sum_cons]
      refine ⟨by omega, fun x hx => ?_⟩
      rcases List.mem_cons.1 hx with rfl | hx
      · omega
      · have := ih.2 x hx; omega
  obtain ⟨h0, h1⟩ := hpos t.kids
  generalize (t.kids.map fun x => weighS n (reOf x)).sum = S at *
  split at h
  · omega
  · rename_i hS
    rw [if_neg hS]
    refine ⟨?_, fun x hx => by have := h1 x hx; omega⟩
    split at h
    · rename_i h6
      rw [if_pos h6]
      have hm : 1 ≤ max (max (reOf t).mn (reOf t).mx) 1 := by omega
      have : S * 1 ≤ S * max (max (reOf t).mn (reOf t).mx) 1 := Int.mul_le_mul_of_nonneg_left hm h0
      omega
    · rename_i h6
      rw [if_neg h6]
      omega
theorem weigh_deep : ∀ (n : Nat) (t : Tm), weighS n (reOf t) ≤ 60 → hT t ≤ n
  | 0, t, h => by simp [weighS] at h
  | n + 1, t, h => by
    have h1 := (weigh_parts h).2
    rw [hT_eq]
    have : ∀ (l : List Nat) (a : Nat), a ≤ n → (∀ x ∈ l, x ≤ n) → l.foldl max a ≤ n := by
      intro l
      induction l with
      | nil => intro a ha _; simpa using ha
      | cons y r ih =>
        intro a ha hl
        simp only [List.foldl_cons]
        exact ih _ (by have := hl y (by simp); omega) fun x hx => hl x (by simp [hx])
    have := this (t.kids.map hT) 0 (by omega) fun x hx => by
      obtain ⟨y, hy, rfl⟩ := List.mem_map.1 hx
      exact weigh_deep n y (h1 y hy)
    omega

theorem sum_bound {n : Nat} {c : Int} (f : Tm → List Nat) : ∀ (ks : List Tm), (∀ x ∈ ks, ((f x).length : Int) + 1 ≤ sN mk n (reOf x) + 12 * weighS n (reOf x)) → ((ks.map f).flatten.length : Int) + ks.length ≤ (((ks.map fun x => sN mk n (reOf x)).sum : Nat) : Int) + 12 * (ks.map fun x => weighS n (reOf x)).sum
  | [], _ => by simp
  | y :: r, h => by
    have h1 := h y (by simp)
    have h2 := sum_bound (c := c) f r fun x hx => h x (by simp [hx])
    simp only [List.map_cons, List.flatten_cons, List.length_append, List.length_cons, List.sum_cons]
    omega
theorem join_len (c : Nat) (l : List (List Nat)) : (joinB c l).length ≤ l.flatten.length + l.length := by
  cases l with
  | nil => simp [joinB]
  | cons x t =>
    have : ∀ t : List (List Nat), (t.map (fun y => c :: y)).flatten.length = t.flatten.length + t.length := by
      intro t
      induction t with
      | nil => simp
      | cons y r ih => simp only [List.map_cons, List.flatten_cons, List.length_append, List.length_cons, ih]; omega
    simp only [joinB, List.length_append, this, List.flatten_cons, List.length_cons]
    omega
theorem wr_len : ∀ (n : Nat) (t : Tm), GoodT (reOf t) → weighS n (reOf t) ≤ 60 → ∀ place, ((wrT mk t place).length : Int) + 1 ≤ sN mk n (reOf t) + 12 * weighS n (reOf t)
  | 0, t, _, h, _ => by simp [weighS] at h
  | n + 1, t, hG, h, place => by
    obtain ⟨hw, hk60⟩ := weigh_parts h
    have hno : NodeOk (reOf t) := (hG 1).1
    have er : reOf t = ⟨t.kind, t.set, t.mn, t.mx, (t.kids.map reOf).map some⟩ := reOf_eq t
    have hs : sN mk (n + 1) (reOf t) = (if t.kind = 1 then (setB mk t.set).length else 0) + (t.kids.map fun x => sN mk n (reOf x)).sum := by
      rw [er]; simp only [sN, List.map_map, Function.comp_def]
    have hkid : ∀ pl, ∀ x ∈ t.kids, ((wrT mk x pl).length : Int) + 1 ≤ sN mk n (reOf x) + 12 * weighS n (reOf x) := fun pl x hx => wr_len n x (good_kid hG hx) (hk60 x hx) pl
    have hsum : ∀ pl, ((t.kids.map fun x => wrT mk x pl).flatten.length : Int) + t.kids.length ≤ (((t.kids.map fun x => sN mk n (reOf x)).sum : Nat) : Int) + 12 * (t.kids.map fun x => weighS n (reOf x)).sum := fun pl => sum_bound (c := 0) (fun x => wrT mk x pl) t.kids (hkid pl)
    have hbody : ((bodyB mk t.kind t.set t.mn t.mx (t.kids.map (wrT mk))).length : Int) + 3 ≤ sN mk (n + 1) (reOf t) + 12 * weighS (n + 1) (reOf t) := by
      rw [hs]
      unfold bodyB
      rw [maps_at, maps_at, maps_at, maps_at]
      split
      · rename_i h1
        have : t.kids = [] := by
          rw [er] at hno
          rcases hno with ⟨_, h2, _⟩ | ⟨h2, _⟩ | ⟨h2, _⟩ | ⟨h2, _⟩ | ⟨h2, _⟩ <;> simp only at h2
          · simpa using h2
          all_goals omega
        rw [this] at hw ⊢
        simp at hw ⊢
        omega
      · rename_i h1
        rw [Nat.zero_add]
        have h3 := hsum 3
        have h1' := hsum 1
        have h2' := hsum 2
        have h4 := hsum 4
        have j1 := join_len 124 (t.kids.map fun x => wrT mk x 1)
        have j2 := join_len 38 (t.kids.map fun x => wrT mk x 2)
        have tl := times_len t.mn t.mx
        rw [List.length_map] at j1 j2
        split
        · split
          · simp; omega
          · omega
        · split
          · omega
          · split
            · omega
            · split
              · simp only [List.length_cons]; omega
              · simp only [List.length_append]; omega
    rw [wrT_eq]
    unfold wrapB
    split
    · simp only [List.length_cons, List.length_append, List.length_nil]; omega
    · omega

/-- the bytes of a text -/
def bytesB (l : List Nat) : ByteArray := ⟨(l.map Nat.toUInt8).toArray⟩
theorem bytesB_size (l : List Nat) : (bytesB l).size = l.length := by
  show (l.map Nat.toUInt8).toArray.size = _
  simp
theorem bytesB_at {l : List Nat} (hl : ∀ b ∈ l, b < 256) : At (bytesB l) 0 l := by
  intro k hk
  refine ⟨by rw [bytesB_size]; omega, ?_⟩
  rw [get_bang]
  have : (bytesB l).data[0 + k]? = some (l[k].toUInt8) := by
    show (l.map Nat.toUInt8).toArray[0 + k]? = _
    simp [hk]
  rw [this]
  have := hl _ (List.getElem_mem hk)
  simp
  omega
/-- what is written is read again -/
theorem written_read (M : MkOk mk) {t : Tm} (hG : GoodT (reOf t)) (hw : weighS 31 (reOf t) ≤ 60) (hl : ∀ b ∈ wrT mk t 0, b < 256) : readS (bytesB (wrT mk t 0)) mk = some (reOf t) := by
  have hd := weigh_deep 31 t hw
  have hR := rd_all M t hG
  have hA := bytesB_at hl
  have hend : cpAt (bytesB (wrT mk t 0)) (0 + (wrT mk t 0).length) = -1 := by
    unfold cpAt; rw [if_neg (by rw [bytesB_size]; omega)]
  have hp := hR.a (bytesB (wrT mk t 0)) 0 100 (by omega) hA (by omega) (by rw [hend]; decide) (by rw [hend]; decide) (by rw [hend]; decide)
  have hwh : wholeS (bytesB (wrT mk t 0)) mk = some (reOf t) := by
    unfold wholeS
    rw [hp]
    simp only
    rw [if_pos hend]
  unfold readS
  rw [hwh]
  simp only
  rw [if_pos hw]

end Go.Proofs.YtbjohedenfindaaGreatDoor

namespace Go.Proofs.YtbjohedenfindaaGreatDoor
open Go.RowKit
set_option linter.unusedVariables false
set_option maxRecDepth 100000

theorem ascii_dec {S : ByteArray} (hS : ∀ j, j < S.size → (S.get! j).toNat < 128) {pos : Nat} (hp : pos < S.size) : Utf8.decode S pos = ((S.get! pos).toNat, 1) := by
  rw [Lib.decode_at, Lib.decodeN, if_pos (hS pos hp)]

set_option maxHeartbeats 1000000 in
theorem irune_err (S : ByteArray) (hS : ∀ j, j < S.size → (S.get! j).toNat < 128) (hsz : S.size ≤ 100) (w : World) :
    Calls Tryz.prog 130 #[.string S, .int .i32 65533] w fun e w' => e = .returned (.int .i64 (-1)) ∧ Below w.heap.size w w' := by
  go_enter Tryz.func130, Tryz.ntmps130
  go_wp2
  go_loopw [5] (fun v wr => ∃ (pos : Nat), wr.heap[w.heap.size]? = some (.stringIter S pos) ∧ Below w.heap.size w wr ∧ pos ≤ S.size ∧ w.heap.size + 1 ≤ wr.heap.size) (fun _ wr => S.size - wr.iterPos w.heap.size)
  case atStart =>
    refine ⟨0, World.iter_heap w S 0, (Below.refl _ w).alloc (Nat.le_refl _) _, by omega, by simp [World.iter]⟩
  case round =>
    obtain ⟨pos, hit, hbw, hpl, hsz'⟩ := hrel
    by_cases hp : pos < S.size
    · have hnx : ∀ ty, (Instr.next (.pointer (some ⟨w.heap.size, 0, none⟩)) true ty).run Tryz.prog wr = _ := fun ty => Lib.run_next_any_at wr w.heap.size S pos ty hit hp
      have hd := ascii_dec hS hp
      have hb := hS pos hp
      rw [hd] at hnx
      have hit2 := Lib.iterAt_heap wr w.heap.size S pos (pos + 1) hit
      have hbw2 := Lib.below_iterAt hbw (k := w.heap.size) (Nat.le_refl _) S (pos + 1)
      have hsz2 : w.heap.size + 1 ≤ (wr.iterAt w.heap.size S (pos + 1)).heap.size := by rw [Lib.iterAt_size]; exact hsz'
      have hne : ¬ (((S.get! pos).toNat : Int) = 65533) := by omega
      simp only at hnx
      generalize (S.get! pos).toNat = x at *
      clear hd hS hbw hsz'
      go_wp2
      go_roundw
      case rel => exact ⟨pos + 1, hit2, hbw2, by omega, hsz2⟩
      case measure =>
        simp only [World.iterPos, hit2, hit]
        omega
    · have hnx : ∀ ty, (Instr.next (.pointer (some ⟨w.heap.size, 0, none⟩)) true ty).run Tryz.prog wr = _ := fun ty => Lib.run_next_end_at wr w.heap.size S pos ty hit hp
      go_wp2
      go_ret
      exact ⟨rfl, hbw⟩

set_option maxHeartbeats 1000000 in
theorem irune_bad (S : ByteArray) (c : Int) (h0 : 55296 ≤ c) (h1 : c ≤ 57343) (w : World) :
    Calls Tryz.prog 130 #[.string S, .int .i32 c] w fun e w' => e = .returned (.int .i64 (-1)) ∧ Below w.heap.size w w' := by
  have g1 : ¬ c < 128 := by omega
  have g2 : ¬ c = 65533 := by omega
  go_enter Tryz.func130, Tryz.ntmps130
  go_wp2
  go_ret
  exact ⟨rfl, Below.refl _ _⟩

set_option maxHeartbeats 1000000 in
theorem slbyte_any (T : ByteArray) (x : Int) (w : World) :
    Calls Tryz.prog 160 #[.string T, .int .u8 x] w fun e w' => e = .returned (.int .i64 (Lib.indexByte T.data.toList x.toNat.toUInt8)) ∧ w' = w := by
  go_enter Tryz.func160, Tryz.ntmps160
  go_wp2
  rw [run_callFunc_extern Tryz.func174 (by kernel_rfl) (by kernel_rfl) (by kernel_rfl) (e := Extern.BytealgIndexByte.indexByte) (by kernel_rfl), Lib.run_indexByteString]
  simp only [Result.andThen]
  rw [Oper.upon_value]
  go_wp2
  go_ret
  exact ⟨rfl, rfl⟩

set_option maxHeartbeats 1000000 in
theorem ibyte_any (T : ByteArray) (x : Int) (w : World) :
    Calls Tryz.prog 143 #[.string T, .int .u8 x] w fun e w' => e = .returned (.int .i64 (Lib.indexByte T.data.toList x.toNat.toUInt8)) ∧ w' = w := by
  go_enter Tryz.func143, Tryz.ntmps143
  go_wp2_with fail
  refine (slbyte_any T x w).mono ?_
  rintro e w' ⟨rfl, rfl⟩
  go_wp2
  go_ret
  exact ⟨rfl, rfl⟩

theorem ibyte_none {S : ByteArray} {a e : Nat} {x : Int} (hS : ∀ b ∈ S.data.toList, b.toNat < 128) (h0 : 128 ≤ x) (h1 : x < 256) : Lib.indexByte (S.extract a e).data.toList x.toNat.toUInt8 = -1 := by
  rw [← Lib.firstIdx_eq]
  refine firstIdx_ascii S a e _ hS ?_
  simp
  omega

set_option maxHeartbeats 1000000 in
theorem vrune_any (c : Int) (h : (0 ≤ c ∧ c < 55296) ∨ (57343 < c ∧ c ≤ 1114111)) (w : World) :
    Calls Tryz.prog 144 #[.int .i32 c] w fun e w' => e = .returned (.bool true) ∧ w' = w := by
  rcases h with ⟨k0, k1⟩ | ⟨k0, k1⟩
  · go_enter Tryz.func144, Tryz.ntmps144
    go_wp2
    go_ret
    exact ⟨rfl, rfl⟩
  · have k2 : ¬ c < 55296 := by omega
    go_enter Tryz.func144, Tryz.ntmps144
    go_wp2
    go_ret
    exact ⟨rfl, rfl⟩

set_option maxHeartbeats 2000000 in
theorem irune_far (S E : ByteArray) (k : Nat) (c : Int) (h0 : 128 ≤ c) (g3 : (0 ≤ c ∧ c < 55296) ∨ (57343 < c ∧ c ≤ 1114111)) (hc : c ≠ 65533) (hE : Utf8.encode c = E) (hk : E.size = k + 1) (hs1 : k < S.size) (hs2 : k < E.size) (hl : 128 ≤ (E[k]'hs2).toNat) (hlo : (S[k]'hs1).toNat < 128) (hS : ∀ b ∈ S.data.toList, b.toNat < 128) (hsz : S.size ≤ 100) (w : World) :
    Calls Tryz.prog 130 #[.string S, .int .i32 c] w fun e w' => e = .returned (.int .i64 (-1)) ∧ Below w.heap.size w w' := by
  have g1 : ¬ c < 128 := by omega
  have g2 : ¬ c = 65533 := by omega
  have hcv : (convert 21 9 (.int .i32 c)).run Tryz.prog w = .ok (.string E) w := by
    rw [← hE]; exact run_convert_int_string w 21 9 .i32 c (by rw [Tryz.underlying21]; rfl) Tryz.underlying9
  have hkE : (E.size : Int) - 1 = (k : Int) := by omega
  have hi0 : (k : Int) < (S.size : Int) := by omega
  have hwr : IntKind.i64.wrap ((k : Int) + 1) = (k : Int) + 1 := wrap_small _ (by omega) (by omega)
  have hto : ((k : Int) + 1).toNat = k + 1 := by omega
  have hle : (k : Int) + 1 ≤ (S.size : Int) := by omega
  have hge : (0 : Int) ≤ (k : Int) + 1 := by omega
  have HV : Hid (Calls Tryz.prog 144 #[.int .i32 c] w fun e w' => e = .returned (.bool true) ∧ w' = w) := vrune_any c g3 w
  have HI : Hid (∀ w', Calls Tryz.prog 143 #[.string (S.extract (k + 1) S.size), .int .u8 ((E[k]'hs2).toNat : Int)] w' fun e w'' => e = .returned (.int .i64 (-1)) ∧ w'' = w') := by
    intro w'
    refine (ibyte_any _ _ w').mono ?_
    rintro e w'' ⟨rfl, rfl⟩
    have hb := (E[k]'hs2).toNat_lt
    rw [ibyte_none (S := S) (a := k + 1) (e := S.size) hS (x := ((E[k]'hs2).toNat : Int)) (by omega) (by omega)]
    exact ⟨rfl, rfl⟩
  have hne : (((S[k]'hs1).toNat : Int) != ((E[k]'hs2).toNat : Int)) = true := by rw [bne_iff_ne]; omega
  clear g3 hS hE hk
  go_enter Tryz.func130, Tryz.ntmps130
  go_wp2_with fail
  go_at_call 144
  refine HV.out.mono ?_
  rintro e w' ⟨rfl, rfl⟩
  go_wp2
  go_step3
  go_wp2
  go_loopw [9] (fun v wr => v = .int .i64 (k : Int) ∧ wr = w') (fun _ _ => 1)
  case atStart => exact ⟨rfl, rfl⟩
  case round =>
    obtain ⟨rfl, rfl⟩ := hrel
    go_wp2
    go_step3
    go_wp2
    go_quiet (fail)
    go_wp2
    have HB : Hid (Below wr.heap.size wr (wr.drewN nq)) := ⟨rfl, rfl, rfl, Nat.le_refl _, fun _ _ => rfl⟩
    generalize wr.drewN nq = wq at *
    go_quiet ((go_at_call 143; exact Calls.quiet_of_same (HI.out _)))
    go_wp2
    rw [Exit.noGoto_ret]
    change bodyPost Tryz.prog Tryz.f130 (fun e w' => e = .returned (.int .i64 (-1)) ∧ Below wr.heap.size wr w') Exit.ret _ _
    go_ret
    exact ⟨rfl, HB.out.os, HB.out.tape, HB.out.output, HB.out.size, HB.out.block⟩

theorem encode_last (c : Int) (h0 : 128 ≤ c) (g3 : (0 ≤ c ∧ c < 55296) ∨ (57343 < c ∧ c ≤ 1114111)) : ∃ k, ∃ h : (Utf8.encode c).size = k + 1, k ≤ 3 ∧ 128 ≤ ((Utf8.encode c)[k]'(by omega)).toNat := by
  have hv : Utf8.valid c = true := by rw [validRune_eq]; simp [validRune]; exact g3
  obtain ⟨h1, h2, h3⟩ := encode_facts c hv h0
  exact ⟨(Utf8.encode c).size - 1, by omega, by omega, h3 (by omega)⟩

theorem irune_any (S : ByteArray) (hS : ∀ b ∈ S.data.toList, b.toNat < 128) (h5 : 5 ≤ S.size) (hsz : S.size ≤ 100) (c : Int) (h0 : 128 ≤ c) (h1 : c ≤ 1114111) (w : World) :
    Calls Tryz.prog 130 #[.string S, .int .i32 c] w fun e w' => e = .returned (.int .i64 (-1)) ∧ Below w.heap.size w w' := by
  have hS2 : ∀ j, (h : j < S.size) → (S[j]'h).toNat < 128 := fun j hj => hS _ (Array.getElem_mem_toList (xs := S.data) hj)
  by_cases he : c = 65533
  · subst he
    refine irune_err S (fun j hj => ?_) hsz w
    have : S.get! j = S[j]'hj := by
      show S.data[j]! = _
      exact getElem!_pos S.data j hj
    rw [this]; exact hS2 j hj
  · by_cases hb : 55296 ≤ c ∧ c ≤ 57343
    · exact irune_bad S c hb.1 hb.2 w
    · have g3 : (0 ≤ c ∧ c < 55296) ∨ (57343 < c ∧ c ≤ 1114111) := by omega
      obtain ⟨k, hk, hk3, hl⟩ := encode_last c h0 g3
      exact irune_far S _ k c h0 g3 he rfl hk (by omega) (by omega) hl (hS2 k (by omega)) hS hsz w

set_option maxHeartbeats 1000000 in
theorem crune_far (S : ByteArray) (hS : ∀ b ∈ S.data.toList, b.toNat < 128) (h5 : 5 ≤ S.size) (hsz : S.size ≤ 100) (c : Int) (h0 : 128 ≤ c) (h1 : c ≤ 1114111) (w : World) :
    Calls Tryz.prog 115 #[.string S, .int .i32 c] w fun e w' => e = .returned (.bool false) ∧ Below w.heap.size w w' := by
  have HI : Hid (Calls Tryz.prog 130 #[.string S, .int .i32 c] w fun e w' => e = .returned (.int .i64 (-1)) ∧ Below w.heap.size w w') := irune_any S hS h5 hsz c h0 h1 w
  clear hS
  go_enter Tryz.func115, Tryz.ntmps115
  go_wp2_with fail
  go_at_call 130
  refine HI.out.mono ?_
  rintro e w' ⟨rfl, hb⟩
  go_wp2
  go_ret
  exact ⟨rfl, hb⟩

set_option maxHeartbeats 1000000 in
theorem irune_asc (S : ByteArray) (c : Int) (h0 : 0 ≤ c) (h1 : c < 128) (w : World) :
    Calls Tryz.prog 130 #[.string S, .int .i32 c] w fun e w' => e = .returned (.int .i64 (Lib.indexByte S.data.toList c.toNat.toUInt8)) ∧ w' = w := by
  have HI : Hid (Calls Tryz.prog 143 #[.string S, .int .u8 c] w fun e w' => e = .returned (.int .i64 (Lib.indexByte S.data.toList c.toNat.toUInt8)) ∧ w' = w) := ibyte_any S c w
  generalize Lib.indexByte S.data.toList c.toNat.toUInt8 = y at *
  go_enter Tryz.func130, Tryz.ntmps130
  go_wp2_with fail
  go_at_call 143
  refine HI.out.mono ?_
  rintro e w' ⟨rfl, rfl⟩
  go_wp2
  go_ret
  exact ⟨rfl, rfl⟩

set_option maxHeartbeats 1000000 in
theorem crune_asc (S : ByteArray) (c : Int) (h0 : 0 ≤ c) (h1 : c < 128) (w : World) :
    Calls Tryz.prog 115 #[.string S, .int .i32 c] w fun e w' => e = .returned (.bool (decide (0 ≤ Lib.indexByte S.data.toList c.toNat.toUInt8))) ∧ w' = w := by
  have HI : Hid (Calls Tryz.prog 130 #[.string S, .int .i32 c] w fun e w' => e = .returned (.int .i64 (Lib.indexByte S.data.toList c.toNat.toUInt8)) ∧ w' = w) := irune_asc S c h0 h1 w
  generalize Lib.indexByte S.data.toList c.toNat.toUInt8 = y at *
  go_enter Tryz.func115, Tryz.ntmps115
  go_wp2_with fail
  go_at_call 130
  refine HI.out.mono ?_
  rintro e w' ⟨rfl, rfl⟩
  by_cases hy : 0 ≤ y
  all_goals
    go_wp2
    go_ret
    simp [hy]

theorem signs_outer : ∀ n : Nat, n < 128 → outerS (n : Int) = decide (0 ≤ Lib.indexByte outerB.data.toList n.toUInt8) := by decide +kernel
theorem signs_inner : ∀ n : Nat, n < 128 → innerS (n : Int) = decide (0 ≤ Lib.indexByte innerB.data.toList n.toUInt8) := by decide +kernel
theorem outer_far (c : Int) (h : 128 ≤ c) : outerS c = false := by simp [outerS]; omega
theorem inner_far (c : Int) (h : 128 ≤ c) : innerS c = false := by simp [innerS]; omega
theorem con_any (S : ByteArray) (sg : Int → Bool) (hs : SignsOf S sg) (c : Int) (h0 : 0 ≤ c) (h1 : c ≤ 1114111) (w : World) :
    Calls Tryz.prog 115 #[.string S, .int .i32 c] w fun e w' => e = .returned (.bool (sg c)) ∧ Below w.heap.size w w' := by
  by_cases hc : c < 128
  · refine (crune_asc S c h0 hc w).mono ?_
    rintro e w' ⟨rfl, rfl⟩
    refine ⟨?_, Below.refl _ _⟩
    rcases hs with ⟨rfl, rfl⟩ | ⟨rfl, rfl⟩
    · have := signs_outer c.toNat (by omega)
      rw [Int.toNat_of_nonneg h0] at this
      rw [this]
    · have := signs_inner c.toNat (by omega)
      rw [Int.toNat_of_nonneg h0] at this
      rw [this]
  · rcases hs with ⟨rfl, rfl⟩ | ⟨rfl, rfl⟩
    · refine (crune_far outerB (by decide) (by decide) (by decide) c (by omega) h1 w).mono ?_
      rintro e w' ⟨rfl, hb⟩
      rw [outer_far c (by omega)]
      exact ⟨rfl, hb⟩
    · refine (crune_far innerB (by decide) (by decide) (by decide) c (by omega) h1 w).mono ?_
      rintro e w' ⟨rfl, hb⟩
      rw [inner_far c (by omega)]
      exact ⟨rfl, hb⟩
end Go.Proofs.YtbjohedenfindaaGreatDoor
