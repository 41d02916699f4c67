/- Plain facts on the document's own sets: points at which a set may begin or end, in ascending order; between two neighbours no set changes. -/
import Derived.Test.YtbiiapdeincpbaaSetsB
namespace Go.Proofs.Ytbiiapdeincpbaa
set_option linter.unusedVariables false

def insL : List Int → Int → List Int
  | [], n => [n]
  | x :: t, n => if x < n then x :: insL t n else if x = n then x :: t else n :: x :: t

theorem insL_mem : ∀ (l : List Int) (n x : Int), x ∈ insL l n ↔ x = n ∨ x ∈ l
  | [], n, x => by simp [insL]
  | y :: t, n, x => by
    unfold insL
    split
    · have := insL_mem t n x
      simp only [List.mem_cons, this]
      constructor
      · rintro (h | h | h) <;> simp [h]
      · rintro (h | h | h) <;> simp [h]
    · split
      · rename_i h1 h2
        subst h2
        simp only [List.mem_cons]
        constructor
        · rintro (h | h) <;> simp [h]
        · rintro (h | h | h) <;> simp [h]
      · simp only [List.mem_cons]
theorem insL_len : ∀ (l : List Int) (n : Int), (insL l n).length ≤ l.length + 1 ∧ l.length ≤ (insL l n).length
  | [], n => by simp [insL]
  | y :: t, n => by
    unfold insL
    split
    · have := insL_len t n
      simp only [List.length_cons]; omega
    · split <;> simp only [List.length_cons] <;> omega
theorem insL_sorted : ∀ (l : List Int) (n : Int), l.Pairwise (· < ·) → (insL l n).Pairwise (· < ·)
  | [], n, _ => by simp [insL]
  | y :: t, n, h => by
    have h1 := List.pairwise_cons.1 h
    unfold insL
    split
    · rename_i hlt
      refine List.pairwise_cons.2 ⟨fun x hx => ?_, insL_sorted t n h1.2⟩
      rcases (insL_mem t n x).1 hx with rfl | hx
      · exact hlt
      · exact h1.1 x hx
    · split
      · exact h
      · rename_i hn1 hn2
        refine List.pairwise_cons.2 ⟨fun x hx => ?_, h⟩
        rcases List.mem_cons.1 hx with rfl | hx
        · omega
        · have := h1.1 x hx; omega

/-- the walk's form: the place is told -/
theorem insL_at : ∀ (l : List Int) (n : Int) (k : Nat), k ≤ l.length → (∀ j, j < k → l.getD j 0 < n) → (k < l.length → n ≤ l.getD k 0) →
    insL l n = if k < l.length ∧ l.getD k 0 = n then l else l.take k ++ n :: l.drop k
  | [], n, k, hk, _, _ => by
    have : k = 0 := by simpa using hk
    subst this
    simp [insL]
  | y :: t, n, 0, _, _, h2 => by
    have := h2 (by simp)
    simp at this
    unfold insL
    rw [if_neg (by omega)]
    by_cases e : y = n
    · simp [e]
    · simp [e]
  | y :: t, n, k + 1, hk, h1, h2 => by
    have hy := h1 0 (by omega)
    simp at hy
    have ih := insL_at t n k (by simpa using hk) (fun j hj => by have := h1 (j + 1) (by omega); simpa using this) (fun h => by have := h2 (by simpa using h); simpa using this)
    unfold insL
    rw [if_pos hy, ih]
    simp only [List.length_cons, List.getD_cons_succ, List.take_succ_cons, List.drop_succ_cons, Nat.add_lt_add_iff_right]
    split <;> simp

structure Cuts (e : List Int) : Prop where
  sorted : e.Pairwise (· < ·)
  zero : (0 : Int) ∈ e
  top : (1114112 : Int) ∈ e
  bd : ∀ x ∈ e, 0 ≤ x ∧ x ≤ 1114112

theorem Cuts.ends : Cuts [0, 1114112] := ⟨by simp, by simp, by simp, by simp⟩
theorem Cuts.ins {e : List Int} (h : Cuts e) (n : Int) (h0 : 0 ≤ n) (h1 : n ≤ 1114112) : Cuts (insL e n) :=
  ⟨insL_sorted e n h.sorted, (insL_mem _ _ _).2 (Or.inr h.zero), (insL_mem _ _ _).2 (Or.inr h.top), fun x hx => by
    rcases (insL_mem _ _ _).1 hx with rfl | hx
    · exact ⟨h0, h1⟩
    · exact h.bd x hx⟩

def edgeLo (l : List Int) (r : Rg) : List Int := if 0 < r.1 ∧ r.1 ≤ 1114111 then insL l r.1 else l
def edgeHi (l : List Int) (r : Rg) : List Int := if 0 ≤ r.2 ∧ r.2 < 1114111 then insL l (r.2 + 1) else l
def edgesL : List Int → List Rg → List Int
  | l, [] => l
  | l, r :: t => edgesL (edgeHi (edgeLo l r) r) t
theorem edgesL_snoc : ∀ (s : List Rg) (l : List Int) (r : Rg), edgesL l (s ++ [r]) = edgeHi (edgeLo (edgesL l s) r) r
  | [], l, r => rfl
  | x :: t, l, r => by
    show edgesL _ (t ++ [r]) = _
    rw [edgesL_snoc t]; rfl
theorem edgeLo_cuts {l : List Int} (h : Cuts l) (r : Rg) : Cuts (edgeLo l r) := by
  unfold edgeLo; split
  · exact h.ins _ (by omega) (by omega)
  · exact h
theorem edgeHi_cuts {l : List Int} (h : Cuts l) (r : Rg) : Cuts (edgeHi l r) := by
  unfold edgeHi; split
  · exact h.ins _ (by omega) (by omega)
  · exact h
theorem edgesL_cuts : ∀ (s : List Rg) {l : List Int}, Cuts l → Cuts (edgesL l s)
  | [], _, h => h
  | r :: t, _, h => edgesL_cuts t (edgeHi_cuts (edgeLo_cuts h r) r)
theorem edgeLo_sub (l : List Int) (r : Rg) : ∀ x ∈ l, x ∈ edgeLo l r := fun x hx => by
  unfold edgeLo; split
  · exact (insL_mem _ _ _).2 (Or.inr hx)
  · exact hx
theorem edgeHi_sub (l : List Int) (r : Rg) : ∀ x ∈ l, x ∈ edgeHi l r := fun x hx => by
  unfold edgeHi; split
  · exact (insL_mem _ _ _).2 (Or.inr hx)
  · exact hx
theorem edgesL_sub : ∀ (s : List Rg) (l : List Int), ∀ x ∈ l, x ∈ edgesL l s
  | [], _, _, h => h
  | r :: t, l, x, h => edgesL_sub t _ x (edgeHi_sub _ r x (edgeLo_sub l r x h))
theorem edgesL_len : ∀ (s : List Rg) (l : List Int), (edgesL l s).length ≤ l.length + 2 * s.length
  | [], _ => by simp [edgesL]
  | r :: t, l => by
    have ih := edgesL_len t (edgeHi (edgeLo l r) r)
    have h1 : (edgeLo l r).length ≤ l.length + 1 := by
      unfold edgeLo; split
      · exact (insL_len _ _).1
      · omega
    have h2 : (edgeHi (edgeLo l r) r).length ≤ (edgeLo l r).length + 1 := by
      unfold edgeHi; split
      · exact (insL_len _ _).1
      · omega
    simp only [edgesL, List.length_cons]
    omega

def Covers (e : List Int) (s : List Rg) : Prop := ∀ r ∈ s, (0 < r.1 → r.1 ≤ 1114111 → r.1 ∈ e) ∧ (0 ≤ r.2 → r.2 < 1114111 → r.2 + 1 ∈ e)
theorem Covers.sub {e e' : List Int} {s : List Rg} (h : Covers e s) (hs : ∀ x ∈ e, x ∈ e') : Covers e' s :=
  fun r hr => ⟨fun a b => hs _ ((h r hr).1 a b), fun a b => hs _ ((h r hr).2 a b)⟩
theorem edgesL_covers : ∀ (s : List Rg) (l : List Int), Covers (edgesL l s) s
  | [], _ => by intro r hr; simp at hr
  | r :: t, l => by
    intro x hx
    rcases List.mem_cons.1 hx with rfl | hx
    · refine ⟨fun a b => edgesL_sub t _ _ (edgeHi_sub _ _ _ ?_), fun a b => edgesL_sub t _ _ ?_⟩
      · unfold edgeLo; rw [if_pos ⟨a, b⟩]; exact (insL_mem _ _ _).2 (Or.inl rfl)
      · unfold edgeHi; rw [if_pos ⟨a, b⟩]; exact (insL_mem _ _ _).2 (Or.inl rfl)
    · exact edgesL_covers t _ x hx

theorem sorted_get : ∀ {e : List Int}, e.Pairwise (· < ·) → ∀ i j, i < j → j < e.length → e.getD i 0 < e.getD j 0
  | [], _, _, _, _, h => by simp at h
  | x :: t, hs, 0, j + 1, _, h => by
    have := (List.pairwise_cons.1 hs).1 (t.getD j 0) (by simp at h; simp [h])
    simpa using this
  | x :: t, hs, i + 1, j + 1, hij, h => by
    have := sorted_get (List.pairwise_cons.1 hs).2 i j (by omega) (by simpa using h)
    simpa using this
theorem mem_get {e : List Int} {x : Int} (h : x ∈ e) : ∃ i, i < e.length ∧ e.getD i 0 = x := by
  obtain ⟨i, hi, e1⟩ := List.mem_iff_getElem.1 h
  exact ⟨i, hi, by simp [hi, e1]⟩
theorem next_le {e : List Int} (hs : e.Pairwise (· < ·)) {k : Nat} (hk : k + 1 < e.length) {x : Int} (hx : x ∈ e) (hlt : e.getD k 0 < x) : e.getD (k + 1) 0 ≤ x := by
  obtain ⟨i, hi, rfl⟩ := mem_get hx
  rcases (show i ≤ k ∨ i = k + 1 ∨ k + 1 < i from by omega) with h | h | h
  · rcases (show i < k ∨ i = k from by omega) with h | h
    · have := sorted_get hs i k h (by omega); omega
    · subst h; omega
  · subst h; exact Int.le_refl _
  · have := sorted_get hs (k + 1) i h hi; omega

theorem cut_const {e : List Int} (hc : Cuts e) {s : List Rg} (hv : Covers e s) {k : Nat} (hk : k + 1 < e.length) (p : Int) (h1 : e.getD k 0 ≤ p) (h2 : p ≤ e.getD (k + 1) 0 - 1) : hasL s p = hasL s (e.getD k 0) := by
  have hm : ∀ i, i < e.length → e.getD i 0 ∈ e := fun i hi => by simp [hi]
  have b0 := hc.bd _ (hm k (by omega))
  have b1 := hc.bd _ (hm (k + 1) hk)
  rw [Bool.eq_iff_iff, hasL_iff, hasL_iff]
  constructor
  · rintro ⟨r, hr, a1, a2⟩
    refine ⟨r, hr, ?_, by omega⟩
    rcases (show r.1 ≤ e.getD k 0 ∨ e.getD k 0 < r.1 from by omega) with h | h
    · exact h
    · exfalso
      have := next_le hc.sorted hk ((hv r hr).1 (by omega) (by omega)) h
      omega
  · rintro ⟨r, hr, a1, a2⟩
    refine ⟨r, hr, by omega, ?_⟩
    rcases (show p ≤ r.2 ∨ r.2 < p from by omega) with h | h
    · exact h
    · exfalso
      have := next_le hc.sorted hk ((hv r hr).2 (by omega) (by omega)) (by omega)
      omega

theorem cuts_len {e : List Int} (hc : Cuts e) : 2 ≤ e.length := by
  obtain ⟨i, hi, h1⟩ := mem_get hc.zero
  obtain ⟨j, hj, h2⟩ := mem_get hc.top
  have : i ≠ j := by rintro rfl; omega
  omega
theorem cuts_first {e : List Int} (hc : Cuts e) : e.getD 0 0 = 0 := by
  obtain ⟨i, hi, h1⟩ := mem_get hc.zero
  have hm : e.getD 0 0 ∈ e := by have : 0 < e.length := by omega
                                 simp [this]
  have hb := hc.bd _ hm
  rcases Nat.eq_zero_or_pos i with h | h
  · subst h; exact h1
  · have := sorted_get hc.sorted 0 i h hi; omega
theorem cuts_last {e : List Int} (hc : Cuts e) (k : Nat) (hk : k + 1 = e.length) : e.getD k 0 = 1114112 := by
  obtain ⟨i, hi, h1⟩ := mem_get hc.top
  have hm : e.getD k 0 ∈ e := by have : k < e.length := by omega
                                 simp [this]
  have hb := hc.bd _ hm
  rcases (show i < k ∨ i = k from by omega) with h | h
  · have := sorted_get hc.sorted i k h (by omega); omega
  · subst h; exact h1

theorem cut_step {e : List Int} (hc : Cuts e) {k : Nat} (hk : k + 1 < e.length) {out : List Rg} {f : Int → Bool} (hu : Upto out (e.getD k 0) f) (hf : ∀ p, e.getD k 0 ≤ p → p ≤ e.getD (k + 1) 0 - 1 → f p = f (e.getD k 0)) :
    Upto (if f (e.getD k 0) then growL out (e.getD k 0) (e.getD (k + 1) 0 - 1) else out) (e.getD (k + 1) 0) f := by
  have hlt := sorted_get hc.sorted k (k + 1) (by omega) hk
  have hb := hc.bd (e.getD k 0) (by have : k < e.length := by omega
                                    simp [this])
  have e1 : e.getD (k + 1) 0 - 1 + 1 = e.getD (k + 1) 0 := by omega
  split
  · rename_i hw
    have := hu.grow hb.1 (hi := e.getD (k + 1) 0 - 1) (by omega) (fun p h1 h2 => by rw [hf p h1 h2, hw])
    rw [e1] at this; exact this
  · rename_i hw
    have := hu.skip (hi := e.getD (k + 1) 0 - 1) (by omega) (fun p h1 h2 => by rw [hf p h1 h2]; simpa using hw)
    rw [e1] at this; exact this

theorem hasB_in (l : List Rg) (p : Int) (h0 : 0 ≤ p) (h1 : p ≤ 1114111) : hasB l p = hasL l p := by simp [hasB, h0, h1]

end Go.Proofs.Ytbiiapdeincpbaa
