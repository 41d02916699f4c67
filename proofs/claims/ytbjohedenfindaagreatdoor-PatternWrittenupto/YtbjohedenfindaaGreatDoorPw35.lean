/- Texts of the proof, put together: WrB, WrC. -/
import Derived.Test.YtbjohedenfindaaGreatDoorPw34
import Derived.Test.YtbjohedenfindaaGreatDoorPw27
import Derived.Test.YtbjohedenfindaaGreatDoorPw18
namespace Go.Proofs.YtbjohedenfindaaGreatDoor
set_option linter.unusedVariables false

def itemB (r : Rg) : List Nat := ptB innerS r.1.toNat ++ ((if r.1 + 1 < r.2 then [45] else []) ++ (if r.1 < r.2 then ptB innerS r.2.toNat else []))
def itemsB (l : List Rg) : List Nat := l.flatMap itemB
/-- as what a range is read -/
def readL (r : Rg) : List Rg := if r.1 + 1 < r.2 then [r] else if r.1 < r.2 then [(r.1, r.1), (r.2, r.2)] else [r]
def RngOk (r : Rg) : Prop := 0 ≤ r.1 ∧ r.1 ≤ r.2 ∧ r.2 ≤ 1114111

theorem readL_has (r : Rg) (h : RngOk r) (p : Int) : hasL (readL r) p = inR p r := by
  obtain ⟨h0, h1, h2⟩ := h
  unfold readL
  split
  · simp [hasL]
  · split
    · have e : r.2 = r.1 + 1 := by omega
      rw [e]
      simp only [hasL, List.any_cons, List.any_nil, Bool.or_false, inR]
      by_cases ha : p = r.1
      · subst ha; simp; omega
      · by_cases hb : p = r.1 + 1
        · subst hb; simp; omega
        · have : ¬ (r.1 ≤ p ∧ p ≤ r.2) := by omega
          rcases Int.lt_or_gt_of_ne ha with h | h
          · have x1 : decide (r.1 ≤ p) = false := by simp; omega
            have x2 : decide (r.1 + 1 ≤ p) = false := by simp; omega
            rw [x1, x2]; simp
          · have x1 : decide (p ≤ r.1) = false := by simp; omega
            have x2 : decide (p ≤ r.1 + 1) = false := by simp; omega
            rw [x1, x2, e]; simp; omega
    · simp [hasL]
theorem readLs_has : ∀ (l : List Rg), (∀ r ∈ l, RngOk r) → ∀ p, hasL (l.flatMap readL) p = hasL l p
  | [], _, p => rfl
  | r :: l, h, p => by
    rw [List.flatMap_cons, hasL_append, readL_has r (h r (by simp)), readLs_has l (fun x hx => h x (by simp [hx])), hasL_cons]

theorem itemB_len (r : Rg) (h : RngOk r) : (readL r).length ≤ (itemB r).length ∧ (itemB r).length ≤ 21 ∧ 1 ≤ (itemB r).length := by
  obtain ⟨h0, h1, h2⟩ := h
  have a := pt_len (c := r.1.toNat) (sg := innerS) (by omega)
  have b := pt_len (c := r.2.toNat) (sg := innerS) (by omega)
  unfold itemB readL
  simp only [List.length_append]
  split
  · rename_i x
    rw [if_pos (by omega)]
    simp; omega
  · split
    · simp; omega
    · simp; omega

theorem inner_first {s : ByteArray} {i c : Nat} (hc : c ≤ 1114111) (h : At s i (ptB innerS c)) : i < s.size ∧ cpAt s i ≠ 45 ∧ cpAt s i ≠ 93 ∧ cpAt s i ≠ 94 := by
  obtain ⟨h0, h1⟩ := pt_first inner_ok hc h
  refine ⟨h0, ?_⟩
  rcases h1 with h1 | ⟨_, h1⟩
  · omega
  · refine ⟨?_, ?_, ?_⟩ <;> (intro e; rw [e] at h1; revert h1; decide)
theorem items_first {s : ByteArray} {i : Nat} (l : List Rg) (hl : ∀ r ∈ l, RngOk r) (h : At s i (itemsB l ++ [93])) : cpAt s i ≠ 45 ∧ cpAt s i ≠ 94 ∧ (l ≠ [] → cpAt s i ≠ 93) ∧ (l = [] → cpAt s i = 93) := by
  cases l with
  | nil =>
    have := (At.cp (l := []) (b := 93) h (by omega)).1
    simp [this]
  | cons r t =>
    have hr := hl r (by simp)
    have h1 : At s i (ptB innerS r.1.toNat) := by
      have h2 : At s i (ptB innerS r.1.toNat ++ (((if r.1 + 1 < r.2 then [45] else []) ++ (if r.1 < r.2 then ptB innerS r.2.toNat else [])) ++ (itemsB t ++ [93]))) := by
        have e : itemsB (r :: t) ++ [93] = ptB innerS r.1.toNat ++ (((if r.1 + 1 < r.2 then [45] else []) ++ (if r.1 < r.2 then ptB innerS r.2.toNat else [])) ++ (itemsB t ++ [93])) := by
          simp [itemsB, itemB, List.append_assoc]
        rw [← e]; exact h
      exact (At.append.1 h2).1
    obtain ⟨_, h3, h4, h5⟩ := inner_first (by have := hr.2.1; have := hr.2.2; omega) h1
    exact ⟨h3, h5, fun _ => h4, fun e => by cases e⟩
theorem items_at {s : ByteArray} : ∀ (l : List Rg) (acc : List Rg) (i f : Nat), (∀ r ∈ l, RngOk r) → At s i (itemsB l ++ [93]) → (itemsB l).length + 1 ≤ f → itemsS s f acc i = some (acc ++ l.flatMap readL, i + (itemsB l).length + 1)
  | [], acc, i, f, _, h, hf => by
    obtain ⟨f', rfl⟩ : ∃ f', f = f' + 1 := ⟨f - 1, by omega⟩
    have := (At.cp (l := []) (b := 93) h (by omega)).1
    rw [itemsS, if_pos (by simpa using this)]
    simp [itemsB]
  | r :: t, acc, i, f, hl, h, hf => by
    obtain ⟨f', rfl⟩ : ∃ f', f = f' + 1 := ⟨f - 1, by omega⟩
    have hr := hl r (by simp)
    have hlt : ∀ x ∈ t, RngOk x := fun x hx => hl x (by simp [hx])
    have hfst := (items_first (r :: t) hl h).2.2.1 (by simp)
    obtain ⟨r0, r1, r2⟩ := hr
    have e : itemsB (r :: t) = itemB r ++ itemsB t := by simp [itemsB]
    have el : (itemsB (r :: t)).length = (itemB r).length + (itemsB t).length := by rw [e, List.length_append]
    rw [e, List.append_assoc] at h
    obtain ⟨hI, hT⟩ := At.append.1 h
    have hnx := items_first t hlt hT
    unfold itemB at hI
    obtain ⟨hLo, hI2⟩ := At.append.1 hI
    have hp := pt_at inner_ok (by omega) hLo
    have elo : ((r.1.toNat : Nat) : Int) = r.1 := by omega
    have ehi : ((r.2.toNat : Nat) : Int) = r.2 := by omega
    rw [elo] at hp
    rw [el]
    rw [itemsS, if_neg hfst]
    by_cases c1 : r.1 + 1 < r.2
    · rw [if_pos c1, if_pos (by omega)] at hI2
      obtain ⟨hM, hHi⟩ := At.append.1 hI2
      have h45 := (At.cp (l := []) (b := 45) hM (by omega)).1
      have hq := pt_at inner_ok (by omega) hHi
      rw [ehi] at hq
      have hitem : itemS s i = some ((r.1, r.2), i + (ptB innerS r.1.toNat).length + 1 + (ptB innerS r.2.toNat).length) := by
        unfold itemS
        rw [hp]
        simp only
        rw [if_pos (by simpa using h45)]
        simp only [List.length_singleton] at hq
        rw [hq]
        simp only
        rw [if_neg (by omega)]
      have elen : (itemB r).length = (ptB innerS r.1.toNat).length + 1 + (ptB innerS r.2.toNat).length := by
        unfold itemB; rw [if_pos c1, if_pos (by omega)]; simp; omega
      rw [hitem]
      simp only
      have ih := items_at t (acc ++ [(r.1, r.2)]) (i + (itemB r).length) f' hlt hT (by rw [el] at hf; omega)
      rw [show i + (ptB innerS r.1.toNat).length + 1 + (ptB innerS r.2.toNat).length = i + (itemB r).length by omega, ih]
      have er : readL r = [(r.1, r.2)] := by unfold readL; rw [if_pos c1]
      rw [List.flatMap_cons, er, List.append_assoc]
      congr 2
      omega
    · by_cases c2 : r.1 < r.2
      · rw [if_neg c1, if_pos c2, List.nil_append] at hI2
        have hq := pt_at inner_ok (by omega) hI2
        rw [ehi] at hq
        have hf2 := inner_first (by omega) hI2
        have elen : (itemB r).length = (ptB innerS r.1.toNat).length + (ptB innerS r.2.toNat).length := by
          unfold itemB; rw [if_neg c1, if_pos c2]; simp
        have hl1 := pt_len (c := r.1.toNat) (sg := innerS) (by omega)
        have hl2 := pt_len (c := r.2.toNat) (sg := innerS) (by omega)
        have hnx45 : cpAt s (i + (ptB innerS r.1.toNat).length + (ptB innerS r.2.toNat).length) ≠ 45 := by
          rw [show i + (ptB innerS r.1.toNat).length + (ptB innerS r.2.toNat).length = i + (itemB r).length by omega]; exact hnx.1
        have hitem : itemS s i = some ((r.1, r.1), i + (ptB innerS r.1.toNat).length) := by
          unfold itemS
          rw [hp]
          simp only
          rw [if_neg hf2.2.1]
        have hitem2 : itemS s (i + (ptB innerS r.1.toNat).length) = some ((r.2, r.2), i + (ptB innerS r.1.toNat).length + (ptB innerS r.2.toNat).length) := by
          unfold itemS
          rw [hq]
          simp only
          rw [if_neg hnx45]
        rw [hitem]
        simp only
        obtain ⟨f2, rfl⟩ : ∃ f2, f' = f2 + 1 := ⟨f' - 1, by rw [el] at hf; omega⟩
        rw [itemsS, if_neg hf2.2.2.1, hitem2]
        simp only
        have ih := items_at t (acc ++ [(r.1, r.1)] ++ [(r.2, r.2)]) (i + (itemB r).length) f2 hlt hT (by rw [el] at hf; omega)
        rw [show i + (ptB innerS r.1.toNat).length + (ptB innerS r.2.toNat).length = i + (itemB r).length by omega, ih]
        have er : readL r = [(r.1, r.1), (r.2, r.2)] := by unfold readL; rw [if_neg c1, if_pos c2]
        rw [List.flatMap_cons, er]
        simp
        omega
      · have ee : r.2 = r.1 := by omega
        have elen : (itemB r).length = (ptB innerS r.1.toNat).length := by
          unfold itemB; rw [if_neg c1, if_neg c2]; simp
        have hitem : itemS s i = some ((r.1, r.1), i + (ptB innerS r.1.toNat).length) := by
          unfold itemS
          rw [hp]
          simp only
          rw [if_neg (by rw [← elen]; exact hnx.1)]
        rw [hitem]
        simp only
        have hl1 := pt_len (c := r.1.toNat) (sg := innerS) (by omega)
        have ih := items_at t (acc ++ [(r.1, r.1)]) (i + (itemB r).length) f' hlt hT (by rw [el] at hf; omega)
        rw [← elen, ih]
        have er : readL r = [(r.1, r.1)] := by
          unfold readL; rw [if_neg c1, if_neg c2]
          obtain ⟨x, y⟩ := r
          simp only at ee; rw [ee]
        rw [List.flatMap_cons, er, List.append_assoc]
        congr 2
        omega

/-- the text of a set -/
def setB (mk : List Rg → Bool → List Rg) (l : List Rg) : List Nat :=
  if l.length = 1 ∧ (l.getD 0 (0, 0)).1 = (l.getD 0 (0, 0)).2 then ptB outerS (l.getD 0 (0, 0)).1.toNat
  else if l = [(0, 9), (11, 1114111)] then [46]
  else if (itemsB (mk l true)).length + 3 < (itemsB l).length + 2 then 91 :: 94 :: (itemsB (mk l true) ++ [93])
  else 91 :: (itemsB l ++ [93])

theorem canon_ok {l : List Rg} (h : canonFrom 0 l = true) : ∀ r ∈ l, RngOk r := by
  have hu := canon_upto h
  intro r hr
  have h1 := hu.low r hr
  have h2 := hu.apart.2 r hr
  exact ⟨h1.1, h2, by omega⟩
theorem outer_first {s : ByteArray} {i c : Nat} (hc : c ≤ 1114111) (h : At s i (ptB outerS c)) : i < s.size ∧ (cpAt s i = 92 ∨ (0 ≤ cpAt s i ∧ outerS (cpAt s i) = false)) := pt_first outer_ok hc h
theorem MkOk.same {mk : List Rg → Bool → List Rg} (M : MkOk mk) {a b : List Rg} (h : canonFrom 0 b = true) (hab : ∀ p, hasL a p = hasL b p) : mk a false = b :=
  (M.eq (canon_upto h) fun p _ _ => by show hasL a p = hasL b p; exact hab p).symm
/-- each list of ranges has a canonical one -/
def MkAll (mk : List Rg → Bool → List Rg) : Prop := ∀ a neg, (∀ r ∈ a, RngOk r) → Upto (mk a neg) 1114112 (fOf a neg)
theorem MkOk.not {mk : List Rg → Bool → List Rg} (M : MkOk mk) (A : MkAll mk) {a b : List Rg} (h : canonFrom 0 b = true) (hab : ∀ p, hasL a p = hasL (mk b true) p) : mk a true = b := by
  have hU := A b true (canon_ok h)
  have hB := canon_upto h
  refine (M.eq hB fun p h0 h1 => ?_).symm
  show (!hasL a p) = hasL b p
  rw [hab p, ← hU.has p h0 h1]
  simp [fOf]

theorem set_at {mk : List Rg → Bool → List Rg} (M : MkOk mk) (A : MkAll mk) {s : ByteArray} {i : Nat} {l : List Rg} (hc : canonFrom 0 l = true) (h : At s i (setB mk l)) (hi : i ≤ s.size) (n : Nat) : unitS s mk (n + 1) i = some (setRe l, i + (setB mk l).length) := by
  have hok := canon_ok hc
  unfold setB at h ⊢
  split at h
  · rename_i h1
    rw [if_pos h1]
    obtain ⟨x, rfl⟩ := List.length_eq_one_iff.1 h1.1
    have h2 : x.1 = x.2 := by simpa using h1.2
    have hx := hok x (by simp)
    simp only [List.getD_cons_zero] at h ⊢
    have hle : x.1.toNat ≤ 1114111 := by have := hx.2.1; have := hx.2.2; omega
    have hp := pt_at outer_ok hle h
    have hf := (outer_first hle h).2
    have e : ((x.1.toNat : Nat) : Int) = x.1 := by have := hx.1; omega
    rw [e] at hp
    have hno : ∀ c, outerS c = true → c ≠ 92 → cpAt s i ≠ c := fun c ho hn he => by
      rcases hf with hf | ⟨_, hf⟩
      · omega
      · rw [he, ho] at hf; cases hf
    have hleaf : leafS s mk i = some (setRe [(x.1, x.1)], i + (ptB outerS x.1.toNat).length) := by
      unfold leafS
      rw [if_neg (hno 46 (by decide) (by omega)), hp]
      rfl
    rw [unitS, if_neg (hno 126 (by decide) (by omega)), if_neg (hno 40 (by decide) (by omega)), if_neg (hno 91 (by decide) (by omega)), hleaf]
    have : (x.1, x.1) = x := by obtain ⟨a, b⟩ := x; simp only at h2; rw [h2]
    rw [this]
  · rename_i h1
    rw [if_neg h1]
    split at h
    · rename_i h2
      rw [if_pos h2]
      subst h2
      have c1 := (At.cp h (by omega)).1
      have c1' : cpAt s i = 46 := by simpa using c1
      rw [unitS, if_neg (by omega), if_neg (by omega), if_neg (by omega)]
      unfold leafS
      rw [if_pos c1', M.dot]
      rfl
    · rename_i h2
      rw [if_neg h2]
      split at h
      · rename_i h3
        rw [if_pos h3]
        have c1 : cpAt s i = 91 := by simpa using (At.cp h (by omega)).1
        have hA2 := (At.cons.1 h).2
        have c2 : cpAt s (i + 1) = 94 := by simpa using (At.cp hA2 (by omega)).1
        have hA3 := (At.cons.1 hA2).2
        have hlen := hA3.le (by have := (At.cons.1 hA2).1.1; omega)
        simp only [List.length_append, List.length_singleton] at hlen
        have hit := items_at (mk l true) [] (i + 1 + 1) (s.size + 1) (canon_ok (M l true).2.1) hA3 (by omega)
        rw [unitS, if_neg (by omega), if_neg (by omega), if_pos c1]
        unfold brackS
        rw [if_pos c2, hit]
        simp only [List.nil_append, Option.map_some]
        rw [M.not A hc (readLs_has _ (canon_ok (M l true).2.1))]
        simp
        omega
      · rename_i h3
        rw [if_neg h3]
        have c1 : cpAt s i = 91 := by simpa using (At.cp h (by omega)).1
        have hA2 := (At.cons.1 h).2
        have hfst := items_first l hok hA2
        have hlen := hA2.le (by have := (At.cons.1 h).1.1; omega)
        simp only [List.length_append, List.length_singleton] at hlen
        have hit := items_at l [] (i + 1) (s.size + 1) hok hA2 (by omega)
        rw [unitS, if_neg (by omega), if_neg (by omega), if_pos c1]
        unfold brackS
        rw [if_neg hfst.2.1, hit]
        simp only [List.nil_append, Option.map_some]
        rw [M.same hc (readLs_has l hok)]
        simp
        omega
theorem set_first {mk : List Rg → Bool → List Rg} {s : ByteArray} {i : Nat} {l : List Rg} (hc : canonFrom 0 l = true) (h : At s i (setB mk l)) : i < s.size ∧ 0 ≤ cpAt s i ∧ cpAt s i ≠ 42 ∧ cpAt s i ≠ 43 ∧ cpAt s i ≠ 63 ∧ cpAt s i ≠ 123 ∧ rowEndS (cpAt s i) = false := by
  have hok := canon_ok hc
  have hfix : ∀ c : Nat, c < 128 → c ≠ 42 → c ≠ 43 → c ≠ 63 → c ≠ 123 → rowEndS (c : Int) = false → ∀ t, At s i (c :: t) → i < s.size ∧ 0 ≤ cpAt s i ∧ cpAt s i ≠ 42 ∧ cpAt s i ≠ 43 ∧ cpAt s i ≠ 63 ∧ cpAt s i ≠ 123 ∧ rowEndS (cpAt s i) = false := by
    intro c hc1 h1 h2 h3 h4 h5 t hA
    obtain ⟨e1, _, e2⟩ := At.cp hA hc1
    rw [e1]
    exact ⟨e2, by omega, by omega, by omega, by omega, by omega, h5⟩
  unfold setB at h
  split at h
  · rename_i h1
    obtain ⟨x, rfl⟩ := List.length_eq_one_iff.1 h1.1
    have hx := hok x (by simp)
    simp only [List.getD_cons_zero] at h
    obtain ⟨h0, hf⟩ := outer_first (c := x.1.toNat) (by have := hx.2.1; have := hx.2.2; omega) h
    rcases hf with hf | ⟨hp, hf⟩
    · rw [hf]; exact ⟨h0, by omega, by omega, by omega, by omega, by omega, by decide⟩
    · have hno : ∀ c, outerS c = true → cpAt s i ≠ c := fun c ho he => by rw [he, ho] at hf; cases hf
      refine ⟨h0, hp, hno 42 (by decide), hno 43 (by decide), hno 63 (by decide), hno 123 (by decide), ?_⟩
      have a1 := hno 124 (by decide)
      have a2 := hno 38 (by decide)
      have a3 := hno 41 (by decide)
      simp [rowEndS]
      omega
  · split at h
    · exact hfix 46 (by omega) (by omega) (by omega) (by omega) (by omega) (by decide) _ h
    · split at h
      · exact hfix 91 (by omega) (by omega) (by omega) (by omega) (by omega) (by decide) _ h
      · exact hfix 91 (by omega) (by omega) (by omega) (by omega) (by omega) (by decide) _ h

end Go.Proofs.YtbjohedenfindaaGreatDoor

namespace Go.Proofs.YtbjohedenfindaaGreatDoor
set_option linter.unusedVariables false

theorem upto_cuts {e : List Int} (hc : Cuts e) {f : Int → Bool} (hf : ∀ k, k + 1 < e.length → ∀ p, e.getD k 0 ≤ p → p ≤ e.getD (k + 1) 0 - 1 → f p = f (e.getD k 0)) : ∀ k, k < e.length → ∃ out, Upto out (e.getD k 0) f ∧ out.length ≤ k
  | 0, _ => ⟨[], by rw [cuts_first hc]; exact Upto.nil f, by simp⟩
  | k + 1, hk => by
    obtain ⟨out, ho, hl⟩ := upto_cuts hc hf k (by omega)
    refine ⟨_, cut_step hc hk ho (hf k hk), ?_⟩
    split
    · have := growL_len out (e.getD k 0) (e.getD (k + 1) 0 - 1); omega
    · omega
theorem upto_exists (a : List Rg) (neg : Bool) : ∃ out, Upto out 1114112 (fOf a neg) ∧ out.length ≤ 2 * a.length + 1 := by
  have hc := edgesL_cuts a Cuts.ends
  have hv := edgesL_covers a [0, 1114112]
  have h2 := cuts_len hc
  have hl := edgesL_len a [0, 1114112]
  obtain ⟨out, ho, hlo⟩ := upto_cuts hc (f := fOf a neg) (fun k hk p h1 h2 => by
    have := cut_const hc hv hk p h1 h2
    simp only [fOf, this]) ((edgesL [0, 1114112] a).length - 1) (by omega)
  rw [cuts_last hc _ (by omega)] at ho
  simp only [List.length_cons, List.length_nil] at hl
  exact ⟨out, ho, by omega⟩
theorem mk_all {mk : List Rg → Bool → List Rg} (M : MkOk mk) : MkAll mk := by
  intro a neg _
  obtain ⟨out, ho, _⟩ := upto_exists a neg
  rw [← (M a neg).1 out ho]
  exact ho
theorem MkOk.len {mk : List Rg → Bool → List Rg} (M : MkOk mk) (a : List Rg) (neg : Bool) : (mk a neg).length ≤ 2 * a.length + 1 := by
  obtain ⟨out, ho, hl⟩ := upto_exists a neg
  rw [← (M a neg).1 out ho]
  exact hl

/-- a count -/
def decB (n : Nat) : List Nat := if n < 10 then [48 + n] else [48 + n / 10, 48 + n % 10]
theorem digRun_at : ∀ (m f : Nat) (s : ByteArray) (i : Nat), m ≤ f → (∀ j, j < m → isDig s (i + j) = true) → isDig s (i + m) = false → digRun s f i = m
  | 0, 0, s, i, _, _, _ => rfl
  | 0, f + 1, s, i, _, _, h => by rw [digRun, if_neg (by simpa using h)]
  | m + 1, f + 1, s, i, hm, h, h2 => by
    rw [digRun, if_pos (by simpa using h 0 (by omega))]
    rw [digRun_at m f s (i + 1) (by omega) (fun j hj => by rw [show i + 1 + j = i + (j + 1) by omega]; exact h (j + 1) (by omega)) (by rw [show i + 1 + m = i + (m + 1) by omega]; exact h2)]
theorem count_at {s : ByteArray} {i n c : Nat} {t : List Nat} (hn : n ≤ 50) (hc : c < 48) (h : At s i (decB n ++ c :: t) ∨ (At s i (decB n ++ 125 :: t))) : countS s i = some ((n : Int), i + (decB n).length) := by
  have h1 : At s i (decB n) := by rcases h with h | h <;> exact (At.append.1 h).1
  have h2 : ∃ b, (b < 48 ∨ 57 < b) ∧ (s.get! (i + (decB n).length)).toNat = b := by
    rcases h with h | h
    · exact ⟨c, .inl hc, (At.cons.1 (At.append.1 h).2).1.2⟩
    · exact ⟨125, .inr (by omega), (At.cons.1 (At.append.1 h).2).1.2⟩
  obtain ⟨b, hb, hb2⟩ := h2
  have hnd : isDig s (i + (decB n).length) = false := by
    unfold isDig; rw [hb2]
    rcases hb with hb | hb
    · simp; omega
    · simp; omega
  have hlen := h1.le
  unfold decB at *
  by_cases h10 : n < 10
  · rw [if_pos h10] at *
    obtain ⟨g1, g2⟩ := At.one.1 h1
    have hr : digRun s s.size i = 1 := digRun_at 1 s.size s i (by omega) (fun j hj => by
      obtain rfl : j = 0 := by omega
      simp [isDig, g1, g2]; omega) hnd
    have hv : digVal s i 1 = (n : Int) := by simp [digVal, g2]; omega
    unfold countS
    rw [hr, hv, if_neg (by omega)]
    rfl
  · rw [if_neg h10] at *
    obtain ⟨⟨g1, g2⟩, g3⟩ := At.cons.1 h1
    obtain ⟨g4, g5⟩ := At.one.1 g3
    have hr : digRun s s.size i = 2 := digRun_at 2 s.size s i (by omega) (fun j hj => by
      rcases (show j = 0 ∨ j = 1 by omega) with rfl | rfl
      · simp [isDig, g1, g2]; omega
      · simp [isDig, g4, g5]; omega) hnd
    have hv : digVal s i 2 = (n : Int) := by simp [digVal, g2, g5]; omega
    unfold countS
    rw [hr, hv, if_neg (by rw [g2]; omega)]
    rfl
theorem dec_first {n : Nat} (hn : n ≤ 50) : ∃ b t, decB n = b :: t ∧ 48 ≤ b ∧ b ≤ 57 := by
  unfold decB
  split
  · exact ⟨_, _, rfl, by omega, by omega⟩
  · exact ⟨_, _, rfl, by omega, by omega⟩

def timesB (a b : Int) : List Nat :=
  if a = 0 ∧ b = -1 then [42] else if a = 1 ∧ b = -1 then [43] else if a = 0 ∧ b = 1 then [63]
  else if b = -1 then 123 :: (decB a.toNat ++ [44, 125])
  else if a = b then 123 :: (decB a.toNat ++ [125])
  else 123 :: (decB a.toNat ++ 44 :: (decB b.toNat ++ [125]))
def TimesOk (a b : Int) : Prop := 0 ≤ a ∧ a ≤ 50 ∧ (b = -1 ∨ (a ≤ b ∧ 1 ≤ b ∧ b ≤ 50))
theorem times_len (a b : Int) : 1 ≤ (timesB a b).length ∧ (timesB a b).length ≤ 7 := by
  have hd : ∀ n, (decB n).length ≤ 2 := fun n => by unfold decB; split <;> simp
  have h1 := hd a.toNat
  have h2 := hd b.toNat
  unfold timesB
  split <;> (try split) <;> (try split) <;> (try split) <;> (try split) <;> simp <;> omega
theorem times_at {s : ByteArray} {i : Nat} {a b : Int} (hok : TimesOk a b) (h : At s i (timesB a b)) (p : Re) (f : Nat) : partS s (f + 1) p i = partS s f (repRe a b p) (i + (timesB a b).length) := by
  obtain ⟨h0, h1, h2⟩ := hok
  have ea : ((a.toNat : Nat) : Int) = a := by omega
  rw [partS_eq]
  unfold timesB at h ⊢
  split at h
  · rename_i e
    obtain ⟨rfl, rfl⟩ := e
    have c : cpAt s i = 42 := by simpa using (At.cp h (by omega)).1
    simp [c]
  · rename_i e1
    rw [if_neg e1]
    split at h
    · rename_i e
      obtain ⟨rfl, rfl⟩ := e
      have c : cpAt s i = 43 := by simpa using (At.cp h (by omega)).1
      simp [c]
    · rename_i e2
      rw [if_neg e2]
      split at h
      · rename_i e
        obtain ⟨rfl, rfl⟩ := e
        have c : cpAt s i = 63 := by simpa using (At.cp h (by omega)).1
        simp [c]
      · rename_i e3
        rw [if_neg e3]
        have hbr : ∀ t, At s i (123 :: t) → cpAt s i = 123 := fun t hA => by simpa using (At.cp hA (by omega)).1
        split at h
        · rename_i e4
          rw [if_pos e4]
          subst e4
          have c := hbr _ h
          have hA := (At.cons.1 h).2
          have hcnt := count_at (n := a.toNat) (c := 44) (t := [125]) (by omega) (by omega) (.inl hA)
          obtain ⟨_, hB⟩ := At.append.1 hA
          have c1 : cpAt s (i + 1 + (decB a.toNat).length) = 44 := by simpa using (At.cp hB (by omega)).1
          have c2 : cpAt s (i + 1 + (decB a.toNat).length + 1) = 125 := by simpa using (At.cp (At.cons.1 hB).2 (by omega)).1
          have ht : timesS s (i + 1) = some ((a, -1), i + 1 + (decB a.toNat).length + 2) := by
            unfold timesS
            rw [hcnt]
            simp only
            rw [if_pos c1, if_pos c2, ea]
          rw [c, ht]
          simp
          congr 1
          omega
        · rename_i e4
          rw [if_neg e4]
          have h3 : a ≤ b ∧ 1 ≤ b ∧ b ≤ 50 := by omega
          split at h
          · rename_i e5
            rw [if_pos e5]
            subst e5
            have c := hbr _ h
            have hA := (At.cons.1 h).2
            have hcnt := count_at (n := a.toNat) (c := 44) (t := []) (by omega) (by omega) (.inr hA)
            obtain ⟨_, hB⟩ := At.append.1 hA
            have c1 : cpAt s (i + 1 + (decB a.toNat).length) = 125 := by simpa using (At.cp hB (by omega)).1
            have ht : timesS s (i + 1) = some ((a, a), i + 1 + (decB a.toNat).length + 1) := by
              unfold timesS
              rw [hcnt]
              simp only
              rw [if_neg (by omega), if_neg (by omega), ea]
            rw [c, ht]
            simp
            congr 1
            omega
          · rename_i e5
            rw [if_neg e5]
            have c := hbr _ h
            have hA := (At.cons.1 h).2
            have hcnt := count_at (n := a.toNat) (c := 44) (by omega) (by omega) (.inl hA)
            obtain ⟨_, hB⟩ := At.append.1 hA
            have c1 : cpAt s (i + 1 + (decB a.toNat).length) = 44 := by simpa using (At.cp hB (by omega)).1
            have hC := (At.cons.1 hB).2
            have hcnt2 := count_at (n := b.toNat) (c := 44) (t := []) (by omega) (by omega) (.inr hC)
            obtain ⟨x, t, hx, hx0, hx1⟩ := dec_first (n := b.toNat) (by omega)
            have c2 : cpAt s (i + 1 + (decB a.toNat).length + 1) ≠ 125 := by
              have hC' := hC
              rw [hx] at hC'
              have := (At.cp (l := t ++ [125]) (b := x) hC' (by omega)).1
              rw [this]; omega
            obtain ⟨_, hD⟩ := At.append.1 hC
            have c3 : cpAt s (i + 1 + (decB a.toNat).length + 1 + (decB b.toNat).length) = 125 := by simpa using (At.cp hD (by omega)).1
            have eb : ((b.toNat : Nat) : Int) = b := by omega
            have ht : timesS s (i + 1) = some ((a, b), i + 1 + (decB a.toNat).length + 1 + (decB b.toNat).length + 1) := by
              unfold timesS
              rw [hcnt]
              simp only
              rw [if_pos c1, if_neg c2, hcnt2]
              simp only
              rw [if_neg (by omega), ea, eb]
            rw [c, ht]
            simp
            congr 1
            omega

end Go.Proofs.YtbjohedenfindaaGreatDoor
