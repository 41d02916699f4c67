/- Texts of the proof, put together: MkS, WrB, WrC. -/
import Derived.Test.YtbjohedenfindaaGreatDoorPb06
import Derived.Test.YtbjohedenfindaaGreatDoorPb19
import Derived.Test.YtbjohedenfindaaGreatDoorPb33
import Derived.Test.YtbjohedenfindaaGreatDoorPb02
import Derived.Test.YtbjohedenfindaaGreatDoorPb16
namespace Go.Proofs.YtbjohedenfindaaGreatDoor
open Go.RowKit
set_option linter.unusedVariables false
set_option maxRecDepth 100000

/-- what a set has, or what the other one has -/
def fOf (a : List Rg) (neg : Bool) (p : Int) : Bool := if neg then !hasL a p else hasL a p

theorem canon_of : ∀ (l : List Rg) (p : Int), Apart l → (∀ r ∈ l, p ≤ r.1 ∧ r.2 < 1114112) → canonFrom p l = true
  | [], _, _, _ => rfl
  | r :: t, p, ha, hb => by
    have h1 := hb r (by simp)
    have h2 := ha.2 r (by simp)
    rw [canonFrom, if_neg (by omega)]
    refine canon_of t (r.2 + 2) ha.tail fun x hx => ?_
    have := ha.head x hx
    exact ⟨by omega, (hb x (by simp [hx])).2⟩
theorem upto_canon {l : List Rg} {f : Int → Bool} (h : Upto l 1114112 f) : canonFrom 0 l = true ∧ l.length ≤ 600000 := by
  have h1 := canon_of l 0 h.apart fun r hr => h.low r hr
  have h2 := (canon_rng l 0 (by omega) h1).2
  exact ⟨h1, by omega⟩
theorem canon_upto {l : List Rg} (h : canonFrom 0 l = true) : Upto l 1114112 (fun p => hasL l p) := by
  have hap : ∀ (l : List Rg) (p : Int), canonFrom p l = true → Apart l ∧ ∀ r ∈ l, p ≤ r.1 ∧ r.1 ≤ r.2 ∧ r.2 ≤ 1114111 := by
    intro l
    induction l with
    | nil => intro p _; exact ⟨⟨List.Pairwise.nil, by simp⟩, by simp⟩
    | cons r t ih =>
      intro p h
      rw [canonFrom] at h
      split at h
      · simp at h
      · rename_i hh
        obtain ⟨h1, h2⟩ := ih (r.2 + 2) h
        refine ⟨⟨List.pairwise_cons.2 ⟨fun x hx => by have := h2 x hx; omega, h1.1⟩, fun x hx => ?_⟩, fun x hx => ?_⟩
        · rcases List.mem_cons.1 hx with rfl | hx
          · omega
          · exact h1.2 x hx
        · rcases List.mem_cons.1 hx with rfl | hx
          · omega
          · have := h2 x hx; omega
  obtain ⟨h1, h2⟩ := hap l 0 h
  exact ⟨h1, fun r hr => by have := h2 r hr; omega, fun p _ _ => rfl⟩

/-- one canonical list for each set -/
def MkOk (mk : List Rg → Bool → List Rg) : Prop := ∀ a neg, (∀ out, Upto out 1114112 (fOf a neg) → out = mk a neg) ∧ canonFrom 0 (mk a neg) = true ∧ (mk a neg).length ≤ 600000
theorem mk_exists : ∃ mk, MkOk mk := by
  have each : ∀ x : List Rg × Bool, ∃ l : List Rg, (∀ out, Upto out 1114112 (fOf x.1 x.2) → out = l) ∧ canonFrom 0 l = true ∧ l.length ≤ 600000 := by
    intro x
    by_cases h : ∃ out, Upto out 1114112 (fOf x.1 x.2)
    · obtain ⟨out, ho⟩ := h
      exact ⟨out, fun o h => upto_unique h ho fun _ _ _ => rfl, (upto_canon ho).1, (upto_canon ho).2⟩
    · exact ⟨[], fun o ho => absurd ⟨o, ho⟩ h, rfl, by simp⟩
  obtain ⟨F, hF⟩ := Classical.axiomOfChoice each
  exact ⟨fun a neg => F (a, neg), fun a neg => hF (a, neg)⟩
theorem MkOk.eq {mk : List Rg → Bool → List Rg} (M : MkOk mk) {a out : List Rg} {neg : Bool} {f : Int → Bool} (h : Upto out 1114112 f) (hf : ∀ p, 0 ≤ p → p < 1114112 → fOf a neg p = f p) : out = mk a neg :=
  (M a neg).1 out ⟨h.apart, h.low, fun p h0 h1 => (hf p h0 h1).trans (h.has p h0 h1)⟩
theorem MkOk.self {mk : List Rg → Bool → List Rg} (M : MkOk mk) {l : List Rg} (h : canonFrom 0 l = true) : mk l false = l := (M.eq (canon_upto h) fun _ _ _ => rfl).symm
theorem MkOk.dot {mk : List Rg → Bool → List Rg} (M : MkOk mk) : mk [(10, 10)] true = [(0, 9), (11, 1114111)] := by
  refine (M.eq (f := fun p => hasL [(0, 9), (11, 1114111)] p) (canon_upto (by decide)) fun p h0 h1 => ?_).symm
  simp only [fOf, hasL, inR, List.any_cons, List.any_nil, Bool.or_false, if_true]
  by_cases h : p = 10
  · subst h; decide
  · rcases Int.lt_or_gt_of_ne h with h | h
    · have e1 : decide (10 ≤ p) = false := by simp; omega
      have e2 : decide (0 ≤ p) = true := by simp; omega
      have e3 : decide (p ≤ 9) = true := by simp; omega
      rw [e1, e2, e3]; rfl
    · have e1 : decide (p ≤ 10) = false := by simp; omega
      have e2 : decide (11 ≤ p) = true := by simp; omega
      have e3 : decide (p ≤ 1114111) = true := by simp; omega
      rw [e1, e2, e3]; simp

theorem setc_of {mk : List Rg → Bool → List Rg} (M : MkOk mk) : SetC mk where
  canon := fun va a w hl ha => (pcanon_any va a w hl ha).mono fun e w' ⟨v, out, he, ho, hU, hb, _⟩ => by
    have := M.eq (a := a) (neg := false) hU fun _ _ _ => rfl
    subst this
    exact ⟨v, he, ho, hb⟩
  other := fun va a w hl ha => (pother_any va a w hl ha).mono fun e w' ⟨v, out, he, ho, hU, hb, _⟩ => by
    have := M.eq (a := a) (neg := true) hU fun _ _ _ => rfl
    subst this
    exact ⟨v, he, ho, hb⟩
theorem rcanon_mk {mk : List Rg → Bool → List Rg} (M : MkOk mk) (v : Value) (l : List Rg) (w : World) (hl : l.length ≤ 600000) (hv : Rngs w v l) :
    Calls Tryz.prog 51 #[v] w fun e w' => ∃ u, e = .returned u ∧ RowR (fun b => w.heap.size ≤ b) w' u (mk l false) ∧ Below w.heap.size w w' :=
  (rcanon_any v l w hl hv).mono fun e w' ⟨v, out, he, ho, hU, hb, _⟩ => by
    have := M.eq (a := l) (neg := false) hU fun _ _ _ => rfl
    subst this
    exact ⟨v, he, RowR.of_own ho, hb⟩
theorem setd_of {mk : List Rg → Bool → List Rg} (M : MkOk mk) : SetD mk where
  canon := fun v l w hl hv => rcanon_mk M v l w (by omega) hv
  all := fun w => all_any w
  both := fun v1 v l w hl h1 hv => (both_any 3 v1 v [(0, 1114111)] l w (by simp) (by omega) h1 hv (fun p W g1 g2 => wanted_3 v1 v _ l p W (by simp) (by omega) g1 g2)).mono fun e w' ⟨u, out, he, ho, hU, hb, _⟩ => by
    have := M.eq (a := l) (neg := true) hU fun p h0 h1 => by
      rw [show wantR 3 (hasB [(0, 1114111)] p) (hasB l p) = (hasB [(0, 1114111)] p && !hasB l p) from rfl, hasB_in _ p h0 (by omega), hasB_in _ p h0 (by omega)]
      have : hasL [(0, 1114111)] p = true := by simp [hasL, inR]; omega
      rw [this]; rfl
    subst this
    exact ⟨u, he, RowR.of_own ho, hb⟩

end Go.Proofs.YtbjohedenfindaaGreatDoor

namespace Go.Proofs.YtbjohedenfindaaGreatDoor
set_option linter.unusedVariables false

def itemB (r : Rg) : List Nat := ptB innerS r.1.toNat ++ ((if r.1 + 1 < r.2 then [45] else []) ++ (if r.1 < r.2 then ptB innerS r.2.toNat else []))
def itemsB (l : List Rg) : List Nat := l.flatMap itemB
/-- as what a range is read -/
def readL (r : Rg) : List Rg := if r.1 + 1 < r.2 then [r] else if r.1 < r.2 then [(r.1, r.1), (r.2, r.2)] else [r]
def RngOk (r : Rg) : Prop := 0 ≤ r.1 ∧ r.1 ≤ r.2 ∧ r.2 ≤ 1114111

theorem readL_has (r : Rg) (h : RngOk r) (p : Int) : hasL (readL r) p = inR p r := by
  obtain ⟨h0, h1, h2⟩ := h
  unfold readL
  split
  · simp [hasL]
  · split
    · have e : r.2 = r.1 + 1 := by omega
      rw [e]
      simp only [hasL, List.any_cons, List.any_nil, Bool.or_false, inR]
      by_cases ha : p = r.1
      · subst ha; simp; omega
      · by_cases hb : p = r.1 + 1
        · subst hb; simp; omega
        · have : ¬ (r.1 ≤ p ∧ p ≤ r.2) := by omega
          rcases Int.lt_or_gt_of_ne ha with h | h
          · have x1 : decide (r.1 ≤ p) = false := by simp; omega
            have x2 : decide (r.1 + 1 ≤ p) = false := by simp; omega
            rw [x1, x2]; simp
          · have x1 : decide (p ≤ r.1) = false := by simp; omega
            have x2 : decide (p ≤ r.1 + 1) = false := by simp; omega
            rw [x1, x2, e]; simp; omega
    · simp [hasL]
theorem readLs_has : ∀ (l : List Rg), (∀ r ∈ l, RngOk r) → ∀ p, hasL (l.flatMap readL) p = hasL l p
  | [], _, p => rfl
  | r :: l, h, p => by
    rw [List.flatMap_cons, hasL_append, readL_has r (h r (by simp)), readLs_has l (fun x hx => h x (by simp [hx])), hasL_cons]

theorem itemB_len (r : Rg) (h : RngOk r) : (readL r).length ≤ (itemB r).length ∧ (itemB r).length ≤ 21 ∧ 1 ≤ (itemB r).length := by
  obtain ⟨h0, h1, h2⟩ := h
  have a := pt_len (c := r.1.toNat) (sg := innerS) (by omega)
  have b := pt_len (c := r.2.toNat) (sg := innerS) (by omega)
  unfold itemB readL
  simp only [List.length_append]
  split
  · rename_i x
    rw [if_pos (by omega)]
    simp; omega
  · split
    · simp; omega
    · simp; omega

theorem inner_first {s : ByteArray} {i c : Nat} (hc : c ≤ 1114111) (h : At s i (ptB innerS c)) : i < s.size ∧ cpAt s i ≠ 45 ∧ cpAt s i ≠ 93 ∧ cpAt s i ≠ 94 := by
  obtain ⟨h0, h1⟩ := pt_first inner_ok hc h
  refine ⟨h0, ?_⟩
  rcases h1 with h1 | ⟨_, h1⟩
  · omega
  · refine ⟨?_, ?_, ?_⟩ <;> (intro e; rw [e] at h1; revert h1; decide)
theorem items_first {s : ByteArray} {i : Nat} (l : List Rg) (hl : ∀ r ∈ l, RngOk r) (h : At s i (itemsB l ++ [93])) : cpAt s i ≠ 45 ∧ cpAt s i ≠ 94 ∧ (l ≠ [] → cpAt s i ≠ 93) ∧ (l = [] → cpAt s i = 93) := by
  cases l with
  | nil =>
    have := (At.cp (l := []) (b := 93) h (by omega)).1
    simp [this]
  | cons r t =>
    have hr := hl r (by simp)
    have h1 : At s i (ptB innerS r.1.toNat) := by
      have h2 : At s i (ptB innerS r.1.toNat ++ (((if r.1 + 1 < r.2 then [45] else []) ++ (if r.1 < r.2 then ptB innerS r.2.toNat else [])) ++ (itemsB t ++ [93]))) := by
        have e : itemsB (r :: t) ++ [93] = ptB innerS r.1.toNat ++ (((if r.1 + 1 < r.2 then [45] else []) ++ (if r.1 < r.2 then ptB innerS r.2.toNat else [])) ++ (itemsB t ++ [93])) := by
          simp [itemsB, itemB, List.append_assoc]
        rw [← e]; exact h
      exact (At.append.1 h2).1
    obtain ⟨_, h3, h4, h5⟩ := inner_first (by have := hr.2.1; have := hr.2.2; omega) h1
    exact ⟨h3, h5, fun _ => h4, fun e => by cases e⟩
theorem items_at {s : ByteArray} : ∀ (l : List Rg) (acc : List Rg) (i f : Nat), (∀ r ∈ l, RngOk r) → At s i (itemsB l ++ [93]) → (itemsB l).length + 1 ≤ f → itemsS s f acc i = some (acc ++ l.flatMap readL, i + (itemsB l).length + 1)
  | [], acc, i, f, _, h, hf => by
    obtain ⟨f', rfl⟩ : ∃ f', f = f' + 1 := ⟨f - 1, by omega⟩
    have := (At.cp (l := []) (b := 93) h (by omega)).1
    rw [itemsS, if_pos (by simpa using this)]
    simp [itemsB]
  | r :: t, acc, i, f, hl, h, hf => by
    obtain ⟨f', rfl⟩ : ∃ f', f = f' + 1 := ⟨f - 1, by omega⟩
    have hr := hl r (by simp)
    have hlt : ∀ x ∈ t, RngOk x := fun x hx => hl x (by simp [hx])
    have hfst := (items_first (r :: t) hl h).2.2.1 (by simp)
    obtain ⟨r0, r1, r2⟩ := hr
    have e : itemsB (r :: t) = itemB r ++ itemsB t := by simp [itemsB]
    have el : (itemsB (r :: t)).length = (itemB r).length + (itemsB t).length := by rw [e, List.length_append]
    rw [e, List.append_assoc] at h
    obtain ⟨hI, hT⟩ := At.append.1 h
    have hnx := items_first t hlt hT
    unfold itemB at hI
    obtain ⟨hLo, hI2⟩ := At.append.1 hI
    have hp := pt_at inner_ok (by omega) hLo
    have elo : ((r.1.toNat : Nat) : Int) = r.1 := by omega
    have ehi : ((r.2.toNat : Nat) : Int) = r.2 := by omega
    rw [elo] at hp
    rw [el]
    rw [itemsS, if_neg hfst]
    by_cases c1 : r.1 + 1 < r.2
    · rw [if_pos c1, if_pos (by omega)] at hI2
      obtain ⟨hM, hHi⟩ := At.append.1 hI2
      have h45 := (At.cp (l := []) (b := 45) hM (by omega)).1
      have hq := pt_at inner_ok (by omega) hHi
      rw [ehi] at hq
      have hitem : itemS s i = some ((r.1, r.2), i + (ptB innerS r.1.toNat).length + 1 + (ptB innerS r.2.toNat).length) := by
        unfold itemS
        rw [hp]
        simp only
        rw [if_pos (by simpa using h45)]
        simp only [List.length_singleton] at hq
        rw [hq]
        simp only
        rw [if_neg (by omega)]
      have elen : (itemB r).length = (ptB innerS r.1.toNat).length + 1 + (ptB innerS r.2.toNat).length := by
        unfold itemB; rw [if_pos c1, if_pos (by omega)]; simp; omega
      rw [hitem]
      simp only
      have ih := items_at t (acc ++ [(r.1, r.2)]) (i + (itemB r).length) f' hlt hT (by rw [el] at hf; omega)
      rw [show i + (ptB innerS r.1.toNat).length + 1 + (ptB innerS r.2.toNat).length = i + (itemB r).length by omega, ih]
      have er : readL r = [(r.1, r.2)] := by unfold readL; rw [if_pos c1]
      rw [List.flatMap_cons, er, List.append_assoc]
      congr 2
      omega
    · by_cases c2 : r.1 < r.2
      · rw [if_neg c1, if_pos c2, List.nil_append] at hI2
        have hq := pt_at inner_ok (by omega) hI2
        rw [ehi] at hq
        have hf2 := inner_first (by omega) hI2
        have elen : (itemB r).length = (ptB innerS r.1.toNat).length + (ptB innerS r.2.toNat).length := by
          unfold itemB; rw [if_neg c1, if_pos c2]; simp
        have hl1 := pt_len (c := r.1.toNat) (sg := innerS) (by omega)
        have hl2 := pt_len (c := r.2.toNat) (sg := innerS) (by omega)
        have hnx45 : cpAt s (i + (ptB innerS r.1.toNat).length + (ptB innerS r.2.toNat).length) ≠ 45 := by
          rw [show i + (ptB innerS r.1.toNat).length + (ptB innerS r.2.toNat).length = i + (itemB r).length by omega]; exact hnx.1
        have hitem : itemS s i = some ((r.1, r.1), i + (ptB innerS r.1.toNat).length) := by
          unfold itemS
          rw [hp]
          simp only
          rw [if_neg hf2.2.1]
        have hitem2 : itemS s (i + (ptB innerS r.1.toNat).length) = some ((r.2, r.2), i + (ptB innerS r.1.toNat).length + (ptB innerS r.2.toNat).length) := by
          unfold itemS
          rw [hq]
          simp only
          rw [if_neg hnx45]
        rw [hitem]
        simp only
        obtain ⟨f2, rfl⟩ : ∃ f2, f' = f2 + 1 := ⟨f' - 1, by rw [el] at hf; omega⟩
        rw [itemsS, if_neg hf2.2.2.1, hitem2]
        simp only
        have ih := items_at t (acc ++ [(r.1, r.1)] ++ [(r.2, r.2)]) (i + (itemB r).length) f2 hlt hT (by rw [el] at hf; omega)
        rw [show i + (ptB innerS r.1.toNat).length + (ptB innerS r.2.toNat).length = i + (itemB r).length by omega, ih]
        have er : readL r = [(r.1, r.1), (r.2, r.2)] := by unfold readL; rw [if_neg c1, if_pos c2]
        rw [List.flatMap_cons, er]
        simp
        omega
      · have ee : r.2 = r.1 := by omega
        have elen : (itemB r).length = (ptB innerS r.1.toNat).length := by
          unfold itemB; rw [if_neg c1, if_neg c2]; simp
        have hitem : itemS s i = some ((r.1, r.1), i + (ptB innerS r.1.toNat).length) := by
          unfold itemS
          rw [hp]
          simp only
          rw [if_neg (by rw [← elen]; exact hnx.1)]
        rw [hitem]
        simp only
        have hl1 := pt_len (c := r.1.toNat) (sg := innerS) (by omega)
        have ih := items_at t (acc ++ [(r.1, r.1)]) (i + (itemB r).length) f' hlt hT (by rw [el] at hf; omega)
        rw [← elen, ih]
        have er : readL r = [(r.1, r.1)] := by
          unfold readL; rw [if_neg c1, if_neg c2]
          obtain ⟨x, y⟩ := r
          simp only at ee; rw [ee]
        rw [List.flatMap_cons, er, List.append_assoc]
        congr 2
        omega

/-- the text of a set -/
def setB (mk : List Rg → Bool → List Rg) (l : List Rg) : List Nat :=
  if l.length = 1 ∧ (l.getD 0 (0, 0)).1 = (l.getD 0 (0, 0)).2 then ptB outerS (l.getD 0 (0, 0)).1.toNat
  else if l = [(0, 9), (11, 1114111)] then [46]
  else if (itemsB (mk l true)).length + 3 < (itemsB l).length + 2 then 91 :: 94 :: (itemsB (mk l true) ++ [93])
  else 91 :: (itemsB l ++ [93])

theorem canon_ok {l : List Rg} (h : canonFrom 0 l = true) : ∀ r ∈ l, RngOk r := by
  have hu := canon_upto h
  intro r hr
  have h1 := hu.low r hr
  have h2 := hu.apart.2 r hr
  exact ⟨h1.1, h2, by omega⟩
theorem outer_first {s : ByteArray} {i c : Nat} (hc : c ≤ 1114111) (h : At s i (ptB outerS c)) : i < s.size ∧ (cpAt s i = 92 ∨ (0 ≤ cpAt s i ∧ outerS (cpAt s i) = false)) := pt_first outer_ok hc h
theorem MkOk.same {mk : List Rg → Bool → List Rg} (M : MkOk mk) {a b : List Rg} (h : canonFrom 0 b = true) (hab : ∀ p, hasL a p = hasL b p) : mk a false = b :=
  (M.eq (canon_upto h) fun p _ _ => by show hasL a p = hasL b p; exact hab p).symm
/-- each list of ranges has a canonical one -/
def MkAll (mk : List Rg → Bool → List Rg) : Prop := ∀ a neg, (∀ r ∈ a, RngOk r) → Upto (mk a neg) 1114112 (fOf a neg)
theorem MkOk.not {mk : List Rg → Bool → List Rg} (M : MkOk mk) (A : MkAll mk) {a b : List Rg} (h : canonFrom 0 b = true) (hab : ∀ p, hasL a p = hasL (mk b true) p) : mk a true = b := by
  have hU := A b true (canon_ok h)
  have hB := canon_upto h
  refine (M.eq hB fun p h0 h1 => ?_).symm
  show (!hasL a p) = hasL b p
  rw [hab p, ← hU.has p h0 h1]
  simp [fOf]

theorem set_at {mk : List Rg → Bool → List Rg} (M : MkOk mk) (A : MkAll mk) {s : ByteArray} {i : Nat} {l : List Rg} (hc : canonFrom 0 l = true) (h : At s i (setB mk l)) (hi : i ≤ s.size) (n : Nat) : unitS s mk (n + 1) i = some (setRe l, i + (setB mk l).length) := by
  have hok := canon_ok hc
  unfold setB at h ⊢
  split at h
  · rename_i h1
    rw [if_pos h1]
    obtain ⟨x, rfl⟩ := List.length_eq_one_iff.1 h1.1
    have h2 : x.1 = x.2 := by simpa using h1.2
    have hx := hok x (by simp)
    simp only [List.getD_cons_zero] at h ⊢
    have hle : x.1.toNat ≤ 1114111 := by have := hx.2.1; have := hx.2.2; omega
    have hp := pt_at outer_ok hle h
    have hf := (outer_first hle h).2
    have e : ((x.1.toNat : Nat) : Int) = x.1 := by have := hx.1; omega
    rw [e] at hp
    have hno : ∀ c, outerS c = true → c ≠ 92 → cpAt s i ≠ c := fun c ho hn he => by
      rcases hf with hf | ⟨_, hf⟩
      · omega
      · rw [he, ho] at hf; cases hf
    have hleaf : leafS s mk i = some (setRe [(x.1, x.1)], i + (ptB outerS x.1.toNat).length) := by
      unfold leafS
      rw [if_neg (hno 46 (by decide) (by omega)), hp]
      rfl
    rw [unitS, if_neg (hno 126 (by decide) (by omega)), if_neg (hno 40 (by decide) (by omega)), if_neg (hno 91 (by decide) (by omega)), hleaf]
    have : (x.1, x.1) = x := by obtain ⟨a, b⟩ := x; simp only at h2; rw [h2]
    rw [this]
  · rename_i h1
    rw [if_neg h1]
    split at h
    · rename_i h2
      rw [if_pos h2]
      subst h2
      have c1 := (At.cp h (by omega)).1
      have c1' : cpAt s i = 46 := by simpa using c1
      rw [unitS, if_neg (by omega), if_neg (by omega), if_neg (by omega)]
      unfold leafS
      rw [if_pos c1', M.dot]
      rfl
    · rename_i h2
      rw [if_neg h2]
      split at h
      · rename_i h3
        rw [if_pos h3]
        have c1 : cpAt s i = 91 := by simpa using (At.cp h (by omega)).1
        have hA2 := (At.cons.1 h).2
        have c2 : cpAt s (i + 1) = 94 := by simpa using (At.cp hA2 (by omega)).1
        have hA3 := (At.cons.1 hA2).2
        have hlen := hA3.le (by have := (At.cons.1 hA2).1.1; omega)
        simp only [List.length_append, List.length_singleton] at hlen
        have hit := items_at (mk l true) [] (i + 1 + 1) (s.size + 1) (canon_ok (M l true).2.1) hA3 (by omega)
        rw [unitS, if_neg (by omega), if_neg (by omega), if_pos c1]
        unfold brackS
        rw [if_pos c2, hit]
        simp only [List.nil_append, Option.map_some]
        rw [M.not A hc (readLs_has _ (canon_ok (M l true).2.1))]
        simp
        omega
      · rename_i h3
        rw [if_neg h3]
        have c1 : cpAt s i = 91 := by simpa using (At.cp h (by omega)).1
        have hA2 := (At.cons.1 h).2
        have hfst := items_first l hok hA2
        have hlen := hA2.le (by have := (At.cons.1 h).1.1; omega)
        simp only [List.length_append, List.length_singleton] at hlen
        have hit := items_at l [] (i + 1) (s.size + 1) hok hA2 (by omega)
        rw [unitS, if_neg (by omega), if_neg (by omega), if_pos c1]
        unfold brackS
        rw [if_neg hfst.2.1, hit]
        simp only [List.nil_append, Option.map_some]
        rw [M.same hc (readLs_has l hok)]
        simp
        omega
theorem set_first {mk : List Rg → Bool → List Rg} {s : ByteArray} {i : Nat} {l : List Rg} (hc : canonFrom 0 l = true) (h : At s i (setB mk l)) : i < s.size ∧ 0 ≤ cpAt s i ∧ cpAt s i ≠ 42 ∧ cpAt s i ≠ 43 ∧ cpAt s i ≠ 63 ∧ cpAt s i ≠ 123 ∧ rowEndS (cpAt s i) = false := by
  have hok := canon_ok hc
  have hfix : ∀ c : Nat, c < 128 → c ≠ 42 → c ≠ 43 → c ≠ 63 → c ≠ 123 → rowEndS (c : Int) = false → ∀ t, At s i (c :: t) → i < s.size ∧ 0 ≤ cpAt s i ∧ cpAt s i ≠ 42 ∧ cpAt s i ≠ 43 ∧ cpAt s i ≠ 63 ∧ cpAt s i ≠ 123 ∧ rowEndS (cpAt s i) = false := by
    intro c hc1 h1 h2 h3 h4 h5 t hA
    obtain ⟨e1, _, e2⟩ := At.cp hA hc1
    rw [e1]
    exact ⟨e2, by omega, by omega, by omega, by omega, by omega, h5⟩
  unfold setB at h
  split at h
  · rename_i h1
    obtain ⟨x, rfl⟩ := List.length_eq_one_iff.1 h1.1
    have hx := hok x (by simp)
    simp only [List.getD_cons_zero] at h
    obtain ⟨h0, hf⟩ := outer_first (c := x.1.toNat) (by have := hx.2.1; have := hx.2.2; omega) h
    rcases hf with hf | ⟨hp, hf⟩
    · rw [hf]; exact ⟨h0, by omega, by omega, by omega, by omega, by omega, by decide⟩
    · have hno : ∀ c, outerS c = true → cpAt s i ≠ c := fun c ho he => by rw [he, ho] at hf; cases hf
      refine ⟨h0, hp, hno 42 (by decide), hno 43 (by decide), hno 63 (by decide), hno 123 (by decide), ?_⟩
      have a1 := hno 124 (by decide)
      have a2 := hno 38 (by decide)
      have a3 := hno 41 (by decide)
      simp [rowEndS]
      omega
  · split at h
    · exact hfix 46 (by omega) (by omega) (by omega) (by omega) (by omega) (by decide) _ h
    · split at h
      · exact hfix 91 (by omega) (by omega) (by omega) (by omega) (by omega) (by decide) _ h
      · exact hfix 91 (by omega) (by omega) (by omega) (by omega) (by omega) (by decide) _ h

end Go.Proofs.YtbjohedenfindaaGreatDoor

namespace Go.Proofs.YtbjohedenfindaaGreatDoor
set_option linter.unusedVariables false

theorem upto_cuts {e : List Int} (hc : Cuts e) {f : Int → Bool} (hf : ∀ k, k + 1 < e.length → ∀ p, e.getD k 0 ≤ p → p ≤ e.getD (k + 1) 0 - 1 → f p = f (e.getD k 0)) : ∀ k, k < e.length → ∃ out, Upto out (e.getD k 0) f ∧ out.length ≤ k
  | 0, _ => ⟨[], by rw [cuts_first hc]; exact Upto.nil f, by simp⟩
  | k + 1, hk => by
    obtain ⟨out, ho, hl⟩ := upto_cuts hc hf k (by omega)
    refine ⟨_, cut_step hc hk ho (hf k hk), ?_⟩
    split
    · have := growL_len out (e.getD k 0) (e.getD (k + 1) 0 - 1); omega
    · omega
theorem upto_exists (a : List Rg) (neg : Bool) : ∃ out, Upto out 1114112 (fOf a neg) ∧ out.length ≤ 2 * a.length + 1 := by
  have hc := edgesL_cuts a Cuts.ends
  have hv := edgesL_covers a [0, 1114112]
  have h2 := cuts_len hc
  have hl := edgesL_len a [0, 1114112]
  obtain ⟨out, ho, hlo⟩ := upto_cuts hc (f := fOf a neg) (fun k hk p h1 h2 => by
    have := cut_const hc hv hk p h1 h2
    simp only [fOf, this]) ((edgesL [0, 1114112] a).length - 1) (by omega)
  rw [cuts_last hc _ (by omega)] at ho
  simp only [List.length_cons, List.length_nil] at hl
  exact ⟨out, ho, by omega⟩
theorem mk_all {mk : List Rg → Bool → List Rg} (M : MkOk mk) : MkAll mk := by
  intro a neg _
  obtain ⟨out, ho, _⟩ := upto_exists a neg
  rw [← (M a neg).1 out ho]
  exact ho
theorem MkOk.len {mk : List Rg → Bool → List Rg} (M : MkOk mk) (a : List Rg) (neg : Bool) : (mk a neg).length ≤ 2 * a.length + 1 := by
  obtain ⟨out, ho, hl⟩ := upto_exists a neg
  rw [← (M a neg).1 out ho]
  exact hl

theorem nodup_len : ∀ (l m : List Int), l.Nodup → (∀ x ∈ l, x ∈ m) → l.length ≤ m.length
  | [], m, _, _ => by simp
  | x :: t, m, hn, hs => by
    obtain ⟨h1, h2⟩ := List.nodup_cons.1 hn
    have hx := hs x (by simp)
    have ih := nodup_len t (m.erase x) h2 fun y hy => by
      refine (List.mem_erase_of_ne ?_).2 (hs y (by simp [hy]))
      rintro rfl
      exact h1 hy
    rw [List.length_erase_of_mem hx] at ih
    have : 1 ≤ m.length := List.length_pos_iff.2 (List.ne_nil_of_mem hx)
    simp only [List.length_cons]
    omega
theorem upto_few {a out : List Rg} (ha : ∀ r ∈ a, RngOk r) (h : Upto out 1114112 (fun p => hasL a p)) : out.length ≤ a.length := by
  have hn : (out.map (·.1)).Nodup := by
    have hp : out.Pairwise fun x y => x.1 ≠ y.1 := by
      refine (List.Pairwise.and_mem.1 h.apart.1).imp fun {x y} ⟨hx, hy, hxy⟩ => ?_
      have := h.apart.2 x hx
      omega
    exact List.pairwise_map.2 hp
  have hs : ∀ x ∈ out.map (·.1), x ∈ a.map (·.1) := by
    intro x hx
    obtain ⟨r, hr, rfl⟩ := List.mem_map.1 hx
    have hlow := h.low r hr
    have hle := h.apart.2 r hr
    have hin : hasL a r.1 = true := by
      have hh : hasL a r.1 = hasL out r.1 := h.has r.1 hlow.1 (by omega)
      rw [hh]
      exact (hasL_iff _ _).2 ⟨r, hr, by omega, hle⟩
    obtain ⟨y, hy, h1, h2⟩ := (hasL_iff _ _).1 hin
    have hy0 := ha y hy
    rcases Int.lt_or_le y.1 r.1 with hlt | hge
    · exfalso
      have hin2 : hasL a (r.1 - 1) = true := (hasL_iff _ _).2 ⟨y, hy, by omega, by omega⟩
      have hy1 := hy0.1
      have hh : hasL a (r.1 - 1) = hasL out (r.1 - 1) := h.has (r.1 - 1) (by omega) (by omega)
      rw [hh] at hin2
      obtain ⟨z, hz, z1, z2⟩ := (hasL_iff _ _).1 hin2
      by_cases hzr : z = r
      · subst hzr; omega
      · have hpw := h.apart.1
        rcases List.getElem_of_mem hz with ⟨i, hi, rfl⟩
        rcases List.getElem_of_mem hr with ⟨j, hj, rfl⟩
        rcases Nat.lt_trichotomy i j with hij | hij | hij
        · have := List.pairwise_iff_getElem.1 hpw i j hi hj hij; omega
        · subst hij; exact hzr rfl
        · have := List.pairwise_iff_getElem.1 hpw j i hj hi hij; omega
    · exact List.mem_map.2 ⟨y, hy, by omega⟩
  have := nodup_len _ _ hn hs
  simpa using this

/-- a count -/
def decB (n : Nat) : List Nat := if n < 10 then [48 + n] else [48 + n / 10, 48 + n % 10]
theorem digRun_at : ∀ (m f : Nat) (s : ByteArray) (i : Nat), m ≤ f → (∀ j, j < m → isDig s (i + j) = true) → isDig s (i + m) = false → digRun s f i = m
  | 0, 0, s, i, _, _, _ => rfl
  | 0, f + 1, s, i, _, _, h => by rw [digRun, if_neg (by simpa using h)]
  | m + 1, f + 1, s, i, hm, h, h2 => by
    rw [digRun, if_pos (by simpa using h 0 (by omega))]
    rw [digRun_at m f s (i + 1) (by omega) (fun j hj => by rw [show i + 1 + j = i + (j + 1) by omega]; exact h (j + 1) (by omega)) (by rw [show i + 1 + m = i + (m + 1) by omega]; exact h2)]
theorem count_at {s : ByteArray} {i n c : Nat} {t : List Nat} (hn : n ≤ 50) (hc : c < 48) (h : At s i (decB n ++ c :: t) ∨ (At s i (decB n ++ 125 :: t))) : countS s i = some ((n : Int), i + (decB n).length) := by
  have h1 : At s i (decB n) := by rcases h with h | h <;> exact (At.append.1 h).1
  have h2 : ∃ b, (b < 48 ∨ 57 < b) ∧ (s.get! (i + (decB n).length)).toNat = b := by
    rcases h with h | h
    · exact ⟨c, .inl hc, (At.cons.1 (At.append.1 h).2).1.2⟩
    · exact ⟨125, .inr (by omega), (At.cons.1 (At.append.1 h).2).1.2⟩
  obtain ⟨b, hb, hb2⟩ := h2
  have hnd : isDig s (i + (decB n).length) = false := by
    unfold isDig; rw [hb2]
    rcases hb with hb | hb
    · simp; omega
    · simp; omega
  have hlen := h1.le
  unfold decB at *
  by_cases h10 : n < 10
  · rw [if_pos h10] at *
    obtain ⟨g1, g2⟩ := At.one.1 h1
    have hr : digRun s s.size i = 1 := digRun_at 1 s.size s i (by omega) (fun j hj => by
      obtain rfl : j = 0 := by omega
      simp [isDig, g1, g2]; omega) hnd
    have hv : digVal s i 1 = (n : Int) := by simp [digVal, g2]; omega
    unfold countS
    rw [hr, hv, if_neg (by omega)]
    rfl
  · rw [if_neg h10] at *
    obtain ⟨⟨g1, g2⟩, g3⟩ := At.cons.1 h1
    obtain ⟨g4, g5⟩ := At.one.1 g3
    have hr : digRun s s.size i = 2 := digRun_at 2 s.size s i (by omega) (fun j hj => by
      rcases (show j = 0 ∨ j = 1 by omega) with rfl | rfl
      · simp [isDig, g1, g2]; omega
      · simp [isDig, g4, g5]; omega) hnd
    have hv : digVal s i 2 = (n : Int) := by simp [digVal, g2, g5]; omega
    unfold countS
    rw [hr, hv, if_neg (by rw [g2]; omega)]
    rfl
theorem dec_first {n : Nat} (hn : n ≤ 50) : ∃ b t, decB n = b :: t ∧ 48 ≤ b ∧ b ≤ 57 := by
  unfold decB
  split
  · exact ⟨_, _, rfl, by omega, by omega⟩
  · exact ⟨_, _, rfl, by omega, by omega⟩

def timesB (a b : Int) : List Nat :=
  if a = 0 ∧ b = -1 then [42] else if a = 1 ∧ b = -1 then [43] else if a = 0 ∧ b = 1 then [63]
  else if b = -1 then 123 :: (decB a.toNat ++ [44, 125])
  else if a = b then 123 :: (decB a.toNat ++ [125])
  else 123 :: (decB a.toNat ++ 44 :: (decB b.toNat ++ [125]))
def TimesOk (a b : Int) : Prop := 0 ≤ a ∧ a ≤ 50 ∧ (b = -1 ∨ (a ≤ b ∧ 1 ≤ b ∧ b ≤ 50))
theorem times_len (a b : Int) : 1 ≤ (timesB a b).length ∧ (timesB a b).length ≤ 7 := by
  have hd : ∀ n, (decB n).length ≤ 2 := fun n => by unfold decB; split <;> simp
  have h1 := hd a.toNat
  have h2 := hd b.toNat
  unfold timesB
  split <;> (try split) <;> (try split) <;> (try split) <;> (try split) <;> simp <;> omega
theorem times_at {s : ByteArray} {i : Nat} {a b : Int} (hok : TimesOk a b) (h : At s i (timesB a b)) (p : Re) (f : Nat) : partS s (f + 1) p i = partS s f (repRe a b p) (i + (timesB a b).length) := by
  obtain ⟨h0, h1, h2⟩ := hok
  have ea : ((a.toNat : Nat) : Int) = a := by omega
  rw [partS_eq]
  unfold timesB at h ⊢
  split at h
  · rename_i e
    obtain ⟨rfl, rfl⟩ := e
    have c : cpAt s i = 42 := by simpa using (At.cp h (by omega)).1
    simp [c]
  · rename_i e1
    rw [if_neg e1]
    split at h
    · rename_i e
      obtain ⟨rfl, rfl⟩ := e
      have c : cpAt s i = 43 := by simpa using (At.cp h (by omega)).1
      simp [c]
    · rename_i e2
      rw [if_neg e2]
      split at h
      · rename_i e
        obtain ⟨rfl, rfl⟩ := e
        have c : cpAt s i = 63 := by simpa using (At.cp h (by omega)).1
        simp [c]
      · rename_i e3
        rw [if_neg e3]
        have hbr : ∀ t, At s i (123 :: t) → cpAt s i = 123 := fun t hA => by simpa using (At.cp hA (by omega)).1
        split at h
        · rename_i e4
          rw [if_pos e4]
          subst e4
          have c := hbr _ h
          have hA := (At.cons.1 h).2
          have hcnt := count_at (n := a.toNat) (c := 44) (t := [125]) (by omega) (by omega) (.inl hA)
          obtain ⟨_, hB⟩ := At.append.1 hA
          have c1 : cpAt s (i + 1 + (decB a.toNat).length) = 44 := by simpa using (At.cp hB (by omega)).1
          have c2 : cpAt s (i + 1 + (decB a.toNat).length + 1) = 125 := by simpa using (At.cp (At.cons.1 hB).2 (by omega)).1
          have ht : timesS s (i + 1) = some ((a, -1), i + 1 + (decB a.toNat).length + 2) := by
            unfold timesS
            rw [hcnt]
            simp only
            rw [if_pos c1, if_pos c2, ea]
          rw [c, ht]
          simp
          congr 1
          omega
        · rename_i e4
          rw [if_neg e4]
          have h3 : a ≤ b ∧ 1 ≤ b ∧ b ≤ 50 := by omega
          split at h
          · rename_i e5
            rw [if_pos e5]
            subst e5
            have c := hbr _ h
            have hA := (At.cons.1 h).2
            have hcnt := count_at (n := a.toNat) (c := 44) (t := []) (by omega) (by omega) (.inr hA)
            obtain ⟨_, hB⟩ := At.append.1 hA
            have c1 : cpAt s (i + 1 + (decB a.toNat).length) = 125 := by simpa using (At.cp hB (by omega)).1
            have ht : timesS s (i + 1) = some ((a, a), i + 1 + (decB a.toNat).length + 1) := by
              unfold timesS
              rw [hcnt]
              simp only
              rw [if_neg (by omega), if_neg (by omega), ea]
            rw [c, ht]
            simp
            congr 1
            omega
          · rename_i e5
            rw [if_neg e5]
            have c := hbr _ h
            have hA := (At.cons.1 h).2
            have hcnt := count_at (n := a.toNat) (c := 44) (by omega) (by omega) (.inl hA)
            obtain ⟨_, hB⟩ := At.append.1 hA
            have c1 : cpAt s (i + 1 + (decB a.toNat).length) = 44 := by simpa using (At.cp hB (by omega)).1
            have hC := (At.cons.1 hB).2
            have hcnt2 := count_at (n := b.toNat) (c := 44) (t := []) (by omega) (by omega) (.inr hC)
            obtain ⟨x, t, hx, hx0, hx1⟩ := dec_first (n := b.toNat) (by omega)
            have c2 : cpAt s (i + 1 + (decB a.toNat).length + 1) ≠ 125 := by
              have hC' := hC
              rw [hx] at hC'
              have := (At.cp (l := t ++ [125]) (b := x) hC' (by omega)).1
              rw [this]; omega
            obtain ⟨_, hD⟩ := At.append.1 hC
            have c3 : cpAt s (i + 1 + (decB a.toNat).length + 1 + (decB b.toNat).length) = 125 := by simpa using (At.cp hD (by omega)).1
            have eb : ((b.toNat : Nat) : Int) = b := by omega
            have ht : timesS s (i + 1) = some ((a, b), i + 1 + (decB a.toNat).length + 1 + (decB b.toNat).length + 1) := by
              unfold timesS
              rw [hcnt]
              simp only
              rw [if_pos c1, if_neg c2, hcnt2]
              simp only
              rw [if_neg (by omega), ea, eb]
            rw [c, ht]
            simp
            congr 1
            omega

end Go.Proofs.YtbjohedenfindaaGreatDoor
