/- The document's shortest sentences, as plain data. No program. -/
import Derived.Test.YtbgnhegfabpjnaaGWkT
namespace Go.Proofs.Ytbgnhegfabpjnaa
set_option linter.unusedVariables false

def factU (F : List (Option (List Int))) (n : Nat) : Option (List Int) := F.getD n none
def symS (f : Nat → Option (List Int)) (s : Int) : Option (List Int) := if s < 0 then f (-1 - s).toNat else some [s]
theorem catS_snoc (f : Nat → Option (List Int)) (s : Int) : ∀ r, catS f (r ++ [s]) = catO (catS f r) (symS f s)
  | [] => by
    show catO (symS f s) (some []) = catO (some []) (symS f s)
    cases symS f s <;> simp [catO]
  | q :: r => by
    show catO (symS f q) (catS f (r ++ [s])) = catO (catO (symS f q) (catS f r)) (symS f s)
    rw [catS_snoc f s r]
    cases symS f q <;> cases catS f r <;> cases symS f s <;> simp [catO]
theorem catS_take (f : Nat → Option (List Int)) (r : List Int) (k : Nat) (hk : k < r.length) : catS f (r.take (k + 1)) = catO (catS f (r.take k)) (symS f (r.getD k 0)) := by
  rw [List.take_succ_eq_append_getElem hk, catS_snoc]
  simp [List.getD, hk]
theorem catS_out (f : Nat → Option (List Int)) : ∀ (r r' : List Int), toldS (catS f r) = none → toldS (catS f (r ++ r')) = none := by
  intro r r'
  have key : ∀ a b : Option (List Int), toldS a = none → toldS (catO a b) = none := fun a b h => by
    cases a with
    | none => rfl
    | some x =>
      cases b with
      | none => rfl
      | some y =>
        have hx : ¬ x.length ≤ 1000 := fun hx => by
          have h' : (if x.length ≤ 1000 then some x else none) = none := h
          rw [if_pos hx] at h'; simp at h'
        show (if (x ++ y).length ≤ 1000 then some (x ++ y) else none) = none
        rw [if_neg (by simp; omega)]
  have cat : ∀ r : List Int, catS f (r ++ r') = catO (catS f r) (catS f r') := by
    intro r
    induction r with
    | nil => show catS f r' = catO (some []) (catS f r'); cases catS f r' <;> rfl
    | cons s r ih =>
      show catO (symS f s) (catS f (r ++ r')) = catO (catO (symS f s) (catS f r)) (catS f r')
      rw [ih]
      cases symS f s <;> cases catS f r <;> cases catS f r' <;> simp [catO]
  intro h
  rw [cat]
  exact key _ _ h
/-- so far along a row -/
def RowU (f : Nat → Option (List Int)) (r : List Int) (k : Nat) (ok : Bool) (l : List Int) : Prop := if ok = true then catS f (r.take k) = some l ∧ l.length ≤ 1000 else toldS (catS f r) = none
theorem RowU.start (f : Nat → Option (List Int)) (r : List Int) : RowU f r 0 true [] := by
  show if true = true then _ else _
  rw [if_pos rfl]; exact ⟨rfl, by simp⟩
theorem RowU.step {f : Nat → Option (List Int)} {r : List Int} {k : Nat} {l x : List Int} (h : RowU f r k true l) (hk : k < r.length) (hs : symS f (r.getD k 0) = some x) : RowU f r (k + 1) (decide ((l ++ x).length ≤ 1000)) (l ++ x) := by
  have h' : catS f (r.take k) = some l ∧ l.length ≤ 1000 := by simpa [RowU] using h
  have e : catS f (r.take (k + 1)) = some (l ++ x) := by rw [catS_take f r k hk, h'.1, hs]; rfl
  by_cases hl : (l ++ x).length ≤ 1000
  · rw [decide_eq_true hl]
    show if true = true then _ else _
    rw [if_pos rfl]; exact ⟨e, hl⟩
  · rw [decide_eq_false hl]
    show if false = true then _ else _
    rw [if_neg (by simp)]
    have h2 : toldS (catS f (r.take (k + 1))) = none := by
      rw [e]
      show (if (l ++ x).length ≤ 1000 then some (l ++ x) else none) = none
      rw [if_neg hl]
    have := catS_out f (r.take (k + 1)) (r.drop (k + 1)) h2
    rwa [List.take_append_drop] at this
theorem RowU.none {f : Nat → Option (List Int)} {r : List Int} {k : Nat} {l l' : List Int} (h : RowU f r k true l) (hk : k < r.length) (hs : symS f (r.getD k 0) = none) : RowU f r (k + 1) false l' := by
  have h' : catS f (r.take k) = some l ∧ l.length ≤ 1000 := by simpa [RowU] using h
  show if false = true then _ else _
  rw [if_neg (by simp)]
  have e : toldS (catS f (r.take (k + 1))) = Option.none := by rw [catS_take f r k hk, h'.1, hs]; rfl
  have := catS_out f (r.take (k + 1)) (r.drop (k + 1)) e
  rwa [List.take_append_drop] at this
theorem RowU.good {f : Nat → Option (List Int)} {r : List Int} {l : List Int} (h : RowU f r r.length true l) : toldS (catS f r) = some l := by
  have h' : catS f (r.take r.length) = some l ∧ l.length ≤ 1000 := by simpa [RowU] using h
  rw [List.take_length] at h'
  rw [h'.1]
  show (if l.length ≤ 1000 then some l else Option.none) = some l
  rw [if_pos h'.2]
theorem RowU.bad {f : Nat → Option (List Int)} {r : List Int} {k : Nat} {l : List Int} (h : RowU f r k false l) : toldS (catS f r) = Option.none := by simpa [RowU] using h

def OkU (a : Option (List Int)) : Prop := ∀ l, a = some l → l.length ≤ 1000 ∧ ∀ x ∈ l, 0 ≤ x ∧ x ≤ 300
structure RfI (ps : List PdR) (N : Nat) (F : List (Option (List Int))) : Prop where
  len : F.length = N
  ok : ∀ n, OkU (factU F n)
  sound : SoundS (prsS ps) (factU F)
theorem RfI.start (ps : List PdR) (N : Nat) : RfI ps N (List.replicate N none) := by
  have hf : ∀ n, factU (List.replicate N none) n = none := fun n => by
    unfold factU
    by_cases hn : n < N
    · simp [List.getD, hn]
    · simp [List.getD, List.getElem?_eq_none (show (List.replicate N (none : Option (List Int))).length ≤ n by simp; omega)]
  exact ⟨by simp, fun n l hl => by rw [hf] at hl; simp at hl, fun n => ⟨0, by rw [hf]; cases bestS (prsS ps) 0 n <;> trivial⟩⟩
theorem catS_ok {f : Nat → Option (List Int)} (hf : ∀ n, OkU (f n)) : ∀ (r : List Int) (l : List Int), (∀ s ∈ r, s ≤ 300) → catS f r = some l → ∀ x ∈ l, 0 ≤ x ∧ x ≤ 300
  | [], l, _, h, x, hx => by
    have : l = [] := by simpa [catS] using h.symm
    rw [this] at hx; simp at hx
  | s :: r, l, hr, h, x, hx => by
    have h' : catO (symS f s) (catS f r) = some l := h
    cases e1 : symS f s with
    | none => rw [e1] at h'; simp [catO] at h'
    | some a =>
      cases e2 : catS f r with
      | none => rw [e1, e2] at h'; simp [catO] at h'
      | some b =>
        rw [e1, e2] at h'
        have h2 : a ++ b = l := by simpa [catO] using h'
        rw [← h2] at hx
        rcases List.mem_append.1 hx with hx | hx
        · unfold symS at e1
          by_cases hs : s < 0
          · rw [if_pos hs] at e1; exact (hf _ a e1).2 x hx
          · rw [if_neg hs] at e1
            have e3 : [s] = a := by simpa using e1
            rw [← e3] at hx
            obtain rfl : x = s := by simpa using hx
            have := hr x (by simp)
            omega
        · exact catS_ok hf r b (fun y hy => hr y (by simp [hy])) e2 x hx
theorem factU_set {N : Nat} {F : List (Option (List Int))} (hl : F.length = N) {n : Nat} (hn : n < N) (a : Option (List Int)) (m : Nat) : factU (F.set n a) m = if m = n then a else factU F m := by
  unfold factU
  by_cases e : m = n
  · rw [if_pos e, e]; simp [List.getD, hl, hn]
  · rw [if_neg e]
    simp only [List.getD]
    rw [List.getElem?_set_ne (Ne.symm e)]
def rkO : Option (List Int) → Nat
  | none => bigV
  | some l => valL l
def rkU (F : List (Option (List Int))) : Nat := (F.map rkO).sum
theorem rkU_set : ∀ (F : List (Option (List Int))) (n : Nat) (a : Option (List Int)), n < F.length → rkO a < rkO (factU F n) → rkU (F.set n a) < rkU F
  | [], n, a, hn, _ => by simp at hn
  | x :: F, 0, a, _, h => by
    have : rkO a < rkO x := h
    show rkO a + rkU F < rkO x + rkU F
    omega
  | x :: F, n + 1, a, hn, h => by
    have := rkU_set F n a (by simpa using hn) h
    show rkO x + rkU (F.set n a) < rkO x + rkU F
    omega
/-- a production that says something better -/
theorem RfI.set {ps : List PdR} {N : Nat} {F : List (Option (List Int))} (h : RfI ps N F) {p : PdR} (hp : p ∈ ps) {lf : Nat} (hl : p.left = (lf : Int)) (hlf : lf < N) (h3 : ∀ s ∈ p.right, s ≤ 300) {l : List Int} (ht : toldS (catS (factU F) p.right) = some l) (hb : factU F lf = none ∨ ∃ b, factU F lf = some b ∧ earB l b = true) : RfI ps N (F.set lf (some l)) ∧ rkU (F.set lf (some l)) < rkU F := by
  have hf := factU_set h.len hlf (some l)
  have hc : catS (factU F) p.right = some l ∧ l.length ≤ 1000 := by
    cases e : catS (factU F) p.right with
    | none => rw [e] at ht; simp [toldS] at ht
    | some x =>
      rw [e] at ht
      have ht' : (if x.length ≤ 1000 then some x else none) = some l := ht
      by_cases hx : x.length ≤ 1000
      · rw [if_pos hx] at ht'
        injection ht' with ht'
        rw [ht'] at hx
        exact ⟨by rw [ht'], hx⟩
      · rw [if_neg hx] at ht'; simp at ht'
  have hok : ∀ x ∈ l, 0 ≤ x ∧ x ≤ 300 := catS_ok h.ok _ _ h3 hc.1
  refine ⟨⟨by rw [List.length_set]; exact h.len, fun m => ?_, fun m => ?_⟩, ?_⟩
  · rw [hf]; split
    · intro l' hl'
      injection hl' with hl'
      subst hl'
      exact ⟨hc.2, hok⟩
    · exact h.ok m
  · rw [hf]; split
    · rename_i e
      have := h.sound.step (List.mem_map.2 ⟨p, hp, rfl⟩ : prS p ∈ prsS ps)
      have e2 : (prS p).left = m := by show p.left.toNat = m; omega
      rw [e2] at this
      have e3 : toldS (catS (factU F) (prS p).right) = some l := ht
      rw [e3] at this
      exact this
    · exact h.sound m
  · refine rkU_set F lf _ (by rw [h.len]; exact hlf) ?_
    rcases hb with e | ⟨b, e, he⟩
    · rw [e]
      show valL l < bigV
      exact Nat.lt_of_lt_of_le (valL_pw l hok) (pw_mono hc.2)
    · rw [e]
      have := (earB_iff l b).1 he
      exact valL_slx l b hok (h.ok lf b e).2 this.1 this.2
/-- a production that says nothing better -/
def ClU (F : List (Option (List Int))) (p : PdR) : Prop := leS (factU F p.left.toNat) (toldS (catS (factU F) p.right))
theorem ClU.bad {F : List (Option (List Int))} {p : PdR} (h : toldS (catS (factU F) p.right) = none) : ClU F p := by
  unfold ClU; rw [h]; cases factU F p.left.toNat <;> trivial
theorem ClU.ear {F : List (Option (List Int))} {p : PdR} {lf : Nat} (hl : p.left = (lf : Int)) {l b : List Int} (h : toldS (catS (factU F) p.right) = some l) (hb : factU F lf = some b) (he : earB l b = false) : ClU F p := by
  unfold ClU
  rw [h, hl, Int.toNat_natCast, hb]
  show slx b l
  rcases slx.total b l with h1 | h1
  · exact h1
  · by_cases e : l = b
    · rw [e]; exact slx.refl _
    · have := (earB_iff l b).2 ⟨h1, e⟩
      rw [this] at he; cases he
theorem closed_of {ps : List PdR} {F : List (Option (List Int))} (h : ∀ p ∈ ps, ClU F p) : ClosedS (prsS ps) (factU F) := by
  intro q hq
  obtain ⟨p, hp, rfl⟩ := List.mem_map.1 hq
  exact h p hp

end Go.Proofs.Ytbgnhegfabpjnaa
