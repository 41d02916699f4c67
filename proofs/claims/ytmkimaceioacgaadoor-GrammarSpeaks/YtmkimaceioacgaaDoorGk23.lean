/- Texts of the proof, put together: GSnt. -/
import Derived.Test.YtmkimaceioacgaaDoorGk21
import Derived.Test.YtmkimaceioacgaaDoorGk22
namespace Go.Proofs.YtmkimaceioacgaaDoor
set_option linter.unusedVariables false

abbrev SF := Option (Option (List Int))
abbrev SF.non : SF := none
abbrev SF.long : SF := some none
abbrev SF.told (l : List Int) : SF := some (some l)
theorem SF.cs {motive : SF → Prop} (non : motive none) (long : motive (some none)) (told : ∀ l, motive (some (some l))) (a : SF) : motive a := match a with
  | none => non
  | some none => long
  | some (some l) => told l
def toldF : SF → Option (List Int)
  | some (some l) => some l
  | _ => none
def knF : SF → Int
  | none => 0
  | some none => 1
  | some (some _) => 2
def txF : SF → List Int
  | some (some l) => l
  | _ => []
def leF : SF → SF → Prop
  | some (some a), some (some b) => slx a b
  | some (some _), _ => True
  | some none, some (some _) => False
  | some none, _ => True
  | none, none => True
  | none, _ => False
theorem leF.refl (a : SF) : leF a a := by cases a using SF.cs <;> first | trivial | exact slx.refl _
theorem leF.trans {a b c : SF} (h : leF a b) (h' : leF b c) : leF a c := by
  cases a using SF.cs <;> cases b using SF.cs <;> cases c using SF.cs <;> first | trivial | exact h.elim | exact h'.elim | exact slx.trans h h'
theorem leF.antisymm {a b : SF} (h : leF a b) (h' : leF b a) : a = b := by
  cases a using SF.cs <;> cases b using SF.cs <;> first | rfl | exact h.elim | exact h'.elim | exact congrArg SF.told (slx.antisymm h h')
theorem leF.total (a b : SF) : leF a b ∨ leF b a := by
  cases a using SF.cs <;> cases b using SF.cs <;> first | exact .inl trivial | exact .inr trivial | exact slx.total _ _
theorem leF.non (a : SF) : leF a .non := by cases a using SF.cs <;> trivial
theorem leF_told {a b : SF} (h : leF a b) : leS (toldF a) (toldF b) := by
  cases a using SF.cs <;> cases b using SF.cs <;> first | trivial | exact h.elim | exact h
def addF : SF → SF → SF
  | none, _ => .non
  | some none, none => .non
  | some (some _), none => .non
  | some none, some none => .long
  | some none, some (some _) => .long
  | some (some _), some none => .long
  | some (some a), some (some b) => if (a ++ b).length ≤ 1000 then .told (a ++ b) else .long
def symF (f : Nat → SF) (s : Int) : SF := if s < 0 then f (-1 - s).toNat else .told [s]
def rowF (f : Nat → SF) (r : List Int) : SF := r.foldl (fun acc s => addF acc (symF f s)) (.told [])
theorem addF_mono {a a' b b' : SF} (h : leF a a') (h' : leF b b') : leF (addF a b) (addF a' b') := by
  have key : ∀ x y : List Int, leF (if (x ++ y).length ≤ 1000 then SF.told (x ++ y) else .long) .long := fun x y => by split <;> trivial
  cases a' using SF.cs with
  | non => exact leF.non _
  | long =>
    cases b' using SF.cs with
    | non => exact leF.non _
    | long => cases a using SF.cs <;> cases b using SF.cs <;> first | trivial | exact h.elim | exact h'.elim | exact key _ _
    | told y => cases a using SF.cs <;> cases b using SF.cs <;> first | trivial | exact h.elim | exact h'.elim | exact key _ _
  | told x =>
    cases b' using SF.cs with
    | non => exact leF.non _
    | long => cases a using SF.cs <;> cases b using SF.cs <;> first | trivial | exact h.elim | exact h'.elim | exact key _ _
    | told y =>
      cases a using SF.cs with
      | non => exact h.elim
      | long => exact h.elim
      | told a =>
        cases b using SF.cs with
        | non => exact h'.elim
        | long => exact h'.elim
        | told b =>
          have hs := slx.append (show slx a x from h) (show slx b y from h')
          have hl := hs.len
          show leF (if (a ++ b).length ≤ 1000 then SF.told (a ++ b) else .long) (if (x ++ y).length ≤ 1000 then SF.told (x ++ y) else .long)
          by_cases e : (x ++ y).length ≤ 1000
          · rw [if_pos e, if_pos (by omega)]; exact hs
          · rw [if_neg e]; exact key _ _
theorem rowF_mono {f g : Nat → SF} (h : ∀ n, leF (f n) (g n)) (r : List Int) : leF (rowF f r) (rowF g r) := by
  have : ∀ (r : List Int) (a b : SF), leF a b → leF (r.foldl (fun acc s => addF acc (symF f s)) a) (r.foldl (fun acc s => addF acc (symF g s)) b) := by
    intro r
    induction r with
    | nil => intro a b h; exact h
    | cons s r ih =>
      intro a b hab
      refine ih _ _ (addF_mono hab ?_)
      unfold symF
      split
      · exact h _
      · exact leF.refl _
  exact this r _ _ (leF.refl _)
theorem rowF_told (f : Nat → SF) (r : List Int) : toldF (rowF f r) = toldS (catS (fun n => toldF (f n)) r) := by
  have : ∀ (r : List Int) (a : SF), (∀ l, a = .told l → l.length ≤ 1000) → toldF (r.foldl (fun acc s => addF acc (symF f s)) a) = toldS (catO (toldF a) (catS (fun n => toldF (f n)) r)) := by
    intro r
    induction r with
    | nil =>
      intro a ha
      cases a using SF.cs with
      | told l =>
        show some l = toldS (some (l ++ []))
        rw [List.append_nil]
        show some l = if l.length ≤ 1000 then some l else none
        rw [if_pos (ha l rfl)]
      | non => rfl
      | long => rfl
    | cons s r ih =>
      intro a ha
      have hsym : (if s < 0 then toldF (f (-1 - s).toNat) else some [s]) = toldF (symF f s) := by
        unfold symF; split <;> rfl
      have hcat : catS (fun n => toldF (f n)) (s :: r) = catO (toldF (symF f s)) (catS (fun n => toldF (f n)) r) := by
        show catO (if s < 0 then toldF (f (-1 - s).toNat) else some [s]) _ = _
        rw [hsym]
      rw [hcat]
      show toldF (r.foldl (fun acc s => addF acc (symF f s)) (addF a (symF f s))) = _
      have hok : ∀ l, addF a (symF f s) = .told l → l.length ≤ 1000 := fun l hl => by
        generalize symF f s = b at hl
        cases a using SF.cs <;> cases b using SF.cs <;> simp only [addF, SF.told, SF.long, SF.non, reduceCtorEq, Option.some.injEq] at hl
        rename_i x y
        by_cases e : (x ++ y).length ≤ 1000
        · rw [if_pos e] at hl
          have hl2 := Option.some.inj (Option.some.inj hl)
          rw [← hl2]; exact e
        · rw [if_neg e] at hl; simp at hl
      rw [ih _ hok]
      generalize symF f s = b
      generalize catS (fun n => toldF (f n)) r = c
      cases a using SF.cs with
      | non => rfl
      | long => cases b using SF.cs <;> rfl
      | told x =>
        cases b using SF.cs with
        | non => cases c <;> rfl
        | long => cases c <;> rfl
        | told y =>
          show toldS (catO (toldF (if (x ++ y).length ≤ 1000 then .told (x ++ y) else .long)) c) = toldS (catO (some x) (catO (some y) c))
          by_cases e : (x ++ y).length ≤ 1000
          · rw [if_pos e]
            cases c with
            | none => rfl
            | some z => show toldS (some (x ++ y ++ z)) = toldS (some (x ++ (y ++ z))); rw [List.append_assoc]
          · rw [if_neg e]
            cases c with
            | none => rfl
            | some z =>
              show none = if (x ++ (y ++ z)).length ≤ 1000 then _ else none
              rw [if_neg (by simp at e ⊢; omega)]
  have h := this r (.told []) (fun l hl => by have hl := Option.some.inj (Option.some.inj hl); rw [← hl]; simp)
  rw [show rowF f r = r.foldl (fun acc s => addF acc (symF f s)) (.told []) from rfl, h]
  show toldS (catO (some []) (catS (fun n => toldF (f n)) r)) = _
  cases catS (fun n => toldF (f n)) r <;> rfl
theorem rowF_len (f : Nat → SF) (r : List Int) (l : List Int) (h : rowF f r = .told l) : l.length ≤ 1000 := by
  have e := rowF_told f r
  rw [h] at e
  have e' : some l = toldS (catS (fun n => toldF (f n)) r) := e
  cases hc : catS (fun n => toldF (f n)) r with
  | none => rw [hc] at e'; simp [toldS] at e'
  | some x =>
    rw [hc] at e'
    have e2 : some l = if x.length ≤ 1000 then some x else none := e'
    by_cases hx : x.length ≤ 1000
    · rw [if_pos hx] at e2; injection e2 with e2; rw [e2]; exact hx
    · rw [if_neg hx] at e2; simp at e2
/-- strictly better -/
def betB : SF → SF → Bool
  | some (some a), some (some b) => earB a b
  | some (some _), _ => true
  | some none, none => true
  | _, _ => false
theorem betB_iff (a b : SF) : betB a b = true ↔ leF a b ∧ a ≠ b := by
  cases a using SF.cs <;> cases b using SF.cs <;> first
    | (simp [betB, leF]; done)
    | (show earB _ _ = true ↔ _
       rw [earB_iff]
       constructor
       · rintro ⟨h1, h2⟩; exact ⟨h1, fun e => h2 (Option.some.inj (Option.some.inj e))⟩
       · rintro ⟨h1, h2⟩; exact ⟨h1, fun e => h2 (by rw [e])⟩)
def stepF (f : Nat → SF) (acc : SF) (p : PdR) : SF := if betB (rowF f p.right) acc then rowF f p.right else acc
def bestF (f : Nat → SF) (l : List PdR) : SF := l.foldl (stepF f) .non
theorem bestF_take (f : Nat → SF) (l : List PdR) (k : Nat) (hk : k < l.length) : bestF f (l.take (k + 1)) = stepF f (bestF f (l.take k)) (l.getD k noPd) := by
  unfold bestF
  rw [List.take_succ_eq_append_getElem hk, List.foldl_append]
  simp [List.getD, hk]
theorem foldT (f : Nat → SF) : ∀ (l : List PdR) (a : SF), leF (l.foldl (stepF f) a) a ∧ (∀ p ∈ l, leF (l.foldl (stepF f) a) (rowF f p.right)) ∧ (l.foldl (stepF f) a = a ∨ ∃ p ∈ l, l.foldl (stepF f) a = rowF f p.right)
  | [], a => ⟨leF.refl _, fun p hp => (by cases hp), .inl rfl⟩
  | q :: l, a => by
    obtain ⟨h1, h2, h3⟩ := foldT f l (stepF f a q)
    have s1 : leF (stepF f a q) a := by
      unfold stepF; split
      · rename_i h; exact ((betB_iff _ _).1 h).1
      · exact leF.refl _
    have s2 : leF (stepF f a q) (rowF f q.right) := by
      unfold stepF; split
      · exact leF.refl _
      · rename_i h
        rcases leF.total a (rowF f q.right) with h' | h'
        · exact h'
        · by_cases e : rowF f q.right = a
          · rw [e]; exact leF.refl _
          · exact absurd ((betB_iff _ _).2 ⟨h', e⟩) h
    simp only [List.foldl_cons]
    refine ⟨h1.trans s1, fun p hp => ?_, ?_⟩
    · rcases List.mem_cons.1 hp with rfl | hp
      · exact h1.trans s2
      · exact h2 p hp
    · rcases h3 with h3 | ⟨p, hp, h3⟩
      · by_cases h : betB (rowF f q.right) a = true
        · exact .inr ⟨q, by simp, by rw [h3]; unfold stepF; rw [if_pos h]⟩
        · exact .inl (by rw [h3]; unfold stepF; rw [if_neg h])
      · exact .inr ⟨p, by simp [hp], h3⟩
/-- what a name's productions say of its sentences -/
def sayT (ps : List PdR) (f : Nat → SF) (n : Nat) : SF := bestF f (ownL ps n)
theorem sayT_le {ps : List PdR} {f : Nat → SF} {n : Nat} {p : PdR} (hp : p ∈ ownL ps n) : leF (sayT ps f n) (rowF f p.right) := (foldT f _ .non).2.1 p hp
theorem sayT_of (ps : List PdR) (f : Nat → SF) (n : Nat) : sayT ps f n = .non ∨ ∃ p ∈ ownL ps n, sayT ps f n = rowF f p.right := (foldT f _ .non).2.2
theorem sayT_mono {ps : List PdR} {f g : Nat → SF} (h : ∀ n, leF (f n) (g n)) (n : Nat) : leF (sayT ps f n) (sayT ps g n) := by
  rcases sayT_of ps g n with e | ⟨p, hp, e⟩
  · rw [e]; exact leF.non _
  · rw [e]; exact (sayT_le hp).trans (rowF_mono h _)
theorem sayT_told (ps : List PdR) (hl : ∀ p ∈ ps, 0 ≤ p.left) (f : Nat → SF) (n : Nat) : toldF (sayT ps f n) = saysS (prsS ps) (fun m => toldF (f m)) n := by
  refine leS.antisymm ?_ ?_
  · rcases saysS_of (prsS ps) (fun m => toldF (f m)) n with e | ⟨q, hq, hqn, e⟩
    · rw [e]; cases toldF (sayT ps f n) <;> trivial
    · rw [e]
      obtain ⟨p, hp, rfl⟩ := List.mem_map.1 hq
      have hpo : p ∈ ownL ps n := List.mem_filter.2 ⟨hp, decide_eq_true (by have := hl p hp; have hqn' : p.left.toNat = n := hqn; omega)⟩
      have := leF_told (sayT_le (f := f) hpo)
      rw [rowF_told] at this
      exact this
  · rcases sayT_of ps f n with e | ⟨p, hp, e⟩
    · rw [e]
      show leS _ none
      cases saysS (prsS ps) (fun m => toldF (f m)) n <;> trivial
    · rw [e, rowF_told]
      obtain ⟨hp1, hp2⟩ := List.mem_filter.1 hp
      have hpn : p.left = (n : Int) := of_decide_eq_true hp2
      have := saysS_le (f := fun m => toldF (f m)) (List.mem_map.2 ⟨p, hp1, rfl⟩ : prS p ∈ prsS ps)
      have e2 : (prS p).left = n := by show p.left.toNat = n; omega
      rw [e2] at this
      exact this
theorem rowF_same {f g : Nat → SF} (r : List Int) (h : ∀ s ∈ r, s < 0 → f (-1 - s).toNat = g (-1 - s).toNat) : rowF f r = rowF g r := by
  have : ∀ (r : List Int) (a : SF), (∀ s ∈ r, s < 0 → f (-1 - s).toNat = g (-1 - s).toNat) → r.foldl (fun acc s => addF acc (symF f s)) a = r.foldl (fun acc s => addF acc (symF g s)) a := by
    intro r
    induction r with
    | nil => intro a _; rfl
    | cons s r ih =>
      intro a h
      have e : symF f s = symF g s := by
        unfold symF
        by_cases hs : s < 0
        · rw [if_pos hs, if_pos hs]; exact h s (by simp) hs
        · rw [if_neg hs, if_neg hs]
      simp only [List.foldl_cons, e]
      exact ih _ fun x hx => h x (by simp [hx])
  exact this r _ h
theorem sayT_same {ps : List PdR} {f g : Nat → SF} {n : Nat} (h : ∀ p ∈ ownL ps n, ∀ s ∈ p.right, s < 0 → f (-1 - s).toNat = g (-1 - s).toNat) : sayT ps f n = sayT ps g n := by
  have : ∀ (l : List PdR) (a : SF), (∀ p ∈ l, ∀ s ∈ p.right, s < 0 → f (-1 - s).toNat = g (-1 - s).toNat) → l.foldl (stepF f) a = l.foldl (stepF g) a := by
    intro l
    induction l with
    | nil => intro a _; rfl
    | cons p l ih =>
      intro a h
      have e : stepF f a p = stepF g a p := by unfold stepF; rw [rowF_same p.right (h p (by simp))]
      simp only [List.foldl_cons, e]
      exact ih _ fun q hq => h q (by simp [hq])
  exact this _ _ h
/-- sentences of terminals -/
def OkS (a : SF) : Prop := ∀ l, a = .told l → l.length ≤ 1000 ∧ ∀ x ∈ l, 0 ≤ x ∧ x ≤ 300
theorem addF_ok {a b : SF} (ha : OkS a) (hb : OkS b) : OkS (addF a b) := by
  intro l hl
  cases a using SF.cs <;> cases b using SF.cs <;> simp only [addF, SF.told, SF.long, SF.non, reduceCtorEq, Option.some.injEq] at hl
  rename_i x y
  by_cases e : (x ++ y).length ≤ 1000
  · rw [if_pos e] at hl
    have hl := Option.some.inj (Option.some.inj hl)
    subst hl
    refine ⟨e, fun z hz => ?_⟩
    rcases List.mem_append.1 hz with hz | hz
    · exact (ha x rfl).2 z hz
    · exact (hb y rfl).2 z hz
  · rw [if_neg e] at hl; simp at hl
theorem rowF_ok {f : Nat → SF} (hf : ∀ n, OkS (f n)) (r : List Int) (hr : ∀ s ∈ r, s ≤ 300) : OkS (rowF f r) := by
  have : ∀ (r : List Int) (a : SF), (∀ s ∈ r, s ≤ 300) → OkS a → OkS (r.foldl (fun acc s => addF acc (symF f s)) a) := by
    intro r
    induction r with
    | nil => intro a _ h; exact h
    | cons s r ih =>
      intro a h ha
      refine ih _ (fun x hx => h x (by simp [hx])) (addF_ok ha ?_)
      unfold symF
      by_cases hs : s < 0
      · rw [if_pos hs]; exact hf _
      · rw [if_neg hs]
        intro l hl
        have hl := Option.some.inj (Option.some.inj hl)
        subst hl
        refine ⟨by simp, fun x hx => ?_⟩
        obtain rfl : x = s := by simpa using hx
        have := h x (by simp)
        omega
  exact this r _ hr (fun l hl => by have hl := Option.some.inj (Option.some.inj hl); subst hl; simp)
theorem sayT_ok {ps : List PdR} {f : Nat → SF} (hf : ∀ n, OkS (f n)) (hr : ∀ p ∈ ps, ∀ s ∈ p.right, s ≤ 300) (n : Nat) : OkS (sayT ps f n) := by
  rcases sayT_of ps f n with e | ⟨p, hp, e⟩
  · rw [e]; intro l hl; simp at hl
  · rw [e]; exact rowF_ok hf _ (hr p (List.mem_filter.1 hp).1)
/-- how much may still be found -/
def valL : List Int → Nat
  | [] => 0
  | x :: l => (x.toNat + 1) * 302 ^ l.length + valL l
theorem valL_lt : ∀ (l : List Int), (∀ x ∈ l, 0 ≤ x ∧ x ≤ 300) → valL l < 302 ^ l.length
  | [], _ => by simp [valL]
  | x :: l, h => by
    have ih := valL_lt l fun y hy => h y (by simp [hy])
    have hx := h x (by simp)
    have : (x.toNat + 1) * 302 ^ l.length ≤ 301 * 302 ^ l.length := Nat.mul_le_mul_right _ (by omega)
    show (x.toNat + 1) * 302 ^ l.length + valL l < 302 ^ (l.length + 1)
    rw [Nat.pow_succ]
    omega
theorem valL_ge : ∀ (l : List Int), l ≠ [] → 302 ^ (l.length - 1) ≤ valL l
  | [], h => absurd rfl h
  | x :: l, _ => by
    show 302 ^ l.length ≤ (x.toNat + 1) * 302 ^ l.length + valL l
    have := Nat.mul_le_mul_right (302 ^ l.length) (show 1 ≤ x.toNat + 1 by omega)
    omega
theorem valL_lex : ∀ (a b : List Int), a.length = b.length → (∀ x ∈ a, 0 ≤ x ∧ x ≤ 300) → (∀ x ∈ b, 0 ≤ x ∧ x ≤ 300) → lexLe a b → a ≠ b → valL a < valL b
  | [], [], _, _, _, _, hne => absurd rfl hne
  | [], _ :: _, h, _, _, _, _ => by simp at h
  | _ :: _, [], h, _, _, _, _ => by simp at h
  | x :: a, y :: b, h, ha, hb, hle, hne => by
    have hl : a.length = b.length := by simpa using h
    have hx := ha x (by simp)
    have hy := hb y (by simp)
    have hla := valL_lt a fun z hz => ha z (by simp [hz])
    show (x.toNat + 1) * 302 ^ a.length + valL a < (y.toNat + 1) * 302 ^ b.length + valL b
    rw [hl] at hla ⊢
    rcases hle with hlt | ⟨rfl, hle⟩
    · have := Nat.mul_le_mul_right (302 ^ b.length) (show x.toNat + 1 + 1 ≤ y.toNat + 1 by omega)
      rw [Nat.succ_mul] at this
      omega
    · have := valL_lex a b hl (fun z hz => ha z (by simp [hz])) (fun z hz => hb z (by simp [hz])) hle (fun e => hne (by rw [e]))
      omega
theorem valL_slx (a b : List Int) (ha : ∀ x ∈ a, 0 ≤ x ∧ x ≤ 300) (hb : ∀ x ∈ b, 0 ≤ x ∧ x ≤ 300) (h : slx a b) (hne : a ≠ b) : valL a < valL b := by
  rcases h with h | ⟨e, h⟩
  · have h1 := valL_lt a ha
    have h2 := valL_ge b (fun e => by rw [e] at h; simp at h)
    have h3 : 302 ^ a.length ≤ 302 ^ (b.length - 1) := Nat.pow_le_pow_right (by omega) (by omega)
    omega
  · exact valL_lex a b e ha hb h hne
def pw (n : Nat) : Nat := 302 ^ n
theorem pw_mono {a b : Nat} (h : a ≤ b) : pw a ≤ pw b := Nat.pow_le_pow_right (by omega) h
theorem valL_pw (l : List Int) (h : ∀ x ∈ l, 0 ≤ x ∧ x ≤ 300) : valL l < pw l.length := valL_lt l h
def bigV : Nat := pw 1000
def rkF : SF → Nat
  | none => bigV + 1
  | some none => bigV
  | some (some l) => valL l
theorem rkF_lt {a b : SF} (ha : OkS a) (hb : OkS b) (h : leF a b) (hne : a ≠ b) : rkF a < rkF b := by
  have key : ∀ l : List Int, l.length ≤ 1000 → (∀ x ∈ l, 0 ≤ x ∧ x ≤ 300) → valL l < bigV := fun l h1 h2 => by
    exact Nat.lt_of_lt_of_le (valL_pw l h2) (pw_mono h1)
  cases a using SF.cs with
  | non => cases b using SF.cs <;> first | exact absurd rfl hne | exact h.elim
  | long =>
    cases b using SF.cs with
    | non =>
      show bigV < bigV + 1
      generalize bigV = K
      omega
    | long => exact absurd rfl hne
    | told y => exact h.elim
  | told x =>
    have hx := ha x rfl
    cases b using SF.cs with
    | non =>
      have h9 := key x hx.1 hx.2
      show valL x < bigV + 1
      generalize bigV = K at *
      omega
    | long => exact key x hx.1 hx.2
    | told y => exact valL_slx x y hx.2 (hb y rfl).2 h (fun e => hne (by rw [e]))

end Go.Proofs.YtmkimaceioacgaaDoor
