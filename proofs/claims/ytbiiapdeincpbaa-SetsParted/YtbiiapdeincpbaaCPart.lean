/- Plain facts on classes of points: a list of canonical sets in the order of their least points, each all points that lie in the same sets as its least, is one list. And on numbered trees: the root's number tells all leaves. -/
import Derived.Test.YtbiiapdeincpbaaSetsC
namespace Go.Proofs.Ytbiiapdeincpbaa
set_option linter.unusedVariables false

def sameB (ls : List (List Rg)) (p q : Int) : Bool := ls.all fun s => hasL s p == hasL s q
def fstP (l : List Rg) : Int := (l.headD (0, 0)).1

theorem sameB_iff {ls : List (List Rg)} {p q : Int} : sameB ls p q = true ↔ ∀ s ∈ ls, hasL s p = hasL s q := by simp [sameB]
theorem sameB_refl (ls : List (List Rg)) (p : Int) : sameB ls p p = true := sameB_iff.2 fun _ _ => rfl
theorem sameB_symm {ls : List (List Rg)} {p q : Int} (h : sameB ls p q = true) : sameB ls q p = true := sameB_iff.2 fun s hs => (sameB_iff.1 h s hs).symm
theorem sameB_trans {ls : List (List Rg)} {p q r : Int} (h : sameB ls p q = true) (h' : sameB ls q r = true) : sameB ls p r = true := sameB_iff.2 fun s hs => (sameB_iff.1 h s hs).trans (sameB_iff.1 h' s hs)

structure Part (ls : List (List Rg)) (cs : List (List Rg)) (to : Int) : Prop where
  upto : ∀ c, c < cs.length → Upto (cs.getD c []) to (sameB ls (fstP (cs.getD c [])))
  ne : ∀ c, c < cs.length → cs.getD c [] ≠ []
  ord : ∀ i j, i < j → j < cs.length → fstP (cs.getD i []) < fstP (cs.getD j []) ∧ sameB ls (fstP (cs.getD i [])) (fstP (cs.getD j [])) = false
  cover : ∀ p, 0 ≤ p → p < to → ∃ c, c < cs.length ∧ sameB ls (fstP (cs.getD c [])) p = true

theorem fst_in {l : List Rg} {to : Int} {f : Int → Bool} (h : Upto l to f) (hne : l ≠ []) : 0 ≤ fstP l ∧ fstP l < to ∧ hasL l (fstP l) = true := by
  match l, hne with
  | r :: t, _ =>
    have h1 := h.low r (by simp)
    have h2 := h.apart.2 r (by simp)
    refine ⟨h1.1, by simp [fstP]; omega, ?_⟩
    exact (hasL_iff _ _).2 ⟨r, by simp, by simp [fstP], by simpa [fstP] using h2⟩
theorem fst_low {l : List Rg} (h : Apart l) {p : Int} (hp : hasL l p = true) : fstP l ≤ p := by
  match l with
  | [] => simp [hasL] at hp
  | r :: t =>
    obtain ⟨x, hx, h1, h2⟩ := (hasL_iff _ _).1 hp
    rcases List.mem_cons.1 hx with rfl | hx
    · simpa [fstP] using h1
    · have := h.head x hx
      have := h.2 r (by simp)
      simp [fstP]; omega
theorem fst_grow {l : List Rg} (hne : l ≠ []) (lo hi : Int) : fstP (growL l lo hi) = fstP l := by
  match l, hne with
  | [r], _ => unfold growL; simp only [List.getLast?_singleton]; split <;> rfl
  | x :: y :: t, _ =>
    unfold growL
    cases h : (x :: y :: t).getLast? with
    | none => simp at h
    | some r => dsimp only; split <;> rfl

theorem getD_set_cs (cs : List (List Rg)) (k c : Nat) (x : List Rg) (hk : k < cs.length) : (cs.set k x).getD c [] = if c = k then x else cs.getD c [] := by
  simp only [List.getD_eq_getElem?_getD, List.getElem?_set]
  by_cases h : k = c
  · subst h; simp [hk]
  · simp [h, Ne.symm h]
theorem getD_snoc_cs (cs : List (List Rg)) (c : Nat) (x : List Rg) (hc : c < cs.length + 1) : (cs ++ [x]).getD c [] = if c = cs.length then x else cs.getD c [] := by
  by_cases h : c = cs.length
  · subst h; simp
  · simp only [List.getD_eq_getElem?_getD, h, if_false]
    rw [List.getElem?_append_left (by omega)]

theorem part_nil (ls : List (List Rg)) : Part ls [] 0 := ⟨by simp, by simp, by simp, fun p h0 h1 => by omega⟩

theorem part_apart {ls cs : List (List Rg)} {to : Int} (h : Part ls cs to) {i j : Nat} (hi : i < cs.length) (hj : j < cs.length) (hne : i ≠ j) : sameB ls (fstP (cs.getD i [])) (fstP (cs.getD j [])) = false := by
  rcases (show i < j ∨ j < i from by omega) with h1 | h1
  · exact (h.ord i j h1 hj).2
  · have := (h.ord j i h1 hi).2
    cases hs : sameB ls (fstP (cs.getD i [])) (fstP (cs.getD j []))
    · rfl
    · rw [sameB_symm hs] at this; exact this

theorem part_old {ls cs : List (List Rg)} {lo hi : Int} (h : Part ls cs lo) {k : Nat} (hk : k < cs.length) (hs : sameB ls (fstP (cs.getD k [])) lo = true) (h0 : 0 ≤ lo) (hlh : lo ≤ hi) (hf : ∀ p, lo ≤ p → p ≤ hi → sameB ls lo p = true) :
    Part ls (cs.set k (growL (cs.getD k []) lo hi)) (hi + 1) := by
  have hfst : ∀ c, fstP ((cs.set k (growL (cs.getD k []) lo hi)).getD c []) = fstP (cs.getD c []) := fun c => by
    rw [getD_set_cs _ _ _ _ hk]
    split
    · rename_i e; subst e; exact fst_grow (h.ne _ hk) lo hi
    · rfl
  refine ⟨fun c hc => ?_, fun c hc => ?_, fun i j hij hj => ?_, fun p p0 p1 => ?_⟩
  · rw [hfst, getD_set_cs _ _ _ _ hk]
    rw [List.length_set] at hc
    split
    · rename_i e; subst e
      exact (h.upto c hc).grow h0 hlh (fun p h1 h2 => sameB_trans hs (hf p h1 h2))
    · rename_i e
      refine (h.upto c hc).skip (by omega) (fun p h1 h2 => ?_)
      cases hq : sameB ls (fstP (cs.getD c [])) p
      · rfl
      · have h3 := sameB_trans hq (sameB_symm (sameB_trans hs (hf p h1 h2)))
        rw [part_apart h hc hk e] at h3
        cases h3
  · rw [List.length_set] at hc
    rw [getD_set_cs _ _ _ _ hk]
    split
    · intro e
      have h1 := fst_in ((h.upto k hk).grow h0 hlh (fun p h1 h2 => sameB_trans hs (hf p h1 h2)))
      have h2 := fst_in (h.upto k hk) (h.ne k hk)
      have h3 := (hasL_iff _ _).1 h2.2.2
      unfold growL at e
      split at e
      · split at e <;> simp at e
      · simp at e
    · exact h.ne c hc
  · rw [hfst, hfst]
    exact h.ord i j hij (by simpa using hj)
  · rcases (show p < lo ∨ lo ≤ p from by omega) with hp | hp
    · obtain ⟨c, hc, hq⟩ := h.cover p p0 hp
      exact ⟨c, by simpa using hc, by rw [hfst]; exact hq⟩
    · exact ⟨k, by simpa using hk, by rw [hfst]; exact sameB_trans hs (hf p hp (by omega))⟩

theorem part_new {ls cs : List (List Rg)} {lo hi : Int} (h : Part ls cs lo) (hno : ∀ c, c < cs.length → sameB ls (fstP (cs.getD c [])) lo = false) (h0 : 0 ≤ lo) (hlh : lo ≤ hi) (hf : ∀ p, lo ≤ p → p ≤ hi → sameB ls lo p = true) :
    Part ls (cs ++ [[(lo, hi)]]) (hi + 1) := by
  have hnew : Upto [(lo, hi)] (hi + 1) (sameB ls lo) := by
    have h1 : Upto [] lo (sameB ls lo) := ⟨⟨List.Pairwise.nil, by simp⟩, by simp, fun p p0 p1 => by
      obtain ⟨c, hc, hq⟩ := h.cover p p0 p1
      cases hp : sameB ls lo p
      · rfl
      · have := sameB_trans hq (sameB_symm hp)
        rw [hno c hc] at this
        cases this⟩
    exact h1.grow h0 hlh hf
  have hl : (cs ++ [[(lo, hi)]]).length = cs.length + 1 := by simp
  refine ⟨fun c hc => ?_, fun c hc => ?_, fun i j hij hj => ?_, fun p p0 p1 => ?_⟩
  · rw [hl] at hc
    rw [getD_snoc_cs _ _ _ hc]
    split
    · exact hnew
    · rename_i e
      have hc2 : c < cs.length := by omega
      refine (h.upto c hc2).skip (by omega) (fun p h1 h2 => ?_)
      cases hq : sameB ls (fstP (cs.getD c [])) p
      · rfl
      · have h3 := sameB_trans hq (sameB_symm (hf p h1 h2))
        rw [hno c hc2] at h3
        cases h3
  · rw [hl] at hc
    rw [getD_snoc_cs _ _ _ hc]
    split
    · simp
    · exact h.ne c (by omega)
  · rw [hl] at hj
    have hi2 : i < cs.length := by omega
    rw [getD_snoc_cs _ _ _ hj, getD_snoc_cs _ _ _ (by omega), if_neg (by omega)]
    split
    · have := fst_in (h.upto i hi2) (h.ne i hi2)
      exact ⟨this.2.1, hno i hi2⟩
    · exact h.ord i j hij (by omega)
  · rcases (show p < lo ∨ lo ≤ p from by omega) with hp | hp
    · obtain ⟨c, hc, hq⟩ := h.cover p p0 hp
      refine ⟨c, by rw [hl]; omega, ?_⟩
      rw [getD_snoc_cs _ _ _ (by omega), if_neg (by omega)]
      exact hq
    · refine ⟨cs.length, by rw [hl]; omega, ?_⟩
      rw [getD_snoc_cs _ _ _ (by omega), if_pos rfl]
      exact hf p hp (by omega)

theorem sorted_mem_eq : ∀ (a b : List Int), a.Pairwise (· < ·) → b.Pairwise (· < ·) → (∀ x, x ∈ a ↔ x ∈ b) → a = b
  | [], [], _, _, _ => rfl
  | [], y :: u, _, _, h => by have := (h y).2 (by simp); simp at this
  | x :: t, [], _, _, h => by have := (h x).1 (by simp); simp at this
  | x :: t, y :: u, ha, hb, h => by
    obtain ⟨a1, a2⟩ := List.pairwise_cons.1 ha
    obtain ⟨b1, b2⟩ := List.pairwise_cons.1 hb
    have e : x = y := by
      have hx := (h x).1 (by simp)
      have hy := (h y).2 (by simp)
      rcases List.mem_cons.1 hx with e | hx
      · exact e
      · rcases List.mem_cons.1 hy with e | hy
        · exact e.symm
        · have := a1 y hy; have := b1 x hx; omega
    subst e
    rw [sorted_mem_eq t u a2 b2 (fun z => ⟨fun hz => ?_, fun hz => ?_⟩)]
    · rcases List.mem_cons.1 ((h z).1 (by simp [hz])) with e | h1
      · subst e; have := a1 z hz; omega
      · exact h1
    · rcases List.mem_cons.1 ((h z).2 (by simp [hz])) with e | h1
      · subst e; have := b1 z hz; omega
      · exact h1

theorem first_iff {ls cs : List (List Rg)} (h : Part ls cs 1114112) (p : Int) : p ∈ cs.map fstP ↔ (0 ≤ p ∧ p < 1114112 ∧ ∀ q, 0 ≤ q → q < p → sameB ls q p = false) := by
  constructor
  · intro hp
    obtain ⟨l, hl, rfl⟩ := List.mem_map.1 hp
    obtain ⟨c, hc, e⟩ := List.mem_iff_getElem.1 hl
    have e2 : cs.getD c [] = l := by simp [hc, e]
    have hu := h.upto c hc
    have hn := h.ne c hc
    rw [e2] at hu hn
    have hi := fst_in hu hn
    refine ⟨hi.1, hi.2.1, fun q q0 q1 => ?_⟩
    cases hs : sameB ls q (fstP l)
    · rfl
    · have h1 := hu.has q q0 (by omega)
      rw [sameB_symm hs] at h1
      have := fst_low hu.apart h1.symm
      omega
  · rintro ⟨p0, p1, hq⟩
    obtain ⟨c, hc, hs⟩ := h.cover p p0 p1
    have hu := h.upto c hc
    have hi := fst_in hu (h.ne c hc)
    have h1 := hu.has p p0 p1
    rw [hs] at h1
    have h2 := fst_low hu.apart h1.symm
    have e : fstP (cs.getD c []) = p := by
      rcases (show fstP (cs.getD c []) < p ∨ fstP (cs.getD c []) = p from by omega) with h3 | h3
      · rw [hq _ hi.1 h3] at hs; cases hs
      · exact h3
    rw [← e]
    exact List.mem_map.2 ⟨cs.getD c [], by simp [hc], rfl⟩

theorem firsts_sorted {ls cs : List (List Rg)} {to : Int} (h : Part ls cs to) : (cs.map fstP).Pairwise (· < ·) := by
  rw [List.pairwise_iff_getElem]
  intro i j hi hj hij
  simp only [List.length_map] at hi hj
  have := (h.ord i j hij hj).1
  simpa [hi, hj] using this

theorem part_unique {ls cs ds : List (List Rg)} (hc : Part ls cs 1114112) (hd : Part ls ds 1114112) : cs = ds := by
  have e : cs.map fstP = ds.map fstP := sorted_mem_eq _ _ (firsts_sorted hc) (firsts_sorted hd) (fun x => (first_iff hc x).trans (first_iff hd x).symm)
  have el : cs.length = ds.length := by simpa using congrArg List.length e
  apply List.ext_getElem el
  intro i h1 h2
  have ei : fstP cs[i] = fstP ds[i] := by
    have := congrArg (fun l => l[i]?) e
    simpa [h1, h2] using this
  have hu := hc.upto i h1
  have hv := hd.upto i h2
  have g1 : cs.getD i [] = cs[i] := by simp [h1]
  have g2 : ds.getD i [] = ds[i] := by simp [h2]
  rw [g1] at hu
  rw [g2] at hv
  exact upto_unique hu hv (fun p _ _ => by rw [ei])

/- numbered trees -/
abbrev Pr := Int × Int
def GoodAt (ps : List Pr) (nodes : List Int) (j : Nat) : Prop := ∃ n : Nat, nodes.getD j 0 = n ∧ ps[n]? = some (nodes.getD (2 * j) 0, nodes.getD (2 * j + 1) 0)
def Good (ps : List Pr) (nodes : List Int) (L : Nat) : Prop := ∀ j, 1 ≤ j → j < L → GoodAt ps nodes j
def Root (ps : List Pr) (L : Nat) (r : Int) (lv : Nat → Int) : Prop := ∃ nodes, Good ps nodes L ∧ nodes.getD 1 0 = r ∧ ∀ s, s < L → nodes.getD (L + s) 0 = lv s

theorem pre_get {ps ps' : List Pr} (h : ps <+: ps') {n : Nat} {x : Pr} (e : ps[n]? = some x) : ps'[n]? = some x := by
  obtain ⟨t, rfl⟩ := h
  have hn : n < ps.length := (List.getElem?_eq_some_iff.1 e).1
  rw [List.getElem?_append_left hn]; exact e
theorem GoodAt.pre {ps ps' : List Pr} {nodes : List Int} {j : Nat} (h : GoodAt ps nodes j) (hp : ps <+: ps') : GoodAt ps' nodes j := by
  obtain ⟨n, h1, h2⟩ := h
  exact ⟨n, h1, pre_get hp h2⟩
theorem Root.pre {ps ps' : List Pr} {L : Nat} {r : Int} {lv : Nat → Int} (h : Root ps L r lv) (hp : ps <+: ps') : Root ps' L r lv := by
  obtain ⟨nodes, h1, h2, h3⟩ := h
  exact ⟨nodes, fun j a b => (h1 j a b).pre hp, h2, h3⟩

theorem nodup_idx {ps : List Pr} (h : ps.Nodup) {n m : Nat} {x : Pr} (h1 : ps[n]? = some x) (h2 : ps[m]? = some x) : n = m := by
  obtain ⟨a, ha⟩ := List.getElem?_eq_some_iff.1 h1
  obtain ⟨b, hb⟩ := List.getElem?_eq_some_iff.1 h2
  have hp := List.pairwise_iff_getElem.1 h
  rcases (show n < m ∨ n = m ∨ m < n from by omega) with q | q | q
  · exact absurd (ha.trans hb.symm) (hp n m a b q)
  · exact q
  · exact absurd (hb.trans ha.symm) (hp m n b a q)

theorem root_inj {ps : List Pr} (hn : ps.Nodup) {L : Nat} (hL : 1 ≤ L) {r r' : Int} {lv lv' : Nat → Int} (h : Root ps L r lv) (h' : Root ps L r' lv') : r = r' ↔ ∀ s, s < L → lv s = lv' s := by
  obtain ⟨a, a1, rfl, a3⟩ := h
  obtain ⟨b, b1, rfl, b3⟩ := h'
  constructor
  · intro e s hs
    have up : ∀ f j, j ≤ f → 1 ≤ j → j < 2 * L → a.getD j 0 = b.getD j 0 := by
      intro f
      induction f with
      | zero => intro j h1 h2; omega
      | succ f ih =>
        intro j hf h1 h2
        by_cases hj : j = 1
        · subst hj; exact e
        · have hp := ih (j / 2) (by omega) (by omega) (by omega)
          obtain ⟨n, x1, x2⟩ := a1 (j / 2) (by omega) (by omega)
          obtain ⟨m, y1, y2⟩ := b1 (j / 2) (by omega) (by omega)
          rw [x1, y1] at hp
          have hnm : n = m := by omega
          subst hnm
          rw [x2] at y2
          simp only [Option.some.injEq, Prod.mk.injEq] at y2
          rcases (show j = 2 * (j / 2) ∨ j = 2 * (j / 2) + 1 from by omega) with q | q
          · rw [q]; exact y2.1
          · rw [q]; exact y2.2
    rw [← a3 s hs, ← b3 s hs]
    exact up (L + s) (L + s) (Nat.le_refl _) (by omega) (by omega)
  · intro e
    have down : ∀ f j, 2 * L - j ≤ f → 1 ≤ j → j < 2 * L → a.getD j 0 = b.getD j 0 := by
      intro f
      induction f with
      | zero => intro j h1 h2; omega
      | succ f ih =>
        intro j hf h1 h2
        by_cases hj : j < L
        · obtain ⟨n, x1, x2⟩ := a1 j h1 hj
          obtain ⟨m, y1, y2⟩ := b1 j h1 hj
          rw [ih (2 * j) (by omega) (by omega) (by omega), ih (2 * j + 1) (by omega) (by omega) (by omega)] at x2
          rw [x1, y1, nodup_idx hn x2 y2]
        · have hs := e (j - L) (by omega)
          rw [← a3 _ (by omega), ← b3 _ (by omega), show L + (j - L) = j from by omega] at hs
          exact hs
    exact down (2 * L) 1 (by omega) (by omega) (by omega)

theorem getD_set_int (l : List Int) (k j : Nat) (x : Int) (hk : k < l.length) : (l.set k x).getD j 0 = if j = k then x else l.getD j 0 := by
  simp only [List.getD_eq_getElem?_getD, List.getElem?_set]
  by_cases h : k = j
  · subst h; simp [hk]
  · simp [h, Ne.symm h]

def Off (ps : List Pr) (nodes : List Int) (L i : Nat) : Prop := ∀ j, 1 ≤ j → j < L → (∀ k, j ≠ i / 2 ^ k) → GoodAt ps nodes j

theorem off_step {ps ps' : List Pr} {nodes : List Int} {L i n : Nat} (h : Off ps nodes L i) (hi : 1 ≤ i) (hl : i < nodes.length) (hp : ps <+: ps') (hn : ps'[n]? = some (nodes.getD (2 * i) 0, nodes.getD (2 * i + 1) 0)) : Off ps' (nodes.set i n) L (i / 2) := by
  intro j hj hjL hoff
  by_cases e : j = i
  · subst e
    refine ⟨n, by rw [getD_set_int _ _ _ _ hl, if_pos rfl], ?_⟩
    rw [getD_set_int _ _ _ _ hl, getD_set_int _ _ _ _ hl, if_neg (by omega), if_neg (by omega)]
    exact hn
  · have hg := h j hj hjL (fun k hk => by
      cases k with
      | zero => simp at hk; exact e hk
      | succ k =>
        refine hoff k ?_
        rw [hk, Nat.div_div_eq_div_mul, Nat.pow_succ, Nat.mul_comm])
    have h2 := hoff 0
    simp at h2
    obtain ⟨m, m1, m2⟩ := hg.pre hp
    refine ⟨m, by rw [getD_set_int _ _ _ _ hl, if_neg e]; exact m1, ?_⟩
    rw [getD_set_int _ _ _ _ hl, getD_set_int _ _ _ _ hl, if_neg (by omega), if_neg (by omega)]
    exact m2

theorem off_leaf {ps : List Pr} {nodes : List Int} {L leaf : Nat} (x : Int) (h : Good ps nodes L) (hL : L ≤ leaf) (hl : leaf < nodes.length) : Off ps (nodes.set leaf x) L (leaf / 2) := by
  intro j hj hjL hoff
  have h2 := hoff 0
  simp at h2
  obtain ⟨m, m1, m2⟩ := h j hj hjL
  refine ⟨m, by rw [getD_set_int _ _ _ _ hl, if_neg (by omega)]; exact m1, ?_⟩
  rw [getD_set_int _ _ _ _ hl, getD_set_int _ _ _ _ hl, if_neg (by omega), if_neg (by omega)]
  exact m2

theorem off_zero {ps : List Pr} {nodes : List Int} {L : Nat} (h : Off ps nodes L 0) : Good ps nodes L := fun j hj hjL => h j hj hjL (fun k => by simp; omega)

def GoodFrom (ps : List Pr) (nodes : List Int) (L i : Nat) : Prop := ∀ j, i < j → j < L → GoodAt ps nodes j
theorem good_down {ps ps' : List Pr} {nodes : List Int} {L i n : Nat} (h : GoodFrom ps nodes L (i + 1)) (hl : i + 1 < nodes.length) (hp : ps <+: ps') (hn : ps'[n]? = some (nodes.getD (2 * (i + 1)) 0, nodes.getD (2 * (i + 1) + 1) 0)) : GoodFrom ps' (nodes.set (i + 1) n) L i := by
  intro j hj hjL
  by_cases e : j = i + 1
  · subst e
    refine ⟨n, by rw [getD_set_int _ _ _ _ hl, if_pos rfl], ?_⟩
    rw [getD_set_int _ _ _ _ hl, getD_set_int _ _ _ _ hl, if_neg (by omega), if_neg (by omega)]
    exact hn
  · obtain ⟨m, m1, m2⟩ := (h j (by omega) hjL).pre hp
    refine ⟨m, by rw [getD_set_int _ _ _ _ hl, if_neg e]; exact m1, ?_⟩
    rw [getD_set_int _ _ _ _ hl, getD_set_int _ _ _ _ hl, if_neg (by omega), if_neg (by omega)]
    exact m2

/-- what the leaf of a set holds at a point -/
def sv (ls : List (List Rg)) (p : Int) (s : Nat) : Int := min (cnt (ls.getD s []) p) 1

theorem cnt_nn (l : List Rg) (p : Int) : 0 ≤ cnt l p := by unfold cnt; omega
theorem sv_same {ls : List (List Rg)} {L : Nat} (hL : ls.length ≤ L) (p q : Int) : (∀ s, s < L → sv ls p s = sv ls q s) ↔ sameB ls p q = true := by
  have key : ∀ s, sv ls p s = sv ls q s ↔ hasL (ls.getD s []) p = hasL (ls.getD s []) q := fun s => by
    rw [← cnt_pos, ← cnt_pos]
    unfold sv
    have h1 := cnt_nn (ls.getD s []) p
    have h2 := cnt_nn (ls.getD s []) q
    rw [Bool.eq_iff_iff]
    simp only [decide_eq_true_eq]
    omega
  rw [sameB_iff]
  constructor
  · intro h s hs
    obtain ⟨i, hi, e⟩ := List.mem_iff_getElem.1 hs
    have := (key i).1 (h i (by omega))
    simpa [hi, e] using this
  · intro h s hs
    rw [key]
    by_cases hi : s < ls.length
    · have := h ls[s] (by simp)
      simpa [hi] using this
    · have : ls.getD s [] = [] := by simp [hi]
      rw [this]; rfl

theorem sum_cnt {A B : List Eg} {ls : List (List Rg)} (hp : (A ++ B).Perm (gen 0 ls)) {s : Nat} (hs : s < ls.length) {lo hi p : Int} (hA : ∀ e ∈ A, e.1 ≤ lo) (hB : ∀ e ∈ B, hi < e.1) (h0 : 0 ≤ lo) (h1 : hi ≤ 1114111) (p0 : lo ≤ p) (p1 : p ≤ hi) : sumS A s = cnt (ls.getD s []) p := by
  rw [← dep_split A B p s (fun e he => by have := hA e he; omega) (fun e he => by have := hB e he; omega)]
  unfold dep
  rw [sumBy_perm _ hp]
  have := dep_gen ls 0 p s (by omega) (by omega) hs
  simpa [dep] using this

end Go.Proofs.Ytbiiapdeincpbaa
