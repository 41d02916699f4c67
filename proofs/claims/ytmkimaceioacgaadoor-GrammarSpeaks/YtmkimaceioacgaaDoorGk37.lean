/- Texts of the proof, put together: GTbP, GFwP. -/
import Derived.Test.YtmkimaceioacgaaDoorGk19
import Derived.Test.YtmkimaceioacgaaDoorGk26
import Derived.Test.YtmkimaceioacgaaDoorGk09
namespace Go.Proofs.YtmkimaceioacgaaDoor
set_option linter.unusedVariables false

def setT (LL : Nat → List Bool) (i k : Nat) (b : Bool) : Nat → List Bool := fun j => if j = i then (LL i).set k b else LL j
theorem setT_fact {LL : Nat → List Bool} {i k m : Nat} (hl : (LL i).length = m) (hk : k < m) (b : Bool) (x y : Nat) : factB (setT LL i k b x) y = if x = i ∧ y = k then b else factB (LL x) y := by
  unfold setT
  by_cases e : x = i
  · subst e
    rw [if_pos rfl, factB_set hl hk b y]
    by_cases e2 : y = k
    · rw [if_pos e2, if_pos ⟨rfl, e2⟩]
    · rw [if_neg e2, if_neg (fun h => e2 h.2)]
  · rw [if_neg e, if_neg (fun h => e h.1)]
theorem setT_len {LL : Nat → List Bool} {i k N M : Nat} (hl : ∀ j, j < N → (LL j).length = M) (b : Bool) : ∀ j, j < N → (setT LL i k b j).length = M := fun j hj => by
  unfold setT
  by_cases e : j = i
  · subst e
    rw [if_pos rfl, List.length_set]; exact hl j hj
  · rw [if_neg e]; exact hl j hj
theorem factB_lt {L : List Bool} {y : Nat} (h : factB L y = true) : y < L.length := by
  refine Classical.byContradiction fun h' => ?_
  unfold factB at h
  rw [List.getD, List.getElem?_eq_none (by omega)] at h
  simp at h
/-- a row of a table while another is added to it -/
structure OrI (N M : Nat) (LL1 : Nat → List Bool) (x : Nat) (f : Nat → Bool) (t : Nat) (LL : Nat → List Bool) : Prop where
  len : ∀ j, j < N → (LL j).length = M
  up : ∀ y u, y < N → factB (LL1 y) u = true → factB (LL y) u = true
  new : ∀ y u, y < N → factB (LL y) u = true → factB (LL1 y) u = true ∨ (y = x ∧ f u = true)
  done : ∀ u, u < t → f u = true → factB (LL x) u = true
theorem OrI.start {N M : Nat} {LL1 : Nat → List Bool} (hl : ∀ j, j < N → (LL1 j).length = M) (x : Nat) (f : Nat → Bool) : OrI N M LL1 x f 0 LL1 := ⟨hl, fun _ _ _ h => h, fun _ _ _ h => .inl h, fun u hu => by omega⟩
theorem OrI.step {N M : Nat} {LL1 LL : Nat → List Bool} {x : Nat} {f : Nat → Bool} {t : Nat} (h : OrI N M LL1 x f t LL) (hx : x < N) (ht : t < M) : OrI N M LL1 x f (t + 1) (setT LL x t (factB (LL x) t || f t)) := by
  have hs := setT_fact (h.len x hx) ht (factB (LL x) t || f t)
  have hup : ∀ y u, factB (LL y) u = true → factB (setT LL x t (factB (LL x) t || f t) y) u = true := fun y u hf => by
    rw [hs]
    by_cases e : y = x ∧ u = t
    · rw [if_pos e]
      rw [e.1, e.2] at hf
      rw [hf]; rfl
    · rw [if_neg e]; exact hf
  refine ⟨setT_len h.len _, fun y u hy hf => hup y u (h.up y u hy hf), fun y u hy hf => ?_, fun u hu hf => ?_⟩
  · rw [hs] at hf
    by_cases e : y = x ∧ u = t
    · rw [if_pos e, Bool.or_eq_true] at hf
      rw [e.1, e.2]
      rcases hf with hf | hf
      · exact h.new x t hx hf
      · exact .inr ⟨rfl, hf⟩
    · rw [if_neg e] at hf; exact h.new y u hy hf
  · by_cases e : u = t
    · rw [hs, if_pos ⟨rfl, e⟩, ← e, hf, Bool.or_true]
    · exact hup x u (h.done u (by omega) hf)
theorem OrI.own {N M : Nat} {LL1 LL : Nat → List Bool} {x m : Nat} {t : Nat} (h : OrI N M LL1 x (factB (LL1 m)) t LL) (hm : m < N) (u : Nat) : factB (LL m) u = factB (LL1 m) u := by
  rw [Bool.eq_iff_iff]
  constructor
  · intro hf
    rcases h.new m u hm hf with h1 | ⟨_, h1⟩
    · exact h1
    · exact h1
  · exact h.up m u hm

/-- how names begin: on the way -/
def fstE (N : Nat) (ps : List PdR) (n t : Nat) : Prop := ∃ h, toP (fsR N ps) (fsB N ps) h n t
structure FtI (N T : Nat) (ps : List PdR) (rr i : Nat) (LL : Nat → List Bool) : Prop where
  len : ∀ j, j < N → (LL j).length = T
  sound : ∀ x t, x < N → factB (LL x) t = true → fstE N ps x t
  have_ : ∀ x t, x < N → toP (fsR N ps) (fsB N ps) rr x t → factB (LL x) t = true
  done : ∀ q k x t, q < i → q < ps.length → x < N → keepP N ps (ps.getD q noPd) = true → (ps.getD q noPd).left = (x : Int) → AtP (hgtB false (prsS ps) N) (ps.getD q noPd).right k → brgP (toP (fsR N ps) (fsB N ps) rr) ((ps.getD q noPd).right.getD k 0) t → factB (LL x) t = true
theorem FtI.start (N T : Nat) (ps : List PdR) : FtI N T ps 0 0 (fun _ => List.replicate T false) :=
  ⟨fun j _ => by simp, fun x t _ h => (by rw [factB_none] at h; cases h), fun x t _ h => h.elim, fun q k x t hq => by omega⟩
theorem FtI.next {N T : Nat} {ps : List PdR} {rr : Nat} {LL : Nat → List Bool} (h : FtI N T ps rr ps.length LL) : FtI N T ps (rr + 1) 0 LL := by
  refine ⟨h.len, h.sound, fun x t hx hh => ?_, fun q k x t hq => by omega⟩
  rcases hh with ⟨q, hq, hk, hl, k, ha, hb⟩ | ⟨m, ⟨q, hq, hk, hl, k, ha, hb⟩, hm⟩
  · exact h.done q k x t hq hq hx hk hl ha (.inl hb)
  · exact h.done q k x t hq hq hx hk hl ha (.inr ⟨m, hb, hm⟩)
theorem FtI.skip {N T : Nat} {ps : List PdR} {rr i : Nat} {LL : Nat → List Bool} (h : FtI N T ps rr i LL) (hk : keepP N ps (ps.getD i noPd) = false) : FtI N T ps rr (i + 1) LL := by
  refine ⟨h.len, h.sound, h.have_, fun q k x t hq hq2 hxN hkp => ?_⟩
  by_cases e : q = i
  · subst e; rw [hk] at hkp; cases hkp
  · exact h.done q k x t (by omega) hq2 hxN hkp
theorem FtI.final {N T : Nat} {ps : List PdR} {LL : Nat → List Bool} (hG : GOkM N ps) (h : FtI N T ps N 0 LL) : ∀ x t, x < N → (factB (LL x) t = true ↔ fstP N ps x t) := fun x t hx =>
  ⟨fun hf => (fst_iff hG x t hx).2 (h.sound x t hx hf), fun hf => h.have_ x t hx hf⟩
/-- within a production -/
structure FkI (N T : Nat) (ps : List PdR) (rr i x : Nat) (LL0 : Nat → List Bool) (k : Nat) (LL : Nat → List Bool) : Prop where
  len : ∀ j, j < N → (LL j).length = T
  sound : ∀ y t, y < N → factB (LL y) t = true → fstE N ps y t
  up : ∀ y t, y < N → factB (LL0 y) t = true → factB (LL y) t = true
  done : ∀ k' t, k' < k → AtP (hgtB false (prsS ps) N) (ps.getD i noPd).right k' → brgP (toP (fsR N ps) (fsB N ps) rr) ((ps.getD i noPd).right.getD k' 0) t → factB (LL x) t = true
theorem FkI.start {N T : Nat} {ps : List PdR} {rr i : Nat} {LL : Nat → List Bool} (h : FtI N T ps rr i LL) (x : Nat) : FkI N T ps rr i x LL 0 LL := ⟨h.len, h.sound, fun _ _ _ h => h, fun k' t hk => by omega⟩
theorem FkI.fin {N T : Nat} {ps : List PdR} {rr i x k : Nat} {LL0 LL : Nat → List Bool} (h : FkI N T ps rr i x LL0 k LL) (h0 : FtI N T ps rr i LL0) (hN : x < N) (hx : (ps.getD i noPd).left = (x : Int)) (hend : keepP N ps (ps.getD i noPd) = true → ∀ k', k ≤ k' → ¬ AtP (hgtB false (prsS ps) N) (ps.getD i noPd).right k') : FtI N T ps rr (i + 1) LL := by
  refine ⟨h.len, h.sound, fun y t hy hh => h.up y t hy (h0.have_ y t hy hh), fun q k' y t hq hq2 hyN hkp hl ha hb => ?_⟩
  by_cases e : q = i
  · subst e
    obtain rfl : y = x := by omega
    by_cases hk : k' < k
    · exact h.done k' t hk ha hb
    · exact absurd ha (hend hkp k' (by omega))
  · exact h.up y t hyN (h0.done q k' y t (by omega) hq2 hyN hkp hl ha hb)
theorem atP_stop {e : Nat → Bool} {r : List Int} {k : Nat} (h : hasB false e (r.take k) = false) : ∀ k', k ≤ k' → ¬ AtP e r k' := fun k' hk ha => by
  have := hasB_take_le hk ha.2
  rw [h] at this; cases this
theorem take_name {e : Nat → Bool} {r : List Int} {k : Nat} (hk : k < r.length) : hasB false e (r.take (k + 1)) = (hasB false e (r.take k) && (if r.getD k 0 < 0 then e (-1 - r.getD k 0).toNat else false)) := by
  rw [List.take_succ_eq_append_getElem hk]
  unfold hasB
  rw [List.all_append]
  simp [List.getD, hk]
/-- a terminal -/
theorem FkI.term {N T : Nat} {ps : List PdR} {rr i x k s : Nat} {LL0 LL : Nat → List Bool} (h : FkI N T ps rr i x LL0 k LL) (hi : i < ps.length) (hkp : keepP N ps (ps.getD i noPd) = true) (hN : x < N) (hx : (ps.getD i noPd).left = (x : Int)) (ha : AtP (hgtB false (prsS ps) N) (ps.getD i noPd).right k) (hs : (ps.getD i noPd).right.getD k 0 = (s : Int)) (hsT : s < T) : FkI N T ps rr i x LL0 (k + 1) (setT LL x s true) := by
  have hf := setT_fact (h.len x hN) hsT true
  have hup : ∀ y u, factB (LL y) u = true → factB (setT LL x s true y) u = true := fun y u hfu => by
    rw [hf]
    by_cases e : y = x ∧ u = s
    · rw [if_pos e]
    · rw [if_neg e]; exact hfu
  refine ⟨setT_len h.len _, fun y t hy hft => ?_, fun y t hy hft => hup y t (h.up y t hy hft), fun k' t hk' ha' hb => ?_⟩
  · rw [hf] at hft
    by_cases e : y = x ∧ t = s
    · rw [e.1, e.2]
      exact ⟨1, .inl ⟨i, hi, hkp, hx, k, ha, hs⟩⟩
    · rw [if_neg e] at hft; exact h.sound y t hy hft
  · by_cases e : k' = k
    · subst e
      rcases hb with hb | ⟨m, h1, _⟩
      · have : t = s := by omega
        rw [hf, if_pos ⟨rfl, this⟩]
      · omega
    · exact hup x t (h.done k' t (by omega) ha' hb)
/-- a name -/
theorem FkI.name {N T : Nat} {ps : List PdR} {rr i x k m : Nat} {LL0 LL LL' : Nat → List Bool} (h : FkI N T ps rr i x LL0 k LL) (h0 : FtI N T ps rr i LL0) (hi : i < ps.length) (hkp : keepP N ps (ps.getD i noPd) = true) (hN : x < N) (hm : m < N) (hx : (ps.getD i noPd).left = (x : Int)) (ha : AtP (hgtB false (prsS ps) N) (ps.getD i noPd).right k) (hs : -1 - (ps.getD i noPd).right.getD k 0 = (m : Int)) (ho : OrI N T LL x (factB (LL m)) T LL') : FkI N T ps rr i x LL0 (k + 1) LL' := by
  refine ⟨ho.len, fun y t hy hf => ?_, fun y t hy hf => ho.up y t hy (h.up y t hy hf), fun k' t hk' ha' hb => ?_⟩
  · rcases ho.new y t hy hf with h1 | ⟨rfl, h1⟩
    · exact h.sound y t hy h1
    · obtain ⟨u, hu⟩ := h.sound m t hm h1
      exact ⟨u + 1, .inr ⟨m, ⟨i, hi, hkp, hx, k, ha, hs⟩, hu⟩⟩
  · by_cases e : k' = k
    · subst e
      rcases hb with hb | ⟨q, h1, h2⟩
      · omega
      · obtain rfl : q = m := by omega
        have h3 := h.up q t hm (h0.have_ q t hm h2)
        exact ho.done t (by have := factB_lt h3; rw [h.len q hm] at this; exact this) h3
    · exact ho.up x t hN (h.done k' t (by omega) ha' hb)

end Go.Proofs.YtmkimaceioacgaaDoor

namespace Go.Proofs.YtmkimaceioacgaaDoor
set_option linter.unusedVariables false

/-- what stands behind a place of a production -/
def bhP (N : Nat) (ps : List PdR) (r : List Int) (k t : Nat) : Prop := ∃ j, AtP (hgtB false (prsS ps) N) (r.drop (k + 1)) j ∧ brgP (fstP N ps) ((r.drop (k + 1)).getD j 0) t
def opP (N : Nat) (ps : List PdR) (r : List Int) (k : Nat) : Prop := hasB false (hgtB false (prsS ps) N) (r.drop (k + 1)) = true
/-- what 'follow' has done -/
structure FoP (N T : Nat) (ps : List PdR) (r : List Int) (k n lf : Nat) (LL LL' : Nat → List Bool) : Prop where
  len : ∀ j, j < N → (LL' j).length = T + 1
  up : ∀ y t, y < N → factB (LL y) t = true → factB (LL' y) t = true
  new : ∀ y t, y < N → factB (LL' y) t = true → factB (LL y) t = true ∨ (y = n ∧ (bhP N ps r k t ∨ (opP N ps r k ∧ factB (LL lf) t = true)))
  have1 : ∀ t, bhP N ps r k t → factB (LL' n) t = true
  have2 : opP N ps r k → ∀ t, factB (LL lf) t = true → factB (LL' n) t = true
/-- on its way -/
structure FoI (N T : Nat) (ps : List PdR) (r : List Int) (k n : Nat) (LL : Nat → List Bool) (u : Nat) (LL' : Nat → List Bool) : Prop where
  len : ∀ j, j < N → (LL' j).length = T + 1
  up : ∀ y t, y < N → factB (LL y) t = true → factB (LL' y) t = true
  new : ∀ y t, y < N → factB (LL' y) t = true → factB (LL y) t = true ∨ (y = n ∧ bhP N ps r k t)
  done : ∀ u' t, u' < u → AtP (hgtB false (prsS ps) N) (r.drop (k + 1)) u' → brgP (fstP N ps) ((r.drop (k + 1)).getD u' 0) t → factB (LL' n) t = true
theorem FoI.start {N T : Nat} {ps : List PdR} {r : List Int} {k n : Nat} {LL : Nat → List Bool} (h : ∀ j, j < N → (LL j).length = T + 1) : FoI N T ps r k n LL 0 LL := ⟨h, fun _ _ _ h => h, fun _ _ _ h => .inl h, fun u' t hu => by omega⟩
/-- ended ahead of the row's end -/
theorem FoI.stop {N T : Nat} {ps : List PdR} {r : List Int} {k n lf u : Nat} {LL LL' : Nat → List Bool} (h : FoI N T ps r k n LL u LL') (hs : hasB false (hgtB false (prsS ps) N) ((r.drop (k + 1)).take u) = false) : FoP N T ps r k n lf LL LL' := by
  have hno : ¬ opP N ps r k := fun ho => by
    have h1 : hasB false (hgtB false (prsS ps) N) ((r.drop (k + 1)).take (r.drop (k + 1)).length) = true := by rw [List.take_length]; exact ho
    by_cases hu : u ≤ (r.drop (k + 1)).length
    · have := hasB_take_le hu h1
      rw [hs] at this; cases this
    · rw [List.take_of_length_le (by omega)] at hs
      rw [List.take_length, hs] at h1; cases h1
  refine ⟨h.len, h.up, fun y t hy hf => (h.new y t hy hf).imp id fun ⟨e, hb⟩ => ⟨e, .inl hb⟩, fun t ⟨j, ha, hb⟩ => ?_, fun ho => absurd ho hno⟩
  by_cases hj : j < u
  · exact h.done j t hj ha hb
  · exact absurd ha (atP_stop hs j (by omega))
/-- at the row's end -/
theorem FoI.all {N T : Nat} {ps : List PdR} {r : List Int} {k n lf u : Nat} {LL LL' LL'' : Nat → List Bool} (h : FoI N T ps r k n LL u LL') (hu : (r.drop (k + 1)).length ≤ u) (hop : hasB false (hgtB false (prsS ps) N) ((r.drop (k + 1)).take u) = true) (hn : n < N) (hlf : lf < N) (ho : OrI N (T + 1) LL' n (factB (LL' lf)) (T + 1) LL'') : FoP N T ps r k n lf LL LL'' := by
  have hop2 : opP N ps r k := by
    rw [List.take_of_length_le hu] at hop
    exact hop
  refine ⟨ho.len, fun y t hy hf => ho.up y t hy (h.up y t hy hf), fun y t hy hf => ?_, fun t ⟨j, ha, hb⟩ => ?_, fun _ t hf => ?_⟩
  · rcases ho.new y t hy hf with h1 | ⟨rfl, h1⟩
    · exact (h.new y t hy h1).imp id fun ⟨e, hb⟩ => ⟨e, .inl hb⟩
    · rcases h.new lf t hlf h1 with h2 | ⟨e, h2⟩
      · exact .inr ⟨rfl, .inr ⟨hop2, h2⟩⟩
      · exact .inr ⟨rfl, .inl h2⟩
  · exact ho.up n t hn (h.done j t (by have := ha.1; omega) ha hb)
  · have h1 := h.up lf t hlf hf
    have h2 := factB_lt h1
    rw [h.len lf hlf] at h2
    exact ho.done t h2 h1
theorem FoI.term {N T : Nat} {ps : List PdR} {r : List Int} {k n u s : Nat} {LL LL' : Nat → List Bool} (h : FoI N T ps r k n LL u LL') (hn : n < N) (ha : AtP (hgtB false (prsS ps) N) (r.drop (k + 1)) u) (hs : (r.drop (k + 1)).getD u 0 = (s : Int)) (hsT : s < T) : FoI N T ps r k n LL (u + 1) (setT LL' n s true) := by
  have hf := setT_fact (h.len n hn) (show s < T + 1 by omega) true
  have hup : ∀ y v, factB (LL' y) v = true → factB (setT LL' n s true y) v = true := fun y v hfu => by
    rw [hf]
    by_cases e : y = n ∧ v = s
    · rw [if_pos e]
    · rw [if_neg e]; exact hfu
  refine ⟨setT_len h.len _, fun y t hy hft => hup y t (h.up y t hy hft), fun y t hy hft => ?_, fun u' t hu' ha' hb => ?_⟩
  · rw [hf] at hft
    by_cases e : y = n ∧ t = s
    · exact .inr ⟨e.1, u, ha, .inl (by rw [e.2]; exact hs)⟩
    · rw [if_neg e] at hft; exact h.new y t hy hft
  · by_cases e : u' = u
    · subst e
      rcases hb with hb | ⟨m, h1, _⟩
      · have : t = s := by omega
        rw [hf, if_pos ⟨rfl, this⟩]
      · omega
    · exact hup n t (h.done u' t (by omega) ha' hb)
theorem FoI.name {N T : Nat} {ps : List PdR} {r : List Int} {k n u m : Nat} {LL LL' LL'' FF : Nat → List Bool} (h : FoI N T ps r k n LL u LL') (hn : n < N) (hFF : ∀ t, factB (FF m) t = true ↔ fstP N ps m t) (hFl : (FF m).length = T) (ha : AtP (hgtB false (prsS ps) N) (r.drop (k + 1)) u) (hs : -1 - (r.drop (k + 1)).getD u 0 = (m : Int)) (ho : OrI N (T + 1) LL' n (factB (FF m)) T LL'') : FoI N T ps r k n LL (u + 1) LL'' := by
  refine ⟨ho.len, fun y t hy hf => ho.up y t hy (h.up y t hy hf), fun y t hy hf => ?_, fun u' t hu' ha' hb => ?_⟩
  · rcases ho.new y t hy hf with h1 | ⟨rfl, h1⟩
    · exact h.new y t hy h1
    · exact .inr ⟨rfl, u, ha, .inr ⟨m, hs, (hFF t).1 h1⟩⟩
  · by_cases e : u' = u
    · subst e
      rcases hb with hb | ⟨q, h1, h2⟩
      · omega
      · obtain rfl : q = m := by omega
        have h3 := (hFF t).2 h2
        exact ho.done t (by have := factB_lt h3; omega) h3
    · exact ho.up n t hn (h.done u' t (by omega) ha' hb)

/-- what follows, in the end -/
def flwE (N T : Nat) (ps : List PdR) (s : Int) (n t : Nat) : Prop := ∃ h, toP (fwR N ps s) (fwB N T ps s) h n t
/-- a place has been done -/
def plcP (N T : Nat) (ps : List PdR) (s : Int) (rr : Nat) (LL : Nat → List Bool) (q k : Nat) : Prop := ∀ n : Nat, -1 - (ps.getD q noPd).right.getD k 0 = (n : Int) → (∀ t, bhP N ps (ps.getD q noPd).right k t → factB (LL n) t = true) ∧ (opP N ps (ps.getD q noPd).right k → ∀ (x t : Nat), (ps.getD q noPd).left = (x : Int) → toP (fwR N ps s) (fwB N T ps s) rr x t → factB (LL n) t = true)
theorem plcP.up {N T : Nat} {ps : List PdR} {s : Int} {rr : Nat} {LL LL' : Nat → List Bool} {q k : Nat} (h : plcP N T ps s rr LL q k) (hn : ∀ n : Nat, -1 - (ps.getD q noPd).right.getD k 0 = (n : Int) → n < N) (hup : ∀ y t, y < N → factB (LL y) t = true → factB (LL' y) t = true) : plcP N T ps s rr LL' q k := fun n e => ⟨fun t hb => hup n t (hn n e) ((h n e).1 t hb), fun ho x t hx ht => hup n t (hn n e) ((h n e).2 ho x t hx ht)⟩
structure FwI (N T : Nat) (ps : List PdR) (s : Nat) (rr i k : Nat) (LL : Nat → List Bool) : Prop where
  len : ∀ j, j < N → (LL j).length = T + 1
  sound : ∀ x t, x < N → factB (LL x) t = true → flwE N T ps s x t
  have_ : ∀ x t, x < N → toP (fwR N ps s) (fwB N T ps s) rr x t → factB (LL x) t = true
  init : hgtB true (prsS ps) N s = true → factB (LL s) T = true
  done : ∀ q k', q < i → q < ps.length → usdP N ps s q → k' < (ps.getD q noPd).right.length → plcP N T ps s rr LL q k'
  part : ∀ k', k' < k → usdP N ps s i → k' < (ps.getD i noPd).right.length → plcP N T ps s rr LL i k'
theorem FwI.start {N T : Nat} {ps : List PdR} {s : Nat} (hs : s < N) : FwI N T ps s 0 0 0 (setT (fun _ => List.replicate (T + 1) false) s T (hgtB true (prsS ps) N s)) := by
  have hf := setT_fact (LL := fun _ => List.replicate (T + 1) false) (i := s) (k := T) (m := T + 1) (by simp) (by omega) (hgtB true (prsS ps) N s)
  refine ⟨setT_len (fun j _ => by simp) _, fun x t hx hft => ?_, fun x t _ h => h.elim, fun hl => ?_, fun q k' hq => by omega, fun k' hk => by omega⟩
  · rw [hf] at hft
    by_cases e : x = s ∧ t = T
    · rw [if_pos e] at hft
      exact ⟨1, .inl (.inl ⟨by rw [e.1], e.2, by rw [e.1]; exact hft⟩)⟩
    · rw [if_neg e, factB_none] at hft; cases hft
  · rw [hf, if_pos ⟨rfl, rfl⟩]; exact hl
theorem FwI.next {N T : Nat} {ps : List PdR} {s : Nat} {rr : Nat} {LL : Nat → List Bool} (h : FwI N T ps s rr ps.length 0 LL) : FwI N T ps s (rr + 1) 0 0 LL := by
  refine ⟨h.len, h.sound, fun x t hx hh => ?_, h.init, fun q k' hq => by omega, fun k' hk => by omega⟩
  rcases hh with (⟨e1, e2, e3⟩ | ⟨q, hq, hu, k, hk, hn, hb⟩) | ⟨m, ⟨q, hq, hu, hl, k, hk, hn, ho⟩, hm⟩
  · obtain rfl : x = s := by omega
    rw [e2]; exact h.init e3
  · exact (h.done q k hq hq hu hk x hn).1 t hb
  · exact (h.done q k hq hq hu hk x hn).2 ho m t hl hm
theorem FwI.nextP {N T : Nat} {ps : List PdR} {s : Nat} {rr i k : Nat} {LL : Nat → List Bool} (h : FwI N T ps s rr i k LL) (hk : usdP N ps s i → (ps.getD i noPd).right.length ≤ k) : FwI N T ps s rr (i + 1) 0 LL :=
  ⟨h.len, h.sound, h.have_, h.init, fun q k' hq hq2 hu hk' => by
    by_cases e : q = i
    · subst e; exact h.part k' (by have := hk hu; omega) hu hk'
    · exact h.done q k' (by omega) hq2 hu hk', fun k' hk => by omega⟩
theorem FwI.nextK {N T : Nat} {ps : List PdR} {s : Nat} {rr i k : Nat} {LL : Nat → List Bool} (h : FwI N T ps s rr i k LL) (hk : ¬ (ps.getD i noPd).right.getD k 0 < 0) : FwI N T ps s rr i (k + 1) LL :=
  ⟨h.len, h.sound, h.have_, h.init, h.done, fun k' hk' hu hl => by
    by_cases e : k' = k
    · subst e; intro n hn; omega
    · exact h.part k' (by omega) hu hl⟩
theorem FwI.name {N T : Nat} {ps : List PdR} {s : Nat} {rr i k n lf : Nat} {LL LL' : Nat → List Bool} (hG : GOkM N ps) (h : FwI N T ps s rr i k LL) (hi : i < ps.length) (hk : k < (ps.getD i noPd).right.length) (hu : usdP N ps s i) (hsN : s < N) (hn : -1 - (ps.getD i noPd).right.getD k 0 = (n : Int)) (hnN : n < N) (hlf : (ps.getD i noPd).left = (lf : Int)) (hlN : lf < N) (ho : FoP N T ps (ps.getD i noPd).right k n lf LL LL') : FwI N T ps s rr i (k + 1) LL' := by
  have hnn : ∀ q, q < ps.length → ∀ k', k' < (ps.getD q noPd).right.length → ∀ n : Nat, -1 - (ps.getD q noPd).right.getD k' 0 = (n : Int) → n < N := fun q hq k' hk' n e => by
    have := (hG.pd q hq).1.2.2.2 k' hk'
    omega
  refine ⟨ho.len, fun x t hx hf => ?_, fun x t hx hh => ho.up x t hx (h.have_ x t hx hh), fun hl => ho.up s T hsN (h.init hl), fun q k' hq hq2 hu' hk' => (h.done q k' hq hq2 hu' hk').up (hnn q hq2 k' hk') ho.up, fun k' hk' hu' hl' => ?_⟩
  · rcases ho.new x t hx hf with h1 | ⟨rfl, h1 | ⟨h1, h2⟩⟩
    · exact h.sound x t hx h1
    · exact ⟨1, .inl (.inr ⟨i, hi, hu, k, hk, hn, h1⟩)⟩
    · obtain ⟨v, hv⟩ := h.sound lf t hlN h2
      exact ⟨v + 1, .inr ⟨lf, ⟨i, hi, hu, hlf, k, hk, hn, h1⟩, hv⟩⟩
  · by_cases e : k' = k
    · subst e
      intro n' hn'
      obtain rfl : n' = n := by omega
      refine ⟨ho.have1, fun hop x t hx ht => ?_⟩
      obtain rfl : x = lf := by omega
      exact ho.have2 hop t (h.have_ x t hlN ht)
    · exact (h.part k' (by omega) hu' hl').up (hnn i hi k' hl') ho.up
theorem FwI.final {N T : Nat} {ps : List PdR} {s : Nat} {LL : Nat → List Bool} (hG : GOkM N ps) (h : FwI N T ps s (N + 1) 0 0 LL) : ∀ x t, x < N → (factB (LL x) t = true ↔ flwP N T ps s x t) := fun x t hx =>
  ⟨fun hf => (flw_iff hG s x t hx).2 (h.sound x t hx hf), fun hf => h.have_ x t hx (toP_le (Nat.le_succ N) x t hf)⟩

end Go.Proofs.YtmkimaceioacgaaDoor
