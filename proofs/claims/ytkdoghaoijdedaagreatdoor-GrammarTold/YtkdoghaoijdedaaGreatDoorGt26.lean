/- Texts of the proof, put together: GFwP, GOpn. -/
import Derived.Test.YtkdoghaoijdedaaGreatDoorGt25
import Derived.Test.YtkdoghaoijdedaaGreatDoorGt21
import Derived.Test.YtkdoghaoijdedaaGreatDoorGt09
namespace Go.Proofs.YtkdoghaoijdedaaGreatDoor
set_option linter.unusedVariables false

/-- what stands behind a place of a production -/
def bhP (N : Nat) (ps : List PdR) (r : List Int) (k t : Nat) : Prop := ∃ j, AtP (hgtB false (prsS ps) N) (r.drop (k + 1)) j ∧ brgP (fstP N ps) ((r.drop (k + 1)).getD j 0) t
def opP (N : Nat) (ps : List PdR) (r : List Int) (k : Nat) : Prop := hasB false (hgtB false (prsS ps) N) (r.drop (k + 1)) = true
/-- what 'follow' has done -/
structure FoP (N T : Nat) (ps : List PdR) (r : List Int) (k n lf : Nat) (LL LL' : Nat → List Bool) : Prop where
  len : ∀ j, j < N → (LL' j).length = T + 1
  up : ∀ y t, y < N → factB (LL y) t = true → factB (LL' y) t = true
  new : ∀ y t, y < N → factB (LL' y) t = true → factB (LL y) t = true ∨ (y = n ∧ (bhP N ps r k t ∨ (opP N ps r k ∧ factB (LL lf) t = true)))
  have1 : ∀ t, bhP N ps r k t → factB (LL' n) t = true
  have2 : opP N ps r k → ∀ t, factB (LL lf) t = true → factB (LL' n) t = true
/-- on its way -/
structure FoI (N T : Nat) (ps : List PdR) (r : List Int) (k n : Nat) (LL : Nat → List Bool) (u : Nat) (LL' : Nat → List Bool) : Prop where
  len : ∀ j, j < N → (LL' j).length = T + 1
  up : ∀ y t, y < N → factB (LL y) t = true → factB (LL' y) t = true
  new : ∀ y t, y < N → factB (LL' y) t = true → factB (LL y) t = true ∨ (y = n ∧ bhP N ps r k t)
  done : ∀ u' t, u' < u → AtP (hgtB false (prsS ps) N) (r.drop (k + 1)) u' → brgP (fstP N ps) ((r.drop (k + 1)).getD u' 0) t → factB (LL' n) t = true
theorem FoI.start {N T : Nat} {ps : List PdR} {r : List Int} {k n : Nat} {LL : Nat → List Bool} (h : ∀ j, j < N → (LL j).length = T + 1) : FoI N T ps r k n LL 0 LL := ⟨h, fun _ _ _ h => h, fun _ _ _ h => .inl h, fun u' t hu => by omega⟩
/-- ended ahead of the row's end -/
theorem FoI.stop {N T : Nat} {ps : List PdR} {r : List Int} {k n lf u : Nat} {LL LL' : Nat → List Bool} (h : FoI N T ps r k n LL u LL') (hs : hasB false (hgtB false (prsS ps) N) ((r.drop (k + 1)).take u) = false) : FoP N T ps r k n lf LL LL' := by
  have hno : ¬ opP N ps r k := fun ho => by
    have h1 : hasB false (hgtB false (prsS ps) N) ((r.drop (k + 1)).take (r.drop (k + 1)).length) = true := by rw [List.take_length]; exact ho
    by_cases hu : u ≤ (r.drop (k + 1)).length
    · have := hasB_take_le hu h1
      rw [hs] at this; cases this
    · rw [List.take_of_length_le (by omega)] at hs
      rw [List.take_length, hs] at h1; cases h1
  refine ⟨h.len, h.up, fun y t hy hf => (h.new y t hy hf).imp id fun ⟨e, hb⟩ => ⟨e, .inl hb⟩, fun t ⟨j, ha, hb⟩ => ?_, fun ho => absurd ho hno⟩
  by_cases hj : j < u
  · exact h.done j t hj ha hb
  · exact absurd ha (atP_stop hs j (by omega))
/-- at the row's end -/
theorem FoI.all {N T : Nat} {ps : List PdR} {r : List Int} {k n lf u : Nat} {LL LL' LL'' : Nat → List Bool} (h : FoI N T ps r k n LL u LL') (hu : (r.drop (k + 1)).length ≤ u) (hop : hasB false (hgtB false (prsS ps) N) ((r.drop (k + 1)).take u) = true) (hn : n < N) (hlf : lf < N) (ho : OrI N (T + 1) LL' n (factB (LL' lf)) (T + 1) LL'') : FoP N T ps r k n lf LL LL'' := by
  have hop2 : opP N ps r k := by
    rw [List.take_of_length_le hu] at hop
    exact hop
  refine ⟨ho.len, fun y t hy hf => ho.up y t hy (h.up y t hy hf), fun y t hy hf => ?_, fun t ⟨j, ha, hb⟩ => ?_, fun _ t hf => ?_⟩
  · rcases ho.new y t hy hf with h1 | ⟨rfl, h1⟩
    · exact (h.new y t hy h1).imp id fun ⟨e, hb⟩ => ⟨e, .inl hb⟩
    · rcases h.new lf t hlf h1 with h2 | ⟨e, h2⟩
      · exact .inr ⟨rfl, .inr ⟨hop2, h2⟩⟩
      · exact .inr ⟨rfl, .inl h2⟩
  · exact ho.up n t hn (h.done j t (by have := ha.1; omega) ha hb)
  · have h1 := h.up lf t hlf hf
    have h2 := factB_lt h1
    rw [h.len lf hlf] at h2
    exact ho.done t h2 h1
theorem FoI.term {N T : Nat} {ps : List PdR} {r : List Int} {k n u s : Nat} {LL LL' : Nat → List Bool} (h : FoI N T ps r k n LL u LL') (hn : n < N) (ha : AtP (hgtB false (prsS ps) N) (r.drop (k + 1)) u) (hs : (r.drop (k + 1)).getD u 0 = (s : Int)) (hsT : s < T) : FoI N T ps r k n LL (u + 1) (setT LL' n s true) := by
  have hf := setT_fact (h.len n hn) (show s < T + 1 by omega) true
  have hup : ∀ y v, factB (LL' y) v = true → factB (setT LL' n s true y) v = true := fun y v hfu => by
    rw [hf]
    by_cases e : y = n ∧ v = s
    · rw [if_pos e]
    · rw [if_neg e]; exact hfu
  refine ⟨setT_len h.len _, fun y t hy hft => hup y t (h.up y t hy hft), fun y t hy hft => ?_, fun u' t hu' ha' hb => ?_⟩
  · rw [hf] at hft
    by_cases e : y = n ∧ t = s
    · exact .inr ⟨e.1, u, ha, .inl (by rw [e.2]; exact hs)⟩
    · rw [if_neg e] at hft; exact h.new y t hy hft
  · by_cases e : u' = u
    · subst e
      rcases hb with hb | ⟨m, h1, _⟩
      · have : t = s := by omega
        rw [hf, if_pos ⟨rfl, this⟩]
      · omega
    · exact hup n t (h.done u' t (by omega) ha' hb)
theorem FoI.name {N T : Nat} {ps : List PdR} {r : List Int} {k n u m : Nat} {LL LL' LL'' FF : Nat → List Bool} (h : FoI N T ps r k n LL u LL') (hn : n < N) (hFF : ∀ t, factB (FF m) t = true ↔ fstP N ps m t) (hFl : (FF m).length = T) (ha : AtP (hgtB false (prsS ps) N) (r.drop (k + 1)) u) (hs : -1 - (r.drop (k + 1)).getD u 0 = (m : Int)) (ho : OrI N (T + 1) LL' n (factB (FF m)) T LL'') : FoI N T ps r k n LL (u + 1) LL'' := by
  refine ⟨ho.len, fun y t hy hf => ho.up y t hy (h.up y t hy hf), fun y t hy hf => ?_, fun u' t hu' ha' hb => ?_⟩
  · rcases ho.new y t hy hf with h1 | ⟨rfl, h1⟩
    · exact h.new y t hy h1
    · exact .inr ⟨rfl, u, ha, .inr ⟨m, hs, (hFF t).1 h1⟩⟩
  · by_cases e : u' = u
    · subst e
      rcases hb with hb | ⟨q, h1, h2⟩
      · omega
      · obtain rfl : q = m := by omega
        have h3 := (hFF t).2 h2
        exact ho.done t (by have := factB_lt h3; omega) h3
    · exact ho.up n t hn (h.done u' t (by omega) ha' hb)

/-- what follows, in the end -/
def flwE (N T : Nat) (ps : List PdR) (s : Int) (n t : Nat) : Prop := ∃ h, toP (fwR N ps s) (fwB N T ps s) h n t
/-- a place has been done -/
def plcP (N T : Nat) (ps : List PdR) (s : Int) (rr : Nat) (LL : Nat → List Bool) (q k : Nat) : Prop := ∀ n : Nat, -1 - (ps.getD q noPd).right.getD k 0 = (n : Int) → (∀ t, bhP N ps (ps.getD q noPd).right k t → factB (LL n) t = true) ∧ (opP N ps (ps.getD q noPd).right k → ∀ (x t : Nat), (ps.getD q noPd).left = (x : Int) → toP (fwR N ps s) (fwB N T ps s) rr x t → factB (LL n) t = true)
theorem plcP.up {N T : Nat} {ps : List PdR} {s : Int} {rr : Nat} {LL LL' : Nat → List Bool} {q k : Nat} (h : plcP N T ps s rr LL q k) (hn : ∀ n : Nat, -1 - (ps.getD q noPd).right.getD k 0 = (n : Int) → n < N) (hup : ∀ y t, y < N → factB (LL y) t = true → factB (LL' y) t = true) : plcP N T ps s rr LL' q k := fun n e => ⟨fun t hb => hup n t (hn n e) ((h n e).1 t hb), fun ho x t hx ht => hup n t (hn n e) ((h n e).2 ho x t hx ht)⟩
structure FwI (N T : Nat) (ps : List PdR) (s : Nat) (rr i k : Nat) (LL : Nat → List Bool) : Prop where
  len : ∀ j, j < N → (LL j).length = T + 1
  sound : ∀ x t, x < N → factB (LL x) t = true → flwE N T ps s x t
  have_ : ∀ x t, x < N → toP (fwR N ps s) (fwB N T ps s) rr x t → factB (LL x) t = true
  init : hgtB true (prsS ps) N s = true → factB (LL s) T = true
  done : ∀ q k', q < i → q < ps.length → usdP N ps s q → k' < (ps.getD q noPd).right.length → plcP N T ps s rr LL q k'
  part : ∀ k', k' < k → usdP N ps s i → k' < (ps.getD i noPd).right.length → plcP N T ps s rr LL i k'
theorem FwI.start {N T : Nat} {ps : List PdR} {s : Nat} (hs : s < N) : FwI N T ps s 0 0 0 (setT (fun _ => List.replicate (T + 1) false) s T (hgtB true (prsS ps) N s)) := by
  have hf := setT_fact (LL := fun _ => List.replicate (T + 1) false) (i := s) (k := T) (m := T + 1) (by simp) (by omega) (hgtB true (prsS ps) N s)
  refine ⟨setT_len (fun j _ => by simp) _, fun x t hx hft => ?_, fun x t _ h => h.elim, fun hl => ?_, fun q k' hq => by omega, fun k' hk => by omega⟩
  · rw [hf] at hft
    by_cases e : x = s ∧ t = T
    · rw [if_pos e] at hft
      exact ⟨1, .inl (.inl ⟨by rw [e.1], e.2, by rw [e.1]; exact hft⟩)⟩
    · rw [if_neg e, factB_none] at hft; cases hft
  · rw [hf, if_pos ⟨rfl, rfl⟩]; exact hl
theorem FwI.next {N T : Nat} {ps : List PdR} {s : Nat} {rr : Nat} {LL : Nat → List Bool} (h : FwI N T ps s rr ps.length 0 LL) : FwI N T ps s (rr + 1) 0 0 LL := by
  refine ⟨h.len, h.sound, fun x t hx hh => ?_, h.init, fun q k' hq => by omega, fun k' hk => by omega⟩
  rcases hh with (⟨e1, e2, e3⟩ | ⟨q, hq, hu, k, hk, hn, hb⟩) | ⟨m, ⟨q, hq, hu, hl, k, hk, hn, ho⟩, hm⟩
  · obtain rfl : x = s := by omega
    rw [e2]; exact h.init e3
  · exact (h.done q k hq hq hu hk x hn).1 t hb
  · exact (h.done q k hq hq hu hk x hn).2 ho m t hl hm
theorem FwI.nextP {N T : Nat} {ps : List PdR} {s : Nat} {rr i k : Nat} {LL : Nat → List Bool} (h : FwI N T ps s rr i k LL) (hk : usdP N ps s i → (ps.getD i noPd).right.length ≤ k) : FwI N T ps s rr (i + 1) 0 LL :=
  ⟨h.len, h.sound, h.have_, h.init, fun q k' hq hq2 hu hk' => by
    by_cases e : q = i
    · subst e; exact h.part k' (by have := hk hu; omega) hu hk'
    · exact h.done q k' (by omega) hq2 hu hk', fun k' hk => by omega⟩
theorem FwI.nextK {N T : Nat} {ps : List PdR} {s : Nat} {rr i k : Nat} {LL : Nat → List Bool} (h : FwI N T ps s rr i k LL) (hk : ¬ (ps.getD i noPd).right.getD k 0 < 0) : FwI N T ps s rr i (k + 1) LL :=
  ⟨h.len, h.sound, h.have_, h.init, h.done, fun k' hk' hu hl => by
    by_cases e : k' = k
    · subst e; intro n hn; omega
    · exact h.part k' (by omega) hu hl⟩
theorem FwI.name {N T : Nat} {ps : List PdR} {s : Nat} {rr i k n lf : Nat} {LL LL' : Nat → List Bool} (hG : GOkM N ps) (h : FwI N T ps s rr i k LL) (hi : i < ps.length) (hk : k < (ps.getD i noPd).right.length) (hu : usdP N ps s i) (hsN : s < N) (hn : -1 - (ps.getD i noPd).right.getD k 0 = (n : Int)) (hnN : n < N) (hlf : (ps.getD i noPd).left = (lf : Int)) (hlN : lf < N) (ho : FoP N T ps (ps.getD i noPd).right k n lf LL LL') : FwI N T ps s rr i (k + 1) LL' := by
  have hnn : ∀ q, q < ps.length → ∀ k', k' < (ps.getD q noPd).right.length → ∀ n : Nat, -1 - (ps.getD q noPd).right.getD k' 0 = (n : Int) → n < N := fun q hq k' hk' n e => by
    have := (hG.pd q hq).1.2.2.2 k' hk'
    omega
  refine ⟨ho.len, fun x t hx hf => ?_, fun x t hx hh => ho.up x t hx (h.have_ x t hx hh), fun hl => ho.up s T hsN (h.init hl), fun q k' hq hq2 hu' hk' => (h.done q k' hq hq2 hu' hk').up (hnn q hq2 k' hk') ho.up, fun k' hk' hu' hl' => ?_⟩
  · rcases ho.new x t hx hf with h1 | ⟨rfl, h1 | ⟨h1, h2⟩⟩
    · exact h.sound x t hx h1
    · exact ⟨1, .inl (.inr ⟨i, hi, hu, k, hk, hn, h1⟩)⟩
    · obtain ⟨v, hv⟩ := h.sound lf t hlN h2
      exact ⟨v + 1, .inr ⟨lf, ⟨i, hi, hu, hlf, k, hk, hn, h1⟩, hv⟩⟩
  · by_cases e : k' = k
    · subst e
      intro n' hn'
      obtain rfl : n' = n := by omega
      refine ⟨ho.have1, fun hop x t hx ht => ?_⟩
      obtain rfl : x = lf := by omega
      exact ho.have2 hop t (h.have_ x t hlN ht)
    · exact (h.part k' (by omega) hu' hl').up (hnn i hi k' hl') ho.up
theorem FwI.final {N T : Nat} {ps : List PdR} {s : Nat} {LL : Nat → List Bool} (hG : GOkM N ps) (h : FwI N T ps s (N + 1) 0 0 LL) : ∀ x t, x < N → (factB (LL x) t = true ↔ flwP N T ps s x t) := fun x t hx =>
  ⟨fun hf => (flw_iff hG s x t hx).2 (h.sound x t hx hf), fun hf => h.have_ x t hx (toP_le (Nat.le_succ N) x t hf)⟩

end Go.Proofs.YtkdoghaoijdedaaGreatDoor

namespace Go.Proofs.YtkdoghaoijdedaaGreatDoor
open Go.RowKit
set_option linter.unusedVariables false
set_option maxRecDepth 100000

def opA (m : Nat) (b : Bool) : Array Value := #[.int .u64 m, .int .u64 0, .int .u64 0, .int .u64 0, .int .u64 0, .bool b]
def opV (m : Nat) (b : Bool) : Value := .agg (opA m b)
/-- one in a variable -/
def BoxO (w : World) (B m : Nat) (b : Bool) : Prop := w.heap[B]? = some (.cells (opA m b) 71 (0, 0))
theorem BoxO.lt {w : World} {B m : Nat} {b : Bool} (h : BoxO w B m b) : B < w.heap.size := (Array.getElem?_eq_some_iff.1 h).1
theorem BoxO.c0 {w : World} {B m : Nat} {b : Bool} (h : BoxO w B m b) : w.cell? ⟨B, 0, none⟩ = some (.int .u64 m) := by unfold BoxO at h; simp only [World.cell?, h]; rfl
theorem BoxO.c1 {w : World} {B m : Nat} {b : Bool} (h : BoxO w B m b) : w.cell? ⟨B, 1, none⟩ = some (.int .u64 0) := by unfold BoxO at h; simp only [World.cell?, h]; rfl
theorem BoxO.c2 {w : World} {B m : Nat} {b : Bool} (h : BoxO w B m b) : w.cell? ⟨B, 2, none⟩ = some (.int .u64 0) := by unfold BoxO at h; simp only [World.cell?, h]; rfl
theorem BoxO.c3 {w : World} {B m : Nat} {b : Bool} (h : BoxO w B m b) : w.cell? ⟨B, 3, none⟩ = some (.int .u64 0) := by unfold BoxO at h; simp only [World.cell?, h]; rfl
theorem BoxO.c4 {w : World} {B m : Nat} {b : Bool} (h : BoxO w B m b) : w.cell? ⟨B, 4, none⟩ = some (.int .u64 0) := by unfold BoxO at h; simp only [World.cell?, h]; rfl
theorem BoxO.c5 {w : World} {B m : Nat} {b : Bool} (h : BoxO w B m b) : w.cell? ⟨B, 5, none⟩ = some (.bool b) := by unfold BoxO at h; simp only [World.cell?, h]; rfl
theorem BoxO.fz {w : World} {B m : Nat} {b : Bool} (h : BoxO w B m b) (j : Nat) : w.frozen? ⟨B, j, none⟩ = false := by unfold BoxO at h; simp [World.frozen?, h]
theorem BoxO.below {w w' : World} {B m : Nat} {b : Bool} (h : BoxO w B m b) {K : Nat} (hB : B < K) (hb : Below K w w') : BoxO w' B m b := (hb.block B hB).trans h
theorem BoxM.below {w w' : World} {B m : Nat} (h : BoxM w B m) {K : Nat} (hB : B < K) (hb : Below K w w') : BoxM w' B m := (hb.block B hB).trans h
/-- all six cells written -/
def fillP (w : World) (B m' : Nat) (b' : Bool) : World := (fillM w B m').setCell ⟨B, 5, none⟩ (.bool b')
theorem BoxO.fill {w : World} {B m : Nat} {b : Bool} (h : BoxO w B m b) (m' : Nat) (b' : Bool) : BoxO (fillP w B m' b') B m' b' := by
  unfold BoxO at *
  unfold fillP fillM
  rw [heap_setC _ _ _ _ _ _ (heap_setC _ _ _ _ _ _ (heap_setC _ _ _ _ _ _ (heap_setC _ _ _ _ _ _ (heap_setC _ _ _ _ _ _ (heap_setC _ _ _ _ _ _ h)))))]
  rfl
theorem fillP_below {K : Nat} {w w' : World} (h : Below K w w') {B : Nat} (hB : K ≤ B) (m' : Nat) (b' : Bool) : Below K w (fillP w' B m' b') := below_set (fill_below h hB m') hB 5 _
/-- three new blocks -/
theorem boxes2 (w : World) (o1 o2 : Obj) : ((w.alloc o1).alloc o2).heap[w.heap.size]? = some o1 ∧ ((w.alloc o1).alloc o2).heap[w.heap.size + 1]? = some o2 ∧ ((w.alloc o1).alloc o2).heap.size = w.heap.size + 1 + 1 ∧ Below w.heap.size w ((w.alloc o1).alloc o2) := by
  have hs := alloc_size w o1
  have hs2 := alloc_size (w.alloc o1) o2
  have hb := alloc_below w o1
  have hb2 := alloc_below (w.alloc o1) o2
  refine ⟨(hb2.block _ (by omega)).trans (alloc_at w o1), ?_, by omega, hb.trans (hb2.mono (by omega))⟩
  rw [← hs]; exact alloc_at _ _
theorem boxes3 (w : World) (o1 o2 o3 : Obj) : (((w.alloc o1).alloc o2).alloc o3).heap[w.heap.size]? = some o1 ∧ (((w.alloc o1).alloc o2).alloc o3).heap[w.heap.size + 1]? = some o2 ∧ (((w.alloc o1).alloc o2).alloc o3).heap[w.heap.size + 1 + 1]? = some o3 ∧ (((w.alloc o1).alloc o2).alloc o3).heap.size = w.heap.size + 1 + 1 + 1 ∧ Below w.heap.size w (((w.alloc o1).alloc o2).alloc o3) := by
  obtain ⟨h1, h2, h3, h4⟩ := boxes2 w o1 o2
  have hs := alloc_size ((w.alloc o1).alloc o2) o3
  have hb := alloc_below ((w.alloc o1).alloc o2) o3
  refine ⟨(hb.block _ (by omega)).trans h1, (hb.block _ (by omega)).trans h2, ?_, by omega, h4.trans (hb.mono (by omega))⟩
  rw [← h3]; exact alloc_at _ _

set_option maxHeartbeats 4000000 in
theorem then_any (m l : Nat) (b : Bool) (hm : m < 512) (hl : l < 512) (w : World) : Calls Tryz.prog 84 #[opV m b, mkV l] w fun e w' => e = .returned (mkV (if b then m ||| l else m)) ∧ Below w.heap.size w w' := by
  have hX := boxes3 w (.cells (opA m b) 71) (.cells (mkA l) 64) (.cells (mkA 0) 64)
  unfold mkV opV
  unfold mkA opA at *
  rw [show (((0 : Nat) : Int)) = 0 from rfl] at hX
  obtain ⟨h1, h2, h3, h4, hb⟩ := hX
  have HO : Hid (BoxO (((w.alloc (.cells #[.int .u64 m, .int .u64 0, .int .u64 0, .int .u64 0, .int .u64 0, .bool b] 71)).alloc (.cells #[.int .u64 l, .int .u64 0, .int .u64 0, .int .u64 0, .int .u64 0] 64)).alloc (.cells #[.int .u64 0, .int .u64 0, .int .u64 0, .int .u64 0, .int .u64 0] 64)) w.heap.size m b) := h1
  have HL : Hid (BoxM (((w.alloc (.cells #[.int .u64 m, .int .u64 0, .int .u64 0, .int .u64 0, .int .u64 0, .bool b] 71)).alloc (.cells #[.int .u64 l, .int .u64 0, .int .u64 0, .int .u64 0, .int .u64 0] 64)).alloc (.cells #[.int .u64 0, .int .u64 0, .int .u64 0, .int .u64 0, .int .u64 0] 64)) (w.heap.size + 1) l) := h2
  have HR : Hid (BoxM (((w.alloc (.cells #[.int .u64 m, .int .u64 0, .int .u64 0, .int .u64 0, .int .u64 0, .bool b] 71)).alloc (.cells #[.int .u64 l, .int .u64 0, .int .u64 0, .int .u64 0, .int .u64 0] 64)).alloc (.cells #[.int .u64 0, .int .u64 0, .int .u64 0, .int .u64 0, .int .u64 0] 64)) (w.heap.size + 1 + 1) 0) := h3
  have HS : Hid ((((w.alloc (.cells #[.int .u64 m, .int .u64 0, .int .u64 0, .int .u64 0, .int .u64 0, .bool b] 71)).alloc (.cells #[.int .u64 l, .int .u64 0, .int .u64 0, .int .u64 0, .int .u64 0] 64)).alloc (.cells #[.int .u64 0, .int .u64 0, .int .u64 0, .int .u64 0, .int .u64 0] 64)).heap.size = w.heap.size + 1 + 1 + 1) := h4
  clear h1 h2 h3 h4
  have HJ : Hid (∀ wx, Calls Tryz.prog 55 #[.agg #[.int .u64 m, .int .u64 0, .int .u64 0, .int .u64 0, .int .u64 0], .agg #[.int .u64 l, .int .u64 0, .int .u64 0, .int .u64 0, .int .u64 0]] wx fun e w' => e = .returned (.agg #[.int .u64 ((m ||| l : Nat) : Int), .int .u64 0, .int .u64 0, .int .u64 0, .int .u64 0]) ∧ Below wx.heap.size wx w') := fun wx => join_any m l hm hl wx
  generalize m ||| l = j at *
  go_enter Tryz.func84, Tryz.ntmps84
  have a0 := HO.out.c0
  have a1 := HO.out.c1
  have a2 := HO.out.c2
  have a3 := HO.out.c3
  have a4 := HO.out.c4
  have a5 := HO.out.c5
  have la := HO.out.lt
  have b0 := HL.out.c0
  have b1 := HL.out.c1
  have b2 := HL.out.c2
  have b3 := HL.out.c3
  have b4 := HL.out.c4
  have lb := HL.out.lt
  cases b with
  | true =>
    go_wp2_with fail
    refine (HJ.out _).mono ?_
    rintro e w2 ⟨rfl, hb2⟩
    have HR2 : Hid (BoxM w2 (w.heap.size + 1 + 1) 0) := HR.out.below (by rw [HS.out]; omega) hb2
    have hbw : Below w.heap.size w w2 := hb.trans (hb2.mono (by rw [HS.out]; omega))
    clear a0 a1 a2 a3 a4 a5 la b0 b1 b2 b3 b4 lb HJ HO HL HR hb2 hb HS
    have r0 := HR2.out.c0
    have r1 := HR2.out.c1
    have r2 := HR2.out.c2
    have r3 := HR2.out.c3
    have r4 := HR2.out.c4
    have g0 := HR2.out.fz 0
    have g1 := HR2.out.fz 1
    have g2 := HR2.out.fz 2
    have g3 := HR2.out.fz 3
    have g4 := HR2.out.fz 4
    have lr := HR2.out.lt
    go_wp2
    have HF : Hid (BoxM (fillM w2 (w.heap.size + 1 + 1) j) (w.heap.size + 1 + 1) j) := HR2.out.fill _
    have hbF := fill_below hbw (show w.heap.size ≤ w.heap.size + 1 + 1 by omega) j
    have HX : Hid (((((w2.setCell ⟨w.heap.size + 1 + 1, 0, none⟩ (.int .u64 (j : Int))).setCell ⟨w.heap.size + 1 + 1, 1, none⟩ (.int .u64 0)).setCell ⟨w.heap.size + 1 + 1, 2, none⟩ (.int .u64 0)).setCell ⟨w.heap.size + 1 + 1, 3, none⟩ (.int .u64 0)).setCell ⟨w.heap.size + 1 + 1, 4, none⟩ (.int .u64 0) = fillM w2 (w.heap.size + 1 + 1) j) := by show _ = _; unfold fillM; rfl
    rw [HX.out]
    clear HX
    generalize fillM w2 (w.heap.size + 1 + 1) j = W9 at *
    have z0 := HF.out.c0
    have z1 := HF.out.c1
    have z2 := HF.out.c2
    have z3 := HF.out.c3
    have z4 := HF.out.c4
    refine bodyPost_ret (v := .agg #[.int .u64 (j : Int), .int .u64 0, .int .u64 0, .int .u64 0, .int .u64 0]) ?_ rfl ?_
    · simp [results, go_sem, z0, z1, z2, z3, z4]
    · exact ⟨by simp, hbF⟩
  | false =>
    obtain ⟨_, _, k3, _, k5⟩ := boxes3 w (.cells #[.int .u64 m, .int .u64 0, .int .u64 0, .int .u64 0, .int .u64 0, .bool false] 71) (.cells #[.int .u64 l, .int .u64 0, .int .u64 0, .int .u64 0, .int .u64 0] 64) (.cells #[.int .u64 m, .int .u64 0, .int .u64 0, .int .u64 0, .int .u64 0] 64)
    have HK : Hid (BoxM _ (w.heap.size + 1 + 1) m) := k3
    go_wp2_with fail
    clear a0 a1 a2 a3 a4 a5 la b0 b1 b2 b3 b4 lb HJ HO HL HR hb HS k3
    generalize ((w.alloc (.cells #[.int .u64 m, .int .u64 0, .int .u64 0, .int .u64 0, .int .u64 0, .bool false] 71)).alloc (.cells #[.int .u64 l, .int .u64 0, .int .u64 0, .int .u64 0, .int .u64 0] 64)).alloc (.cells #[.int .u64 m, .int .u64 0, .int .u64 0, .int .u64 0, .int .u64 0] 64) = w2 at *
    have z0 := HK.out.c0
    have z1 := HK.out.c1
    have z2 := HK.out.c2
    have z3 := HK.out.c3
    have z4 := HK.out.c4
    refine bodyPost_ret (v := .agg #[.int .u64 (m : Int), .int .u64 0, .int .u64 0, .int .u64 0, .int .u64 0]) ?_ rfl ?_
    · simp [results, go_sem, z0, z1, z2, z3, z4]
    · exact ⟨by simp, k5⟩

/-- whether a row has none of both -/
theorem Tryz.opUnder : Tryz.prog.underlying 71 = some (.struct (Tryz.prog.fieldsOf 71)) := by kernel_rfl
theorem Tryz.opFields : (Tryz.prog.fieldsOf 71).toList.map (fun f => (f.name, f.type, f.offset)) = [("Terms", 64, 0), ("Empty", 4, 5)] := by kernel_rfl
theorem Tryz.opHeld : Tryz.prog.stoodInHeld 71 = false := by kernel_rfl
theorem Tryz.szMset (h : 64 < Tryz.prog.types.size) : (Tryz.prog.types[64]'h).size = 5 := by
  have h2 : (Tryz.prog.types[64]?).map (·.size) = some 5 := by kernel_rfl
  rw [Array.getElem?_eq_getElem h] at h2
  simpa using h2
theorem partT (m : Nat) (b : Bool) (w : World) : (part 64 (opA m b) 0).run Tryz.prog w = .ok (.agg (mkA m)) w := by
  simp [part, isAgg, run_underlying Tryz.underlying64, go_sem, opA, mkA]
theorem partE (m : Nat) (b : Bool) (w : World) : (part 4 (opA m b) 5).run Tryz.prog w = .ok (.bool b) w := by
  simp [part, isAgg, run_underlying Tryz.underlying4, go_sem, opA]
theorem eqO (m : Nat) (b : Bool) (w : World) : (binOp .eql 71 (.agg (opA m b)) (.agg (opA 0 false))).run Tryz.prog w = .ok (.bool (m == 0 && !b)) w := by
  rw [run_eql_struct, run_equalIn_struct w 9999 71 _ _ Tryz.opUnder Tryz.opHeld]
  have hf := Tryz.opFields
  generalize (Tryz.prog.fieldsOf 71).toList = fs at *
  obtain ⟨f1, f2, rfl⟩ : ∃ f1 f2, fs = [f1, f2] := by
    rcases fs with _ | ⟨f1, _ | ⟨f2, _ | ⟨f3, fs⟩⟩⟩
    · simp at hf
    · simp at hf
    · exact ⟨f1, f2, rfl⟩
    · simp at hf
  obtain ⟨⟨n1, t1, o1⟩, n2, t2, o2⟩ : (f1.name = "Terms" ∧ f1.type = 64 ∧ f1.offset = 0) ∧ (f2.name = "Empty" ∧ f2.type = 4 ∧ f2.offset = 5) := by simpa using hf
  have h1 := partT m b w
  have h2 := partT 0 false w
  have h3 := partE m b w
  have h4 := partE 0 false w
  have h5 := eqM_in 9997 m 0 w
  have h6 := run_equalIn_bool (P := Tryz.prog) w 9998 4 b false Tryz.underlying4
  simp only [Op.eqFields, n1, n2, t1, t2, o1, o2]
  by_cases hm : m = 0
  · subst hm
    simp [h1, h2, h3, h4, h5, h6, Result.andThen]
    cases b <;> rfl
  · have hm' : (m == 0) = false := by rw [beq_eq_false_iff_ne]; exact hm
    simp [h1, h2, h5, hm', Result.andThen]

end Go.Proofs.YtkdoghaoijdedaaGreatDoor
