/- Texts of the proof, put together: GBhP, GUsd. -/
import Derived.Test.YtkdoghaoijdedaaGreatDoorGt26
import Derived.Test.YtkdoghaoijdedaaGreatDoorGt34
import Derived.Test.YtkdoghaoijdedaaGreatDoorGt16
import Derived.Deep.RegionWith
namespace Go.Proofs.YtkdoghaoijdedaaGreatDoor
set_option linter.unusedVariables false

theorem wid_drop {f : Nat → Nat} {e : Nat → Bool} {r : List Int} (h : widS f e r) (k : Nat) : widS f e (r.drop k) := fun s hs => h s (List.mem_of_mem_drop hs)
theorem opn_bh {N : Nat} {ps : List PdR} (hG : GOkM N ps) {L : List Nat} (hL : FsOk N ps L) {p : PdR} (hp : p ∈ ps) (hk : keepP N ps p = true) (k t : Nat) : (opnS (factM L) (hgtB false (prsS ps) N) (p.right.drop (k + 1))).1.testBit t = true ↔ bhP N ps p.right k t := by
  rw [opn_bit _ _ _ _ (wid_drop (keep_wid hG hL.liv hp hk) (k + 1))]
  unfold bhP
  refine exists_congr fun j => and_congr_right fun ha => ?_
  unfold brgP
  refine or_congr_right ⟨?_, ?_⟩
  · rintro ⟨m, h1, h2⟩
    refine ⟨m, h1, (hL.bit m ?_ t).1 h2⟩
    have h3 := ha.1
    rw [List.length_drop] at h3
    have := ((hG.mem hp).2.2 (k + 1 + j) (by omega)).1
    rw [show (p.right.drop (k + 1)).getD j 0 = p.right.getD (k + 1 + j) 0 by simp [List.getD]] at h1
    omega
  · rintro ⟨m, h1, h2⟩
    refine ⟨m, h1, (hL.bit m ?_ t).2 h2⟩
    have h3 := ha.1
    rw [List.length_drop] at h3
    have := ((hG.mem hp).2.2 (k + 1 + j) (by omega)).1
    rw [show (p.right.drop (k + 1)).getD j 0 = p.right.getD (k + 1 + j) 0 by simp [List.getD]] at h1
    omega
/-- so far -/
def bhN (N T : Nat) (ps : List PdR) (s : Int) (q k n t : Nat) : Prop := ((n : Int) = s ∧ t = T ∧ hgtB true (prsS ps) N n = true) ∨ (∃ q', q' < q ∧ usdP N ps s q' ∧ ∃ k', k' < (ps.getD q' noPd).right.length ∧ nxP N ps (ps.getD q' noPd) n k' t) ∨ (usdP N ps s q ∧ ∃ k', k' < k ∧ nxP N ps (ps.getD q noPd) n k' t)
def hsP (N : Nat) (ps : List PdR) (p : PdR) (n m k : Nat) : Prop := p.left = (m : Int) ∧ -1 - p.right.getD k 0 = (n : Int) ∧ hasB false (hgtB false (prsS ps) N) (p.right.drop (k + 1)) = true
def bhR (N : Nat) (ps : List PdR) (s : Int) (q k n m : Nat) : Prop := (∃ q', q' < q ∧ usdP N ps s q' ∧ ∃ k', k' < (ps.getD q' noPd).right.length ∧ hsP N ps (ps.getD q' noPd) n m k') ∨ (usdP N ps s q ∧ ∃ k', k' < k ∧ hsP N ps (ps.getD q noPd) n m k')
theorem bh_nextG {Q : Nat → Nat → Prop} {U : Nat → Prop} {ln : Nat → Nat} (q k : Nat) (hk : U q → k = ln q) : ((∃ q', q' < q ∧ U q' ∧ ∃ k', k' < ln q' ∧ Q q' k') ∨ (U q ∧ ∃ k', k' < k ∧ Q q k')) ↔ ((∃ q', q' < q + 1 ∧ U q' ∧ ∃ k', k' < ln q' ∧ Q q' k') ∨ (U (q + 1) ∧ ∃ k', k' < 0 ∧ Q (q + 1) k')) := by
  constructor
  · rintro (⟨q', h1, h2⟩ | ⟨h1, k', h2, h3⟩)
    · exact .inl ⟨q', by omega, h2⟩
    · exact .inl ⟨q, by omega, h1, k', by rw [← hk h1]; exact h2, h3⟩
  · rintro (⟨q', h1, h2, k', h3, h4⟩ | ⟨_, k', h2, _⟩)
    · by_cases e : q' = q
      · subst e; exact .inr ⟨h2, k', by rw [hk h2]; exact h3, h4⟩
      · exact .inl ⟨q', by omega, h2, k', h3, h4⟩
    · omega
theorem bh_stepG {Q : Nat → Nat → Prop} {U : Nat → Prop} {ln : Nat → Nat} (q k : Nat) : ((∃ q', q' < q ∧ U q' ∧ ∃ k', k' < ln q' ∧ Q q' k') ∨ (U q ∧ ∃ k', k' < k + 1 ∧ Q q k')) ↔ ((∃ q', q' < q ∧ U q' ∧ ∃ k', k' < ln q' ∧ Q q' k') ∨ (U q ∧ ∃ k', k' < k ∧ Q q k')) ∨ (U q ∧ Q q k) := by
  constructor
  · rintro (h | ⟨h1, k', h2, h3⟩)
    · exact .inl (.inl h)
    · by_cases e : k' = k
      · subst e; exact .inr ⟨h1, h3⟩
      · exact .inl (.inr ⟨h1, k', by omega, h3⟩)
  · rintro ((h | ⟨h1, k', h2, h3⟩) | ⟨h1, h2⟩)
    · exact .inl h
    · exact .inr ⟨h1, k', by omega, h3⟩
    · exact .inr ⟨h1, k, by omega, h2⟩
theorem bhN_next {N T : Nat} {ps : List PdR} {s : Int} {q k : Nat} (hk : usdP N ps s q → k = (ps.getD q noPd).right.length) (n t : Nat) : bhN N T ps s q k n t ↔ bhN N T ps s (q + 1) 0 n t := or_congr_right (bh_nextG (ln := fun q => (ps.getD q noPd).right.length) (Q := fun q k => nxP N ps (ps.getD q noPd) n k t) q k hk)
theorem bhR_next {N : Nat} {ps : List PdR} {s : Int} {q k : Nat} (hk : usdP N ps s q → k = (ps.getD q noPd).right.length) (n m : Nat) : bhR N ps s q k n m ↔ bhR N ps s (q + 1) 0 n m := bh_nextG (ln := fun q => (ps.getD q noPd).right.length) (Q := fun q k => hsP N ps (ps.getD q noPd) n m k) q k hk
theorem bhN_step {N T : Nat} {ps : List PdR} {s : Int} {q k : Nat} (n t : Nat) : bhN N T ps s q (k + 1) n t ↔ bhN N T ps s q k n t ∨ (usdP N ps s q ∧ nxP N ps (ps.getD q noPd) n k t) := by
  unfold bhN
  rw [or_assoc]
  exact or_congr_right (bh_stepG (ln := fun q => (ps.getD q noPd).right.length) (Q := fun q k => nxP N ps (ps.getD q noPd) n k t) q k)
theorem bhR_step {N : Nat} {ps : List PdR} {s : Int} {q k : Nat} (n m : Nat) : bhR N ps s q (k + 1) n m ↔ bhR N ps s q k n m ∨ (usdP N ps s q ∧ hsP N ps (ps.getD q noPd) n m k) := bh_stepG (ln := fun q => (ps.getD q noPd).right.length) (Q := fun q k => hsP N ps (ps.getD q noPd) n m k) q k
/-- on the way -/
structure BhI (N T : Nat) (ps : List PdR) (s : Int) (q k : Nat) (nx : List Nat) : Prop where
  len : nx.length = N
  lt : ∀ n, factM nx n < 512
  bit : ∀ n t, n < N → ((factM nx n).testBit t = true ↔ bhN N T ps s q k n t)
theorem BhI.next {N T : Nat} {ps : List PdR} {s : Int} {q k : Nat} {nx : List Nat} (h : BhI N T ps s q k nx) (hk : usdP N ps s q → k = (ps.getD q noPd).right.length) : BhI N T ps s (q + 1) 0 nx := ⟨h.len, h.lt, fun n t hn => (h.bit n t hn).trans (bhN_next hk n t)⟩
theorem BhI.term {N T : Nat} {ps : List PdR} {s : Int} {q k : Nat} {nx : List Nat} (h : BhI N T ps s q k nx) (hk : ¬ (ps.getD q noPd).right.getD k 0 < 0) : BhI N T ps s q (k + 1) nx := ⟨h.len, h.lt, fun n t hn => by
  rw [h.bit n t hn, bhN_step]
  constructor
  · exact .inl
  · rintro (h1 | ⟨_, h1, _⟩)
    · exact h1
    · omega⟩
theorem BhI.name {N T : Nat} {ps : List PdR} {s : Int} {q k m : Nat} {nx : List Nat} (h : BhI N T ps s q k nx) (hu : usdP N ps s q) (hm : -1 - (ps.getD q noPd).right.getD k 0 = (m : Int)) (hmN : m < N) {a : Nat} (ha : a < 512) (hb : ∀ t, a.testBit t = true ↔ bhP N ps (ps.getD q noPd).right k t) : BhI N T ps s q (k + 1) (nx.set m (factM nx m ||| a)) := by
  have hf := factM_set h.len hmN (factM nx m ||| a)
  refine ⟨by rw [List.length_set]; exact h.len, fun n => ?_, fun n t hn => ?_⟩
  · rw [hf]
    split
    · exact mk_join (h.lt m) ha
    · exact h.lt n
  · rw [hf, bhN_step]
    by_cases e : n = m
    · subst e
      rw [if_pos rfl, Nat.testBit_or, Bool.or_eq_true, h.bit n t hn, hb]
      refine or_congr_right ⟨fun h1 => ⟨hu, hm, h1⟩, fun h1 => h1.2.2⟩
    · rw [if_neg e, h.bit n t hn]
      constructor
      · exact .inl
      · rintro (h1 | ⟨_, h1, _⟩)
        · exact h1
        · omega
theorem bhR_term {N : Nat} {ps : List PdR} {s : Int} {q k : Nat} (hk : ¬ (ps.getD q noPd).right.getD k 0 < 0) (n m : Nat) : bhR N ps s q k n m ↔ bhR N ps s q (k + 1) n m := by
  rw [bhR_step]
  constructor
  · exact .inl
  · rintro (h1 | ⟨_, _, h1, _⟩)
    · exact h1
    · omega
theorem bhR_no {N : Nat} {ps : List PdR} {s : Int} {q k : Nat} (ho : hasB false (hgtB false (prsS ps) N) ((ps.getD q noPd).right.drop (k + 1)) = false) (n m : Nat) : bhR N ps s q k n m ↔ bhR N ps s q (k + 1) n m := by
  rw [bhR_step]
  constructor
  · exact .inl
  · rintro (h1 | ⟨_, _, _, h1⟩)
    · exact h1
    · rw [ho] at h1; cases h1
theorem bhR_yes {N : Nat} {ps : List PdR} {s : Int} {q k lf x : Nat} (hu : usdP N ps s q) (hl : (ps.getD q noPd).left = (lf : Int)) (hx : -1 - (ps.getD q noPd).right.getD k 0 = (x : Int)) (ho : hasB false (hgtB false (prsS ps) N) ((ps.getD q noPd).right.drop (k + 1)) = true) (n m : Nat) : addR (bhR N ps s q k) x lf n m ↔ bhR N ps s q (k + 1) n m := by
  rw [bhR_step]
  unfold addR
  refine or_congr_right ⟨?_, ?_⟩
  · rintro ⟨rfl, rfl⟩; exact ⟨hu, hl, hx, ho⟩
  · rintro ⟨_, h1, h2, _⟩; exact ⟨by omega, by omega⟩
theorem BhI.start {N T : Nat} {ps : List PdR} {s : Nat} (hs : s < N) (hT : T ≤ 8) : BhI N T ps s 0 0 (if hgtB true (prsS ps) N s then (List.replicate N 0).set s (2 ^ T) else List.replicate N 0) := by
  have key : ∀ n t, bhN N T ps s 0 0 n t ↔ n = s ∧ t = T ∧ hgtB true (prsS ps) N n = true := fun n t => by
    constructor
    · rintro (⟨h1, h2, h3⟩ | ⟨q', h1, _⟩ | ⟨_, k', h1, _⟩)
      · exact ⟨by omega, h2, h3⟩
      · omega
      · omega
    · rintro ⟨h1, h2, h3⟩; exact .inl ⟨by omega, h2, h3⟩
  by_cases hl : hgtB true (prsS ps) N s = true
  · rw [if_pos hl]
    have hf := factM_set (L := List.replicate N 0) (N := N) (by simp) hs (2 ^ T)
    refine ⟨by simp, fun n => ?_, fun n t hn => ?_⟩
    · rw [hf]
      split
      · exact Nat.pow_lt_pow_right (n := 9) (by omega) (by omega)
      · rw [factM_none]; omega
    · rw [hf, key]
      by_cases e : n = s
      · rw [if_pos e, Nat.testBit_two_pow, decide_eq_true_eq, e]
        exact ⟨fun h => ⟨rfl, h.symm, hl⟩, fun h => h.2.1.symm⟩
      · rw [if_neg e, factM_none]
        constructor
        · intro h; simp at h
        · intro h; exact absurd h.1 e
  · rw [if_neg hl]
    refine ⟨by simp, fun n => by rw [factM_none]; omega, fun n t hn => ?_⟩
    rw [factM_none, key]
    constructor
    · intro h; simp at h
    · rintro ⟨h1, _, h3⟩; rw [h1] at h3; exact absurd h3 hl
theorem bhR_start {N : Nat} {ps : List PdR} {s : Int} (n m : Nat) : ¬ bhR N ps s 0 0 n m := by
  rintro (⟨q', h1, _⟩ | ⟨_, k', h1, _⟩)
  · omega
  · omega
theorem bhN_end {N T : Nat} {ps : List PdR} {s : Int} (n t : Nat) : bhN N T ps s ps.length 0 n t ↔ fwB N T ps s n t := by
  unfold bhN fwB
  refine or_congr_right ?_
  constructor
  · rintro (⟨q', h1, h2, k', h3, h4⟩ | ⟨_, k', h1, _⟩)
    · exact ⟨q', h1, h2, k', h3, h4⟩
    · omega
  · rintro ⟨q', h1, h2, k', h3, h4⟩; exact .inl ⟨q', h1, h2, k', h3, h4⟩
theorem bhR_end {N : Nat} {ps : List PdR} {s : Int} (n m : Nat) : bhR N ps s ps.length 0 n m ↔ fwR N ps s n m := by
  unfold bhR fwR
  constructor
  · rintro (⟨q', h1, h2, k', h3, h4, h5, h6⟩ | ⟨_, k', h1, _⟩)
    · exact ⟨q', h1, h2, h4, k', h3, h5, h6⟩
    · omega
  · rintro ⟨q', h1, h2, h4, k', h3, h5, h6⟩; exact .inl ⟨q', h1, h2, k', h3, h4, h5, h6⟩

end Go.Proofs.YtkdoghaoijdedaaGreatDoor

namespace Go.Proofs.YtkdoghaoijdedaaGreatDoor
open Go.RowKit
set_option linter.unusedVariables false
set_option maxRecDepth 100000

set_option maxHeartbeats 8000000 in
theorem usedProds_any (t s : Int) (N : Nat) (ps : List PdR) (ls ss : List Int) (pv lv sv : Value) (w : World) (hG : GOkM N ps) (h : PdsM w pv ps) (hlv : ∃ a n c, lv = .slice a n c) (hsv : ∃ a n c, sv = .slice a n c) :
    Calls Tryz.prog 25 #[gv ⟨t, N, s, ps, ls, ss⟩ pv lv sv] w fun e w' => ∃ B L, e = .returned (.slice (some ⟨B, 0, none⟩) ps.length ps.length) ∧ RowB w' B L ∧ L.length = ps.length ∧ (∀ i, i < ps.length → (factB L i = true ↔ keepP N ps (ps.getD i noPd) = true ∧ ∃ h, reachH (wholeP N ps) s h (ps.getD i noPd).left.toNat = true)) ∧ Below w.heap.size w w' := by
  have hB0 := boxG_below w ⟨t, N, s, ps, ls, ss⟩ pv lv sv
  have hB1 := boxG_size w ⟨t, N, s, ps, ls, ss⟩ pv lv sv
  have hB2 := boxG_box w ⟨t, N, s, ps, ls, ss⟩ pv lv sv
  have HH : Hid (∀ w', Below w.heap.size w w' → _) := fun w' (hb : Below w.heap.size w w') => haveTrees_any true t s N ps ls ss pv lv sv w' hG (h.below hb)
  have HRN : Hid (∀ w', Below w.heap.size w w' → _) := fun w' (hb : Below w.heap.size w w') => reachedNames_any t s N ps ls ss pv lv sv w' hG (h.below hb) hlv hsv
  obtain ⟨pa, pc, rfl⟩ := h.slice
  have HP : Hid (PdsM w (.slice pa ps.length pc) ps) := h
  have HBX : Hid (∀ w', Below (boxG w ⟨t, N, s, ps, ls, ss⟩ (.slice pa ps.length pc) lv sv).heap.size (boxG w ⟨t, N, s, ps, ls, ss⟩ (.slice pa ps.length pc) lv sv) w' → BoxG w' w.heap.size ⟨t, N, s, ps, ls, ss⟩ (.slice pa ps.length pc) lv sv) := fun w' hb => hB2.below (by omega) hb
  have hBB : Below (boxG w ⟨t, N, s, ps, ls, ss⟩ (.slice pa ps.length pc) lv sv).heap.size (boxG w ⟨t, N, s, ps, ls, ss⟩ (.slice pa ps.length pc) lv sv) (boxG w ⟨t, N, s, ps, ls, ss⟩ (.slice pa ps.length pc) lv sv) := Below.refl _ _
  clear h hlv hsv
  unfold gv gvs at HH HRN
  unfold boxG gvs at hB0 hB1 hB2 HBX hBB
  unfold gv gvs
  simp only at *
  obtain ⟨q0, q1, q2, q3, q4, q5, q6⟩ := hB2
  simp only at q0 q1 q2 q3 q4 q5 q6
  go_enter Tryz.func25, Tryz.ntmps25
  go_wp2
  generalize w.alloc (.cells #[.int .i64 t, .int .i64 N, .int .i64 s, .slice pa ps.length pc, lv, sv] 25) = w0 at *
  have HD : Hid (∀ m w5, Below (w0.drewN m).heap.size (w0.drewN m) w5 → Below w0.heap.size w0 w5) := fun m w5 hb => ⟨hb.os, hb.tape, hb.output, hb.size, hb.block⟩
  have HW : Hid (∀ w5, Below w0.heap.size w0 w5 → Below w.heap.size w w5) := fun w5 hb => hB0.trans (hb.mono (by omega))
  go_region_with (first
    | (go_at_call 24; refine (HH.out _ (below_drewG hB0 _)).mono ?_; rintro e w5 ⟨B1, L1, rfl, r1, l1, f1, b1, hb5⟩; have hb6 := HD.out _ _ hb5; have q := HBX.out w5 hb6; obtain ⟨q0, q1, q2, q3, q4, q5, q6⟩ := q; clear hb5)
    | (go_at_call 49; refine (HRN.out _ (HW.out _ hb6)).mono ?_; rintro e w7 ⟨B2, L2, rfl, r2, l2, f2, b2, hb7⟩))
  all_goals
    have hb9 : Below w0.heap.size w0 w7 := hb6.trans (hb7.mono hb6.size)
    have HR1 : Hid (RowB w7 B1 L1) := r1.below hb7
    have HR2 : Hid (RowB w7 B2 L2) := r2
    have HL1 : Hid (L1.length = N) := l1
    have HL2 : Hid (L2.length = N) := l2
    have HF1 : Hid (factB L1 = hgtB true (prsS ps) N) := funext f1
    have HF2 : Hid (∀ n, n < N → (factB L2 n = true ↔ ∃ h, reachH (wholeP N ps) s h n = true)) := f2
    clear q0 q1 q2 q3 q4 q5 q6 r1 r2 l1 l2 f1 f2 b1 b2 HH HRN HD hBB
    have hbW := HW.out _ hb9
    obtain ⟨q0, q1, q2, q3, q4, q5, q6⟩ := HBX.out w7 hb9
    simp only at q0 q1 q2 q3 q4 q5 q6
    have hpl := hG.len
    have hmk := makeBoolsT ps.length (by omega) w7
    have hA := alloc_below w7 (.cells (boolsA (List.replicate ps.length false)) 4)
    have hAs := alloc_size w7 (.cells (boolsA (List.replicate ps.length false)) 4)
    obtain ⟨q0', q1', q2', q3', q4', q5', q6'⟩ := HBX.out _ (hb9.trans (hA.mono hb9.size))
    simp only at q0' q1' q2' q3' q4' q5' q6'
    clear hb6 hb7
    go_simp
    go_wp2
    have hb10 : Below w7.heap.size w7 (w7.alloc (.cells (boolsA (List.replicate ps.length false)) 4)) := hA
    have HU0 : Hid (RowB (w7.alloc (.cells (boolsA (List.replicate ps.length false)) 4)) w7.heap.size (List.replicate ps.length false)) := by
      show (w7.heap.push _)[w7.heap.size]? = _
      exact Array.getElem?_push_size
    clear hmk q0 q1 q2 q3 q4 q5 q6 q0' q1' q2' q3' q4' q5' q6' hA hAs
    generalize w7.alloc (.cells (boolsA (List.replicate ps.length false)) 4) = w8 at *
    go_loopw [19] (fun i wr => ∃ (k : Nat) (L : List Bool), k ≤ ps.length ∧ i = .int .i64 k ∧ Hid (RowB wr w7.heap.size L) ∧ L.length = ps.length ∧ Hid (∀ i, i < k → factB L i = (factB L2 (ps.getD i noPd).left.toNat && keepP N ps (ps.getD i noPd))) ∧ Below w7.heap.size w7 wr) (fun i _ => ps.length - (intOf i).toNat)
    case atStart => exact ⟨0, _, Nat.zero_le _, rfl, HU0, by simp, (fun i hi => by omega), hb10⟩
    case round =>
      clear HU0 hb10
      obtain ⟨k, L, hk, rfl, HU, hLl, HV, hbw⟩ := hrel
      by_cases hlt : k < ps.length
      · have hbx := hbW.trans (hbw.mono hbW.size)
        obtain ⟨b, off, rv, rfl, hb, hpd⟩ := (HP.out.below hbx).at hlt
        obtain ⟨hPk, hSy⟩ := hG.mem (p := ps.getD k noPd) (by simp [List.getD, hlt])
        have HSet : Hid (∀ (W : World) (x : Bool), RowB W w7.heap.size L → Below w7.heap.size w7 W → x = (factB L2 (ps.getD k noPd).left.toNat && keepP N ps (ps.getD k noPd)) → RowB (W.setCell ⟨w7.heap.size, k, none⟩ (.bool x)) w7.heap.size (L.set k x) ∧ (L.set k x).length = ps.length ∧ (∀ i, i < k + 1 → factB (L.set k x) i = (factB L2 (ps.getD i noPd).left.toNat && keepP N ps (ps.getD i noPd))) ∧ Below w7.heap.size w7 (W.setCell ⟨w7.heap.size, k, none⟩ (.bool x))) := fun W x hW hB hx => by
          refine ⟨hW.set k x, by rw [List.length_set]; exact hLl, fun i hi => ?_, below_set hB (Nat.le_refl _) _ _⟩
          rw [factB_set hLl hlt]
          by_cases e : i = k
          · rw [if_pos e, e]; exact hx
          · rw [if_neg e]; exact HV.out i (by omega)
        have hA := alloc_below wr (.cells #[.int .i64 (ps.getD k noPd).left, rv, .int .i64 (ps.getD k noPd).level] 34)
        have hAs := alloc_size wr (.cells #[.int .i64 (ps.getD k noPd).left, rv, .int .i64 (ps.getD k noPd).level] 34)
        have hb3 : Below w7.heap.size w7 (wr.alloc (.cells #[.int .i64 (ps.getD k noPd).left, rv, .int .i64 (ps.getD k noPd).level] 34)) := hbw.trans (hA.mono hbw.size)
        have hCa := rowHas_any N hG.n (ps.getD k noPd).right L1 true rv B1 (wr.alloc (.cells #[.int .i64 (ps.getD k noPd).left, rv, .int .i64 (ps.getD k noPd).level] 34)) hSy HL1.out (hpd.right.below hA) (HR1.out.below hb3)
        rw [HF1.out] at hCa
        have HKp : Hid (hasB true (hgtB true (prsS ps) N) (ps.getD k noPd).right = keepP N ps (ps.getD k noPd)) := rfl
        rw [HKp.out] at hCa
        have hO3 := HU.out.below hA
        have hT3 := HR2.out.below hb3
        obtain ⟨f0, f1, f2⟩ := box3_cells wr (.int .i64 (ps.getD k noPd).left) rv (.int .i64 (ps.getD k noPd).level) 34
        obtain ⟨c0, c1, c2, hrr⟩ := hpd
        obtain ⟨ra, rc, hra⟩ := hrr.slice
        subst hra
        have hlt9 : wr.heap.size < (wr.alloc (.cells #[.int .i64 (ps.getD k noPd).left, .slice ra (ps.getD k noPd).right.length rc, .int .i64 (ps.getD k noPd).level] 34)).heap.size := by rw [hAs]; exact Nat.lt_succ_self _
        have hl0 := hPk.1
        have hl1 := hPk.2.1
        clear hrr HKp hSy hPk HU HV hA hAs
        generalize keepP N ps (ps.getD k noPd) = kp at *
        generalize hq : ps.getD k noPd = q at *
        clear hq
        obtain ⟨left, right, level⟩ := q
        simp only at *
        obtain ⟨lf, rfl⟩ : ∃ lf : Nat, left = (lf : Int) := ⟨left.toNat, by omega⟩
        rw [Int.toNat_natCast] at HSet
        have hlN : lf < N := by omega
        have cT := hT3.cell (j := lf) (by rw [HL2.out]; exact hlN)
        have hTl := hT3.lt
        have cO := hO3.cell (j := k) (by omega)
        have fO := hO3.fz k
        have hOl := hO3.lt
        have HO3 : Hid (RowB (wr.alloc (.cells #[.int .i64 (lf : Int), .slice ra right.length rc, .int .i64 level] 34)) w7.heap.size L) := hO3
        clear hT3 hO3
        generalize factB L2 lf = y at *
        cases y with
        | true =>
          go_wp2_with fail
          refine hCa.mono ?_
          rintro e w3 ⟨rfl, rfl⟩
          obtain ⟨s1, s2, s3, s4⟩ := HSet.out _ kp HO3.out hb3 (by simp)
          have S1 : Hid (RowB ((wr.alloc (.cells #[.int .i64 (lf : Int), .slice ra right.length rc, .int .i64 level] 34)).setCell ⟨w7.heap.size, k, none⟩ (.bool kp)) w7.heap.size (L.set k kp)) := s1
          have S3 : Hid (∀ i, i < k + 1 → factB (L.set k kp) i = (factB L2 (ps.getD i noPd).left.toNat && keepP N ps (ps.getD i noPd))) := s3
          clear s1 s3 HSet HO3 hCa
          go_wp2
          go_roundw
          case rel => exact ⟨k + 1, _, by omega, by go_num, S1, s2, S3, s4⟩
          case measure => simp [intOf]; omega
        | false =>
          obtain ⟨s1, s2, s3, s4⟩ := HSet.out _ false HO3.out hb3 (by simp)
          have S1 : Hid (RowB ((wr.alloc (.cells #[.int .i64 (lf : Int), .slice ra right.length rc, .int .i64 level] 34)).setCell ⟨w7.heap.size, k, none⟩ (.bool false)) w7.heap.size (L.set k false)) := s1
          have S3 : Hid (∀ i, i < k + 1 → factB (L.set k false) i = (factB L2 (ps.getD i noPd).left.toNat && keepP N ps (ps.getD i noPd))) := s3
          clear s1 s3 HSet HO3 hCa
          go_wp2
          go_roundw
          case rel => exact ⟨k + 1, _, by omega, by go_num, S1, s2, S3, s4⟩
          case measure => simp [intOf]; omega
      · obtain rfl : k = ps.length := by omega
        have HE : Hid (∀ i, i < ps.length → (factB L i = true ↔ keepP N ps (ps.getD i noPd) = true ∧ ∃ h, reachH (wholeP N ps) s h (ps.getD i noPd).left.toNat = true)) := fun i hi => by
          have hPk := (hG.mem (p := ps.getD i noPd) (by simp [List.getD, hi])).1
          rw [HV.out i hi, Bool.and_eq_true, HF2.out _ (by have := hPk.1; have := hPk.2.1; omega), and_comm]
        have hbE := hbW.trans (hbw.mono hbW.size)
        clear HV
        go_wp2
        go_ret
        exact ⟨_, L, rfl, HU.out, hLl, HE.out, hbE⟩

end Go.Proofs.YtkdoghaoijdedaaGreatDoor
