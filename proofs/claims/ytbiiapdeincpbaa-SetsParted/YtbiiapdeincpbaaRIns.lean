import Derived.Test.YtbiiapdeincpbaaRGrow
import Derived.Test.YtbiiapdeincpbaaPPoints
namespace Go.Proofs.Ytbiiapdeincpbaa
open Go.RowKit
set_option linter.unusedVariables false
set_option maxRecDepth 100000

/-- a list of numbers that lies in a row of ints, at least one -/
def IntsC (w : World) (B : Nat) (v : Value) (zs : List Int) : Prop :=
  ∃ g c, v = .slice (some ⟨g, 0, none⟩) zs.length c ∧ zs.length ≤ c ∧ c ≤ maxLen ∧ B ≤ g ∧ g < w.heap.size ∧ (∃ cur, w.heap[g]? = some (.cells cur 3 (0, 0))) ∧ ∀ j, j < zs.length → w.cell? ⟨g, j, none⟩ = some (.int .i64 (zs.getD j 0))

theorem IntsC.of {w : World} {B : Nat} {v : Value} {zs : List Int} (h : w.ownsRow B 3 1 v zs.length (zs.map (Value.int .i64))) (hne : zs ≠ []) : IntsC w B v zs := by
  have hpos := List.length_pos_iff.2 hne
  have hl := h.lt
  rcases h.2 with ⟨rfl, h0⟩ | ⟨g, cap, cur, rfl, hbg, hg, hnc, hcm, _⟩
  · omega
  · refine ⟨g, cap, rfl, hnc, hcm, hbg, (hl g rfl).2, ⟨cur, hg⟩, fun j hj => ?_⟩
    have := h.cellAt j (by omega)
    rw [this]
    simp [hj]

theorem IntsC.keep {w w' : World} {B : Nat} {v : Value} {zs : List Int} (h : IntsC w B v zs) (hk : ∀ (k : Nat) (cur : Array Value), w.heap[k]? = some (Obj.cells cur 3 (0, 0)) → w'.heap[k]? = w.heap[k]?) (hs : w.heap.size ≤ w'.heap.size) : IntsC w' B v zs := by
  obtain ⟨g, c, rfl, h1, h2, h3, h4, ⟨cur, h5⟩, h6⟩ := h
  have e := hk g cur h5
  exact ⟨g, c, rfl, h1, h2, h3, by omega, ⟨cur, by rw [e]; exact h5⟩, fun j hj => (World.cell?_of_block (a := ⟨g, j, none⟩) e).trans (h6 j hj)⟩

theorem IntsC.below {w w' : World} {B : Nat} {v : Value} {zs : List Int} (h : IntsC w B v zs) (hb : Below w.heap.size w w') : IntsC w' B v zs :=
  h.keep (fun k cur hk => hb.block k (Array.getElem?_eq_some_iff.1 hk).1) hb.size

theorem map_take_int (zs : List Int) (k : Nat) (j : Nat) (u : Value) (h : ((zs.take k).map (Value.int .i64))[j]? = some u) : j < k ∧ j < zs.length ∧ u = .int .i64 (zs.getD j 0) := by
  obtain ⟨hj, e⟩ := List.getElem?_eq_some_iff.1 h
  simp at hj e
  refine ⟨by omega, by omega, ?_⟩
  rw [← e]
  have : j < zs.length := by omega
  simp [this]
theorem map_drop_int (zs : List Int) (k : Nat) (j : Nat) (u : Value) (h : ((zs.drop k).map (Value.int .i64))[j]? = some u) : k + j < zs.length ∧ u = .int .i64 (zs.getD (k + j) 0) := by
  obtain ⟨hj, e⟩ := List.getElem?_eq_some_iff.1 h
  simp at hj e
  refine ⟨by omega, ?_⟩
  rw [← e]
  have : k + j < zs.length := by omega
  simp [this]
theorem add_off (g o j : Nat) : (⟨g, o, none⟩ : Addr).add j = ⟨g, o + j, none⟩ := by
  unfold Addr.add
  split <;> simp_all

set_option maxHeartbeats 1000000 in
theorem insert_same (g c : Nat) (zs : List Int) (n : Int) (k : Nat) (w : World) (hz : zs.length ≤ 1000000) (hk : k < zs.length) (hlow : ∀ j, j < k → zs.getD j 0 < n) (he : zs.getD k 0 = n) (hc : ∀ j, j < zs.length → w.cell? ⟨g, j, none⟩ = some (.int .i64 (zs.getD j 0))) :
    Calls Try.prog 55 #[.slice (some ⟨g, 0, none⟩) zs.length c, .int .i64 n] w fun e w' => e = .returned (.slice (some ⟨g, 0, none⟩) zs.length c) ∧ w' = w := by
  go_enter Try.func55, Try.ntmps55
  go_wp2
  go_loop [5] (fun i => ∃ j : Nat, j ≤ k ∧ i = .int .i64 j) (fun i => k - (intOf i).toNat)
  case atStart => exact ⟨0, Nat.zero_le _, rfl⟩
  case round =>
    obtain ⟨j, hj, rfl⟩ := hrel
    have hcj := hc j (by omega)
    by_cases hlt : j < k
    · have hl := hlow j hlt
      clear hc hlow he
      generalize zs.getD j 0 = z at *
      have hjl : j < zs.length := by omega
      go_wp2
      go_round
      case rel => exact ⟨j + 1, by omega, by go_num⟩
      case measure => simp [intOf]; omega
    · have e : j = k := by omega
      subst e
      rw [he] at hcj
      clear hc hlow he
      go_wp2
      go_ret
      exact ⟨rfl, rfl⟩

set_option maxHeartbeats 2000000 in
theorem insert_new (B g c : Nat) (zs : List Int) (n : Int) (k : Nat) (w : World) (hz : zs.length ≤ 1000000) (hzc : zs.length ≤ c) (hcm : c ≤ maxLen) (hk : k < zs.length) (hlow : ∀ j, j < k → zs.getD j 0 < n) (he : n < zs.getD k 0) (hgs : g < w.heap.size) (hBw : B ≤ w.heap.size) (hc : ∀ j, j < zs.length → w.cell? ⟨g, j, none⟩ = some (.int .i64 (zs.getD j 0))) :
    Calls Try.prog 55 #[.slice (some ⟨g, 0, none⟩) zs.length c, .int .i64 n] w fun e w' => ∃ v', e = .returned v' ∧ w'.ownsRow w.heap.size 3 1 v' (zs.length + 1) ((zs.take k ++ n :: zs.drop k).map (Value.int .i64)) ∧ Below w.heap.size w w' := by
  obtain ⟨i0, hi, hz0, hz1, hz2⟩ := info_parts Try.infoInt
  unfold maxLen at hcm
  have hzl : zs.length ≤ 1000000 := hz
  go_enter Try.func55, Try.ntmps55
  go_wp2
  go_loop [5] (fun i => ∃ j : Nat, j ≤ k ∧ i = .int .i64 j) (fun i => k - (intOf i).toNat)
  case atStart => exact ⟨0, Nat.zero_le _, rfl⟩
  case round =>
    obtain ⟨j, hj, rfl⟩ := hrel
    have hcj := hc j (by omega)
    by_cases hlt : j < k
    · have hl := hlow j hlt
      clear hc hlow he
      generalize zs.getD j 0 = z at *
      have hjl : j < zs.length := by omega
      go_wp2
      go_round
      case rel => exact ⟨j + 1, by omega, by go_num⟩
      case measure => simp [intOf]; omega
    · have e : j = k := by omega
      subst e
      have HC : Hid (∀ i, i < zs.length → w.cell? ⟨g, i, none⟩ = some (.int .i64 (zs.getD i 0))) := hc
      clear hc hlow
      generalize hzj : zs.getD j 0 = z at *
      have HZ : Hid (zs.getD j 0 = z) := hzj
      clear hzj
      have hne : (z == n) = false := by rw [beq_eq_false_iff_ne]; omega
      have hnl : ¬ z < n := by omega
      go_wp2_with (at_builtin; refine wpList_append_own _ rfl _ _ 22 rfl w.heap.size 3 i0 (.int .i64 0) 1 8 Try.underlying22 hi hz0 hz1 hz2 rfl (by decide) _ _ _ rfl (World.ownsRow_nil _ _ _ _) ⟨g, 0, none⟩ j _ ((zs.take j).map (Value.int .i64)) rfl (by simp; omega) ?c1 ?c2 ?c3 ?c4 ?c5 ?_)
      case c1 =>
        intro i u hi2
        obtain ⟨h1, h2, rfl⟩ := map_take_int zs j i u (by simpa using hi2)
        have := HC.out i h2
        simpa [add_off] using this
      case c2 => intro u hu; obtain ⟨x, _, rfl⟩ := List.mem_map.1 (List.mem_of_mem_take hu); rfl
      case c3 => unfold maxLen; omega
      case c4 => omega
      try (case c5 => simp)
      intro v1 w1 hown1 hgrow1 _
      have b1 : Below w.heap.size w w1 := (Below.refl _ w).grown hgrow1 (Nat.le_refl _) (fun k hk => by simp [Value.ownBlock] at hk)
      have s1 := b1.size
      clear hgrow1
      go_wp2_with (at_builtin; refine wpList_append_own _ rfl _ _ 22 rfl w.heap.size 3 i0 (.int .i64 0) 1 8 Try.underlying22 hi hz0 hz1 hz2 rfl (by decide) _ _ _ rfl (hown1.alloc _) ⟨w1.heap.size, 0, none⟩ 1 1 [.int .i64 n] rfl rfl ?d1 ?d2 ?d3 ?d4 ?d5 ?_)
      case d1 =>
        intro i u hi2
        match i, hi2 with
        | 0, hi2 => simp at hi2; subst hi2; simp [Addr.add]
      case d2 => intro u hu; simp at hu; subst hu; rfl
      case d3 => unfold maxLen; omega
      case d4 => omega
      case d5 => simp; omega
      intro v2 w2 hown2 hgrow2 _
      have b2 : Below w.heap.size w w2 := (b1.alloc s1 _).grown hgrow2 (by simp; omega) (fun k hk => (hown1.lt k hk).1)
      have s2 := b2.size
      clear hgrow2 hown1
      have HC2 : Hid (∀ i, i < zs.length → w2.cell? ⟨g, i, none⟩ = some (.int .i64 (zs.getD i 0))) := fun i hi3 => (b2.cell (p := ⟨g, i, none⟩) hgs).trans (HC.out i hi3)
      go_wp2_with (at_builtin; refine wpList_append_own _ rfl _ _ 22 rfl w.heap.size 3 i0 (.int .i64 0) 1 8 Try.underlying22 hi hz0 hz1 hz2 rfl (by decide) _ _ _ rfl hown2 ⟨g, j, none⟩ (zs.length - j) _ ((zs.drop j).map (Value.int .i64)) rfl (by simp) ?e1 ?e2 ?e3 ?e4 ?e5 ?_)
      case e1 =>
        intro i u hi2
        obtain ⟨h1, rfl⟩ := map_drop_int zs j i u (by simpa using hi2)
        have := HC2.out (j + i) h1
        simpa [add_off] using this
      case e2 => intro u hu; obtain ⟨x, _, rfl⟩ := List.mem_map.1 hu; rfl
      case e3 => unfold maxLen; omega
      case e4 => omega
      case e5 => omega
      intro v3 w3 hown3 hgrow3 _
      have b3 : Below w.heap.size w w3 := b2.grown hgrow3 s2 (fun k hk => (hown2.lt k hk).1)
      clear hgrow3 hown2
      go_wp2
      go_ret
      refine ⟨_, rfl, ?_, b3⟩
      have e1 : j + 1 + (zs.length - j) = zs.length + 1 := by omega
      rw [e1] at hown3
      simpa using hown3

theorem first_ge : ∀ (zs : List Int) (n : Int), (∃ x ∈ zs, n ≤ x) → ∃ k, k < zs.length ∧ (∀ j, j < k → zs.getD j 0 < n) ∧ n ≤ zs.getD k 0
  | [], n, ⟨x, hx, _⟩ => by simp at hx
  | y :: t, n, ⟨x, hx, hn⟩ => by
    by_cases h : n ≤ y
    · exact ⟨0, by simp, fun j hj => by omega, by simpa using h⟩
    · obtain ⟨k, h1, h2, h3⟩ := first_ge t n (by
        rcases List.mem_cons.1 hx with rfl | hx
        · omega
        · exact ⟨x, hx, hn⟩)
      refine ⟨k + 1, by simpa using h1, fun j hj => ?_, by simpa using h3⟩
      cases j with
      | zero => simp; omega
      | succ j => have := h2 j (by omega); simpa using this

theorem insert_any (B : Nat) (v : Value) (zs : List Int) (n : Int) (w : World) (hz : zs.length ≤ 999999) (hBw : B ≤ w.heap.size) (hv : IntsC w B v zs) (hx : ∃ x ∈ zs, n ≤ x) :
    Calls Try.prog 55 #[v, .int .i64 n] w fun e w' => ∃ v', e = .returned v' ∧ IntsC w' B v' (insL zs n) ∧ Below w.heap.size w w' := by
  have hv0 := hv
  obtain ⟨g, c, rfl, h1, h2, h3, h4, h5, h6⟩ := hv
  obtain ⟨k, hk, hlow, hge⟩ := first_ge zs n hx
  have hins := insL_at zs n k (by omega) hlow (fun _ => hge)
  by_cases he : zs.getD k 0 = n
  · rw [if_pos ⟨hk, he⟩] at hins
    rw [hins]
    refine (insert_same g c zs n k w (by omega) hk hlow he h6).mono ?_
    rintro e w' ⟨rfl, rfl⟩
    exact ⟨_, rfl, hv0, Below.refl _ _⟩
  · rw [if_neg (fun h => he h.2)] at hins
    refine (insert_new B g c zs n k w (by omega) h1 h2 hk hlow (by omega) h4 hBw h6).mono ?_
    rintro e w' ⟨v', rfl, hown, hb⟩
    refine ⟨v', rfl, ?_, hb⟩
    have hl : (insL zs n).length = zs.length + 1 := by rw [hins]; simp; omega
    rw [← hins, ← hl] at hown
    obtain ⟨g', c', e1, e2, e3, e4, e5⟩ := IntsC.of hown (by rw [hins]; simp)
    exact ⟨g', c', e1, e2, e3, by omega, e5⟩

set_option maxHeartbeats 400000 in
theorem ends_any (w : World) : Calls Try.prog 36 #[] w fun e w' => ∃ v', e = .returned v' ∧ IntsC w' w.heap.size v' [0, 1114112] ∧ Below w.heap.size w w' := by
  go_enter Try.func36, Try.ntmps36
  go_wp2
  go_ret
  refine ⟨_, rfl, ⟨w.heap.size, 2, rfl, by simp, by unfold maxLen; omega, Nat.le_refl _, by simp, ⟨_, heap_alloc_new w _⟩, fun j hj => ?_⟩, (Below.refl _ w).alloc (Nat.le_refl _) _⟩
  match j, hj with
  | 0, _ => simp
  | 1, _ => simp

end Go.Proofs.Ytbiiapdeincpbaa
