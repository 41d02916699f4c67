/- Texts of the proof, put together: RIns, RWant, REdges. -/
import Derived.Test.YtbjohedenfindaaGreatDoorPw03
import Derived.Test.YtbjohedenfindaaGreatDoorPw04
import Derived.Test.YtbjohedenfindaaGreatDoorPw02
namespace Go.Proofs.YtbjohedenfindaaGreatDoor
open Go.RowKit
set_option linter.unusedVariables false
set_option maxRecDepth 100000

/-- a list of numbers that lies in a row of ints, at least one -/
def IntsC (w : World) (B : Nat) (v : Value) (zs : List Int) : Prop :=
  ∃ g c, v = .slice (some ⟨g, 0, none⟩) zs.length c ∧ zs.length ≤ c ∧ c ≤ maxLen ∧ B ≤ g ∧ g < w.heap.size ∧ (∃ cur, w.heap[g]? = some (.cells cur 3 (0, 0))) ∧ ∀ j, j < zs.length → w.cell? ⟨g, j, none⟩ = some (.int .i64 (zs.getD j 0))

theorem IntsC.of {w : World} {B : Nat} {v : Value} {zs : List Int} (h : w.ownsRow B 3 1 v zs.length (zs.map (Value.int .i64))) (hne : zs ≠ []) : IntsC w B v zs := by
  have hpos := List.length_pos_iff.2 hne
  have hl := h.lt
  rcases h.2 with ⟨rfl, h0⟩ | ⟨g, cap, cur, rfl, hbg, hg, hnc, hcm, _⟩
  · omega
  · refine ⟨g, cap, rfl, hnc, hcm, hbg, (hl g rfl).2, ⟨cur, hg⟩, fun j hj => ?_⟩
    have := h.cellAt j (by omega)
    rw [this]
    simp [hj]

theorem IntsC.keep {w w' : World} {B : Nat} {v : Value} {zs : List Int} (h : IntsC w B v zs) (hk : ∀ (k : Nat) (cur : Array Value), w.heap[k]? = some (Obj.cells cur 3 (0, 0)) → w'.heap[k]? = w.heap[k]?) (hs : w.heap.size ≤ w'.heap.size) : IntsC w' B v zs := by
  obtain ⟨g, c, rfl, h1, h2, h3, h4, ⟨cur, h5⟩, h6⟩ := h
  have e := hk g cur h5
  exact ⟨g, c, rfl, h1, h2, h3, by omega, ⟨cur, by rw [e]; exact h5⟩, fun j hj => (World.cell?_of_block (a := ⟨g, j, none⟩) e).trans (h6 j hj)⟩

theorem map_take_int (zs : List Int) (k : Nat) (j : Nat) (u : Value) (h : ((zs.take k).map (Value.int .i64))[j]? = some u) : j < k ∧ j < zs.length ∧ u = .int .i64 (zs.getD j 0) := by
  obtain ⟨hj, e⟩ := List.getElem?_eq_some_iff.1 h
  simp at hj e
  refine ⟨by omega, by omega, ?_⟩
  rw [← e]
  have : j < zs.length := by omega
  simp [this]
theorem map_drop_int (zs : List Int) (k : Nat) (j : Nat) (u : Value) (h : ((zs.drop k).map (Value.int .i64))[j]? = some u) : k + j < zs.length ∧ u = .int .i64 (zs.getD (k + j) 0) := by
  obtain ⟨hj, e⟩ := List.getElem?_eq_some_iff.1 h
  simp at hj e
  refine ⟨by omega, ?_⟩
  rw [← e]
  have : k + j < zs.length := by omega
  simp [this]
theorem add_off (g o j : Nat) : (⟨g, o, none⟩ : Addr).add j = ⟨g, o + j, none⟩ := by
  unfold Addr.add
  split <;> simp_all

set_option maxHeartbeats 1000000 in
theorem insert_same (g c : Nat) (zs : List Int) (n : Int) (k : Nat) (w : World) (hz : zs.length ≤ 10000000) (hk : k < zs.length) (hlow : ∀ j, j < k → zs.getD j 0 < n) (he : zs.getD k 0 = n) (hc : ∀ j, j < zs.length → w.cell? ⟨g, j, none⟩ = some (.int .i64 (zs.getD j 0))) :
    Calls Tryz.prog 129 #[.slice (some ⟨g, 0, none⟩) zs.length c, .int .i64 n] w fun e w' => e = .returned (.slice (some ⟨g, 0, none⟩) zs.length c) ∧ w' = w := by
  go_enter Tryz.func129, Tryz.ntmps129
  go_wp2
  go_loop [5] (fun i => ∃ j : Nat, j ≤ k ∧ i = .int .i64 j) (fun i => k - (intOf i).toNat)
  case atStart => exact ⟨0, Nat.zero_le _, rfl⟩
  case round =>
    obtain ⟨j, hj, rfl⟩ := hrel
    have hcj := hc j (by omega)
    by_cases hlt : j < k
    · have hl := hlow j hlt
      clear hc hlow he
      generalize zs.getD j 0 = z at *
      have hjl : j < zs.length := by omega
      go_wp2
      go_round
      case rel => exact ⟨j + 1, by omega, by go_num⟩
      case measure => simp [intOf]; omega
    · have e : j = k := by omega
      subst e
      rw [he] at hcj
      clear hc hlow he
      go_wp2
      go_ret
      exact ⟨rfl, rfl⟩

set_option maxHeartbeats 2000000 in
theorem insert_new (B g c : Nat) (zs : List Int) (n : Int) (k : Nat) (w : World) (hz : zs.length ≤ 10000000) (hzc : zs.length ≤ c) (hcm : c ≤ maxLen) (hk : k < zs.length) (hlow : ∀ j, j < k → zs.getD j 0 < n) (he : n < zs.getD k 0) (hgs : g < w.heap.size) (hBw : B ≤ w.heap.size) (hc : ∀ j, j < zs.length → w.cell? ⟨g, j, none⟩ = some (.int .i64 (zs.getD j 0))) :
    Calls Tryz.prog 129 #[.slice (some ⟨g, 0, none⟩) zs.length c, .int .i64 n] w fun e w' => ∃ v', e = .returned v' ∧ w'.ownsRow w.heap.size 3 1 v' (zs.length + 1) ((zs.take k ++ n :: zs.drop k).map (Value.int .i64)) ∧ Below w.heap.size w w' := by
  obtain ⟨i0, hi, hz0, hz1, hz2⟩ := info_parts Tryz.infoInt
  unfold maxLen at hcm
  have hzl : zs.length ≤ 10000000 := hz
  go_enter Tryz.func129, Tryz.ntmps129
  go_wp2
  go_loop [5] (fun i => ∃ j : Nat, j ≤ k ∧ i = .int .i64 j) (fun i => k - (intOf i).toNat)
  case atStart => exact ⟨0, Nat.zero_le _, rfl⟩
  case round =>
    obtain ⟨j, hj, rfl⟩ := hrel
    have hcj := hc j (by omega)
    by_cases hlt : j < k
    · have hl := hlow j hlt
      clear hc hlow he
      generalize zs.getD j 0 = z at *
      have hjl : j < zs.length := by omega
      go_wp2
      go_round
      case rel => exact ⟨j + 1, by omega, by go_num⟩
      case measure => simp [intOf]; omega
    · have e : j = k := by omega
      subst e
      have HC : Hid (∀ i, i < zs.length → w.cell? ⟨g, i, none⟩ = some (.int .i64 (zs.getD i 0))) := hc
      clear hc hlow
      generalize hzj : zs.getD j 0 = z at *
      have HZ : Hid (zs.getD j 0 = z) := hzj
      clear hzj
      have hne : (z == n) = false := by rw [beq_eq_false_iff_ne]; omega
      have hnl : ¬ z < n := by omega
      go_wp2_with (at_builtin; refine wpList_append_own _ rfl _ _ 34 rfl w.heap.size 3 i0 (.int .i64 0) 1 8 Tryz.underlying34 hi hz0 hz1 hz2 rfl (by decide) _ _ _ rfl (World.ownsRow_nil _ _ _ _) ⟨g, 0, none⟩ j _ ((zs.take j).map (Value.int .i64)) rfl (by simp; omega) ?c1 ?c2 ?c3 ?c4 ?c5 ?_)
      case c1 =>
        intro i u hi2
        obtain ⟨h1, h2, rfl⟩ := map_take_int zs j i u (by simpa using hi2)
        have := HC.out i h2
        simpa [add_off] using this
      case c2 => intro u hu; obtain ⟨x, _, rfl⟩ := List.mem_map.1 (List.mem_of_mem_take hu); rfl
      case c3 => unfold maxLen; omega
      case c4 => omega
      try (case c5 => simp)
      intro v1 w1 hown1 hgrow1 _
      have b1 : Below w.heap.size w w1 := (Below.refl _ w).grown hgrow1 (Nat.le_refl _) (fun k hk => by simp [Value.ownBlock] at hk)
      have s1 := b1.size
      clear hgrow1
      go_wp2_with (at_builtin; refine wpList_append_own _ rfl _ _ 34 rfl w.heap.size 3 i0 (.int .i64 0) 1 8 Tryz.underlying34 hi hz0 hz1 hz2 rfl (by decide) _ _ _ rfl (hown1.alloc _) ⟨w1.heap.size, 0, none⟩ 1 1 [.int .i64 n] rfl rfl ?d1 ?d2 ?d3 ?d4 ?d5 ?_)
      case d1 =>
        intro i u hi2
        match i, hi2 with
        | 0, hi2 => simp at hi2; subst hi2; simp [Addr.add]
      case d2 => intro u hu; simp at hu; subst hu; rfl
      case d3 => unfold maxLen; omega
      case d4 => omega
      case d5 => simp; omega
      intro v2 w2 hown2 hgrow2 _
      have b2 : Below w.heap.size w w2 := (b1.alloc s1 _).grown hgrow2 (by simp; omega) (fun k hk => (hown1.lt k hk).1)
      have s2 := b2.size
      clear hgrow2 hown1
      have HC2 : Hid (∀ i, i < zs.length → w2.cell? ⟨g, i, none⟩ = some (.int .i64 (zs.getD i 0))) := fun i hi3 => (b2.cell (p := ⟨g, i, none⟩) hgs).trans (HC.out i hi3)
      go_wp2_with (at_builtin; refine wpList_append_own _ rfl _ _ 34 rfl w.heap.size 3 i0 (.int .i64 0) 1 8 Tryz.underlying34 hi hz0 hz1 hz2 rfl (by decide) _ _ _ rfl hown2 ⟨g, j, none⟩ (zs.length - j) _ ((zs.drop j).map (Value.int .i64)) rfl (by simp) ?e1 ?e2 ?e3 ?e4 ?e5 ?_)
      case e1 =>
        intro i u hi2
        obtain ⟨h1, rfl⟩ := map_drop_int zs j i u (by simpa using hi2)
        have := HC2.out (j + i) h1
        simpa [add_off] using this
      case e2 => intro u hu; obtain ⟨x, _, rfl⟩ := List.mem_map.1 hu; rfl
      case e3 => unfold maxLen; omega
      case e4 => omega
      case e5 => omega
      intro v3 w3 hown3 hgrow3 _
      have b3 : Below w.heap.size w w3 := b2.grown hgrow3 s2 (fun k hk => (hown2.lt k hk).1)
      clear hgrow3 hown2
      go_wp2
      go_ret
      refine ⟨_, rfl, ?_, b3⟩
      have e1 : j + 1 + (zs.length - j) = zs.length + 1 := by omega
      rw [e1] at hown3
      simpa using hown3

theorem first_ge : ∀ (zs : List Int) (n : Int), (∃ x ∈ zs, n ≤ x) → ∃ k, k < zs.length ∧ (∀ j, j < k → zs.getD j 0 < n) ∧ n ≤ zs.getD k 0
  | [], n, ⟨x, hx, _⟩ => by simp at hx
  | y :: t, n, ⟨x, hx, hn⟩ => by
    by_cases h : n ≤ y
    · exact ⟨0, by simp, fun j hj => by omega, by simpa using h⟩
    · obtain ⟨k, h1, h2, h3⟩ := first_ge t n (by
        rcases List.mem_cons.1 hx with rfl | hx
        · omega
        · exact ⟨x, hx, hn⟩)
      refine ⟨k + 1, by simpa using h1, fun j hj => ?_, by simpa using h3⟩
      cases j with
      | zero => simp; omega
      | succ j => have := h2 j (by omega); simpa using this

theorem insert_any (B : Nat) (v : Value) (zs : List Int) (n : Int) (w : World) (hz : zs.length ≤ 9999999) (hBw : B ≤ w.heap.size) (hv : IntsC w B v zs) (hx : ∃ x ∈ zs, n ≤ x) :
    Calls Tryz.prog 129 #[v, .int .i64 n] w fun e w' => ∃ v', e = .returned v' ∧ IntsC w' B v' (insL zs n) ∧ Below w.heap.size w w' := by
  have hv0 := hv
  obtain ⟨g, c, rfl, h1, h2, h3, h4, h5, h6⟩ := hv
  obtain ⟨k, hk, hlow, hge⟩ := first_ge zs n hx
  have hins := insL_at zs n k (by omega) hlow (fun _ => hge)
  by_cases he : zs.getD k 0 = n
  · rw [if_pos ⟨hk, he⟩] at hins
    rw [hins]
    refine (insert_same g c zs n k w (by omega) hk hlow he h6).mono ?_
    rintro e w' ⟨rfl, rfl⟩
    exact ⟨_, rfl, hv0, Below.refl _ _⟩
  · rw [if_neg (fun h => he h.2)] at hins
    refine (insert_new B g c zs n k w (by omega) h1 h2 hk hlow (by omega) h4 hBw h6).mono ?_
    rintro e w' ⟨v', rfl, hown, hb⟩
    refine ⟨v', rfl, ?_, hb⟩
    have hl : (insL zs n).length = zs.length + 1 := by rw [hins]; simp; omega
    rw [← hins, ← hl] at hown
    obtain ⟨g', c', e1, e2, e3, e4, e5⟩ := IntsC.of hown (by rw [hins]; simp)
    exact ⟨g', c', e1, e2, e3, by omega, e5⟩

set_option maxHeartbeats 400000 in
theorem ends_any (w : World) : Calls Tryz.prog 109 #[] w fun e w' => ∃ v', e = .returned v' ∧ IntsC w' w.heap.size v' [0, 1114112] ∧ Below w.heap.size w w' := by
  go_enter Tryz.func109, Tryz.ntmps109
  go_wp2
  go_ret
  refine ⟨_, rfl, ⟨w.heap.size, 2, rfl, by simp, by unfold maxLen; omega, Nat.le_refl _, by simp, ⟨_, heap_alloc_new w _⟩, fun j hj => ?_⟩, (Below.refl _ w).alloc (Nat.le_refl _) _⟩
  match j, hj with
  | 0, _ => simp
  | 1, _ => simp

end Go.Proofs.YtbjohedenfindaaGreatDoor

namespace Go.Proofs.YtbjohedenfindaaGreatDoor
open Go.RowKit
set_option linter.unusedVariables false
set_option maxRecDepth 100000

def wantR (how : Int) (x y : Bool) : Bool := if how = 1 then x || y else if how = 2 then x && y else x && !y

set_option maxHeartbeats 400000 in
theorem wanted_1 (va vb : Value) (a b : List Rg) (p : Int) (w : World) (hla : a.length ≤ 1000000) (hlb : b.length ≤ 1000000) (ha : Rngs w va a) (hb : Rngs w vb b) :
    Calls Tryz.prog 111 #[va, vb, .int .i64 1, .int .i64 p] w fun e w' => e = .returned (.bool (wantR 1 (hasB a p) (hasB b p))) ∧ w' = w := by
  have h1 := rhas_any va p a w hla ha
  have h2 := rhas_any vb p b w hlb hb
  generalize hasB a p = x at *
  generalize hasB b p = y at *
  have H1 : Hid (Calls Tryz.prog 67 #[va, .int .i64 p] w fun e w' => e = .returned (.bool x) ∧ w' = w) := h1
  have H2 : Hid (Calls Tryz.prog 67 #[vb, .int .i64 p] w fun e w' => e = .returned (.bool y) ∧ w' = w) := h2
  clear h1 h2 ha hb
  cases x
  all_goals
    go_enter Tryz.func111, Tryz.ntmps111
    go_wp2_with fail
    refine (H1.out).mono ?_
    rintro e w1 ⟨rfl, rfl⟩
    go_wp2_with fail
    refine (H2.out).mono ?_
    rintro e w2 ⟨rfl, rfl⟩
    go_wp2
    go_ret
    exact ⟨by simp [wantR], rfl⟩

set_option maxHeartbeats 400000 in
theorem wanted_3 (va vb : Value) (a b : List Rg) (p : Int) (w : World) (hla : a.length ≤ 1000000) (hlb : b.length ≤ 1000000) (ha : Rngs w va a) (hb : Rngs w vb b) :
    Calls Tryz.prog 111 #[va, vb, .int .i64 3, .int .i64 p] w fun e w' => e = .returned (.bool (wantR 3 (hasB a p) (hasB b p))) ∧ w' = w := by
  have h1 := rhas_any va p a w hla ha
  have h2 := rhas_any vb p b w hlb hb
  generalize hasB a p = x at *
  generalize hasB b p = y at *
  have H1 : Hid (Calls Tryz.prog 67 #[va, .int .i64 p] w fun e w' => e = .returned (.bool x) ∧ w' = w) := h1
  have H2 : Hid (Calls Tryz.prog 67 #[vb, .int .i64 p] w fun e w' => e = .returned (.bool y) ∧ w' = w) := h2
  clear h1 h2 ha hb
  cases x
  all_goals
    go_enter Tryz.func111, Tryz.ntmps111
    go_wp2_with fail
    refine (H1.out).mono ?_
    rintro e w1 ⟨rfl, rfl⟩
    go_wp2_with fail
    refine (H2.out).mono ?_
    rintro e w2 ⟨rfl, rfl⟩
    go_wp2
    go_ret
    exact ⟨by simp [wantR], rfl⟩

end Go.Proofs.YtbjohedenfindaaGreatDoor

namespace Go.Proofs.YtbjohedenfindaaGreatDoor
open Go.RowKit
set_option linter.unusedVariables false
set_option maxRecDepth 100000

theorem take_snoc_rg (l : List Rg) (k : Nat) (h : k < l.length) : l.take (k + 1) = l.take k ++ [l.getD k (0, 0)] := by
  rw [List.take_succ_eq_append_getElem h]
  simp [h]

theorem insert_cuts (B : Nat) (v : Value) (zs : List Int) (n : Int) (w : World) (hz : zs.length ≤ 9999999) (hBw : B ≤ w.heap.size) (hv : IntsC w B v zs) (hc : Cuts zs) (hn : n ≤ 1114112) :
    Calls Tryz.prog 129 #[v, .int .i64 n] w fun e w' => ∃ v', e = .returned v' ∧ IntsC w' B v' (insL zs n) ∧ Below w.heap.size w w' :=
  insert_any B v zs n w hz hBw hv ⟨1114112, hc.top, hn⟩

set_option maxHeartbeats 2000000 in
theorem edges_row (B b off c : Nat) (v : Value) (zs : List Int) (l : List Rg) (w : World) (hl : l.length ≤ 1000000) (hz : zs.length ≤ 5000000) (hBw : B ≤ w.heap.size) (hv : IntsC w B v zs) (hcut : Cuts zs) (hb : b < w.heap.size) (hc : ∀ j, j < l.length → w.cell? ⟨b, off + j * 2, none⟩ = some (.int .i64 (l.getD j (0, 0)).1) ∧ w.cell? ⟨b, off + j * 2 + 1, none⟩ = some (.int .i64 (l.getD j (0, 0)).2)) :
    Calls Tryz.prog 110 #[v, .slice (some ⟨b, off, none⟩) l.length c] w fun e w' => ∃ v', e = .returned v' ∧ IntsC w' B v' (edgesL zs l) ∧ Below w.heap.size w w' := by
  go_enter Tryz.func110, Tryz.ntmps110
  go_wp2
  go_loopw [0, 5] (fun x i wr => ∃ k : Nat, k ≤ l.length ∧ i = .int .i64 k ∧ IntsC wr B x (edgesL zs (l.take k)) ∧ Below w.heap.size w wr) (fun _ i _ => l.length - (intOf i).toNat)
  case atStart => exact ⟨0, Nat.zero_le _, rfl, hv, Below.refl _ _⟩
  case round =>
    obtain ⟨k, hk, rfl, hI, hbw⟩ := hrel
    by_cases hlt : k < l.length
    · have hsz := hbw.size
      obtain ⟨d0, d1⟩ := hc k hlt
      have c0 := (hbw.cell (p := ⟨b, off + k * 2, none⟩) hb).trans d0
      have c1 := (hbw.cell (p := ⟨b, off + k * 2 + 1, none⟩) hb).trans d1
      have hT := take_snoc_rg l k hlt
      have hE : edgesL zs (l.take (k + 1)) = edgeHi (edgeLo (edgesL zs (l.take k)) (l.getD k (0, 0))) (l.getD k (0, 0)) := by rw [hT, edgesL_snoc]
      have hcu := edgesL_cuts (l.take k) hcut
      have hln := edgesL_len (l.take k) zs
      have htk : (l.take k).length ≤ k := List.length_take_le _ _
      clear hc hT
      generalize hr : l.getD k (0, 0) = r at *
      have HR : Hid (l.getD k (0, 0) = r) := hr
      clear hr
      generalize edgesL zs (l.take k) = zk at *
      obtain ⟨lo, hi⟩ := r
      simp only at c0 c1 d0 d1
      have HE : Hid (edgesL zs (l.take (k + 1)) = edgeHi (edgeLo zk (lo, hi)) (lo, hi)) := hE
      clear hE
      have hzk : zk.length ≤ 9999998 := by omega
      by_cases a1 : 0 < lo
      · by_cases a2 : lo ≤ 1114111
        · by_cases b1 : 0 ≤ hi
          · by_cases b2 : hi < 1114111
            · have HL : Hid (edgeLo zk (lo, hi) = insL zk lo) := by show _ = _; unfold edgeLo; rw [if_pos ⟨by simpa using a1, by simpa using a2⟩]
              have HH : Hid (edgeHi (edgeLo zk (lo, hi)) (lo, hi) = insL (edgeLo zk (lo, hi)) (hi + 1)) := by show _ = _; unfold edgeHi; rw [if_pos ⟨by simpa using b1, by simpa using b2⟩]
              have hin := insL_len zk lo
              have hcu2 := hcu.ins lo (by omega) (by omega)
              go_wp2_with fail
              refine (insert_cuts B _ zk lo _ (by omega) (by omega) hI hcu (by omega)).mono ?_
              rintro e w1 ⟨v1, rfl, hI1, hb1⟩
              have hbw1 := hbw.trans (hb1.mono hsz)
              have hsz1 := hbw1.size
              have c0' := (hbw1.cell (p := ⟨b, off + k * 2, none⟩) hb).trans d0
              have c1' := (hbw1.cell (p := ⟨b, off + k * 2 + 1, none⟩) hb).trans d1
              clear c0 c1 hI hb1 hbw
              go_wp2_with fail
              refine (insert_cuts B _ (insL zk lo) (hi + 1) _ (by omega) (by omega) hI1 hcu2 (by omega)).mono ?_
              rintro e w2 ⟨v2, rfl, hI2, hb2⟩
              have hbw2 := hbw1.trans (hb2.mono hsz1)
              go_wp2
              go_roundw
              case rel => exact ⟨k + 1, by omega, by go_num, by rw [HE.out, HH.out, HL.out]; exact hI2, hbw2⟩
              case measure => simp [intOf]; omega
            · have HL : Hid (edgeLo zk (lo, hi) = insL zk lo) := by show _ = _; unfold edgeLo; rw [if_pos ⟨by simpa using a1, by simpa using a2⟩]
              have HH : Hid (edgeHi (edgeLo zk (lo, hi)) (lo, hi) = (edgeLo zk (lo, hi))) := by show _ = _; unfold edgeHi; rw [if_neg (by simp; omega)]
              have hin := insL_len zk lo
              have hcu2 := hcu.ins lo (by omega) (by omega)
              go_wp2_with fail
              refine (insert_cuts B _ zk lo _ (by omega) (by omega) hI hcu (by omega)).mono ?_
              rintro e w1 ⟨v1, rfl, hI1, hb1⟩
              have hbw1 := hbw.trans (hb1.mono hsz)
              have hsz1 := hbw1.size
              have c0' := (hbw1.cell (p := ⟨b, off + k * 2, none⟩) hb).trans d0
              have c1' := (hbw1.cell (p := ⟨b, off + k * 2 + 1, none⟩) hb).trans d1
              clear c0 c1 hI hb1 hbw
              go_wp2_with fail
              go_roundw
              case rel => exact ⟨k + 1, by omega, by go_num, by rw [HE.out, HH.out, HL.out]; exact hI1, hbw1⟩
              case measure => simp [intOf]; omega
          · have HL : Hid (edgeLo zk (lo, hi) = insL zk lo) := by show _ = _; unfold edgeLo; rw [if_pos ⟨by simpa using a1, by simpa using a2⟩]
            have HH : Hid (edgeHi (edgeLo zk (lo, hi)) (lo, hi) = (edgeLo zk (lo, hi))) := by show _ = _; unfold edgeHi; rw [if_neg (by simp; omega)]
            have hin := insL_len zk lo
            have hcu2 := hcu.ins lo (by omega) (by omega)
            go_wp2_with fail
            refine (insert_cuts B _ zk lo _ (by omega) (by omega) hI hcu (by omega)).mono ?_
            rintro e w1 ⟨v1, rfl, hI1, hb1⟩
            have hbw1 := hbw.trans (hb1.mono hsz)
            have hsz1 := hbw1.size
            have c0' := (hbw1.cell (p := ⟨b, off + k * 2, none⟩) hb).trans d0
            have c1' := (hbw1.cell (p := ⟨b, off + k * 2 + 1, none⟩) hb).trans d1
            clear c0 c1 hI hb1 hbw
            go_wp2_with fail
            go_roundw
            case rel => exact ⟨k + 1, by omega, by go_num, by rw [HE.out, HH.out, HL.out]; exact hI1, hbw1⟩
            case measure => simp [intOf]; omega
        · by_cases b1 : 0 ≤ hi
          · by_cases b2 : hi < 1114111
            · have HL : Hid (edgeLo zk (lo, hi) = zk) := by show _ = _; unfold edgeLo; rw [if_neg (by simp; omega)]
              have HH : Hid (edgeHi (edgeLo zk (lo, hi)) (lo, hi) = insL (edgeLo zk (lo, hi)) (hi + 1)) := by show _ = _; unfold edgeHi; rw [if_pos ⟨by simpa using b1, by simpa using b2⟩]
              go_wp2_with fail
              refine (insert_cuts B _ (zk) (hi + 1) _ (by omega) (by omega) hI hcu (by omega)).mono ?_
              rintro e w2 ⟨v2, rfl, hI2, hb2⟩
              have hbw2 := hbw.trans (hb2.mono hsz)
              go_wp2
              go_roundw
              case rel => exact ⟨k + 1, by omega, by go_num, by rw [HE.out, HH.out, HL.out]; exact hI2, hbw2⟩
              case measure => simp [intOf]; omega
            · have HL : Hid (edgeLo zk (lo, hi) = zk) := by show _ = _; unfold edgeLo; rw [if_neg (by simp; omega)]
              have HH : Hid (edgeHi (edgeLo zk (lo, hi)) (lo, hi) = (edgeLo zk (lo, hi))) := by show _ = _; unfold edgeHi; rw [if_neg (by simp; omega)]
              go_wp2_with fail
              go_roundw
              case rel => exact ⟨k + 1, by omega, by go_num, by rw [HE.out, HH.out, HL.out]; exact hI, hbw⟩
              case measure => simp [intOf]; omega
          · have HL : Hid (edgeLo zk (lo, hi) = zk) := by show _ = _; unfold edgeLo; rw [if_neg (by simp; omega)]
            have HH : Hid (edgeHi (edgeLo zk (lo, hi)) (lo, hi) = (edgeLo zk (lo, hi))) := by show _ = _; unfold edgeHi; rw [if_neg (by simp; omega)]
            go_wp2_with fail
            go_roundw
            case rel => exact ⟨k + 1, by omega, by go_num, by rw [HE.out, HH.out, HL.out]; exact hI, hbw⟩
            case measure => simp [intOf]; omega
      · by_cases b1 : 0 ≤ hi
        · by_cases b2 : hi < 1114111
          · have HL : Hid (edgeLo zk (lo, hi) = zk) := by show _ = _; unfold edgeLo; rw [if_neg (by simp; omega)]
            have HH : Hid (edgeHi (edgeLo zk (lo, hi)) (lo, hi) = insL (edgeLo zk (lo, hi)) (hi + 1)) := by show _ = _; unfold edgeHi; rw [if_pos ⟨by simpa using b1, by simpa using b2⟩]
            go_wp2_with fail
            refine (insert_cuts B _ (zk) (hi + 1) _ (by omega) (by omega) hI hcu (by omega)).mono ?_
            rintro e w2 ⟨v2, rfl, hI2, hb2⟩
            have hbw2 := hbw.trans (hb2.mono hsz)
            go_wp2
            go_roundw
            case rel => exact ⟨k + 1, by omega, by go_num, by rw [HE.out, HH.out, HL.out]; exact hI2, hbw2⟩
            case measure => simp [intOf]; omega
          · have HL : Hid (edgeLo zk (lo, hi) = zk) := by show _ = _; unfold edgeLo; rw [if_neg (by simp; omega)]
            have HH : Hid (edgeHi (edgeLo zk (lo, hi)) (lo, hi) = (edgeLo zk (lo, hi))) := by show _ = _; unfold edgeHi; rw [if_neg (by simp; omega)]
            go_wp2_with fail
            go_roundw
            case rel => exact ⟨k + 1, by omega, by go_num, by rw [HE.out, HH.out, HL.out]; exact hI, hbw⟩
            case measure => simp [intOf]; omega
        · have HL : Hid (edgeLo zk (lo, hi) = zk) := by show _ = _; unfold edgeLo; rw [if_neg (by simp; omega)]
          have HH : Hid (edgeHi (edgeLo zk (lo, hi)) (lo, hi) = (edgeLo zk (lo, hi))) := by show _ = _; unfold edgeHi; rw [if_neg (by simp; omega)]
          go_wp2_with fail
          go_roundw
          case rel => exact ⟨k + 1, by omega, by go_num, by rw [HE.out, HH.out, HL.out]; exact hI, hbw⟩
          case measure => simp [intOf]; omega
    · have HT : Hid (l.take k = l) := List.take_of_length_le (by omega)
      go_wp2
      go_ret
      exact ⟨_, rfl, by rw [← HT.out]; exact hI, hbw⟩

set_option maxHeartbeats 400000 in
theorem edges_empty (B : Nat) (a : Option Addr) (c : Nat) (v : Value) (zs : List Int) (w : World) (hv : IntsC w B v zs) :
    Calls Tryz.prog 110 #[v, .slice a 0 c] w fun e w' => ∃ v', e = .returned v' ∧ IntsC w' B v' (edgesL zs []) ∧ Below w.heap.size w w' := by
  go_enter Tryz.func110, Tryz.ntmps110
  go_wp2
  refine wp_loop_rounds 1 ?_
  rw [rounds_succ]
  go_wp2
  go_ret
  exact ⟨_, rfl, hv, Below.refl _ _⟩

theorem edges_any (B : Nat) (v vs : Value) (zs : List Int) (l : List Rg) (w : World) (hl : l.length ≤ 1000000) (hz : zs.length ≤ 5000000) (hBw : B ≤ w.heap.size) (hv : IntsC w B v zs) (hcut : Cuts zs) (hs : Rngs w vs l) :
    Calls Tryz.prog 110 #[v, vs] w fun e w' => ∃ v', e = .returned v' ∧ IntsC w' B v' (edgesL zs l) ∧ Below w.heap.size w w' := by
  rcases hs with ⟨rfl, a, c, rfl⟩ | ⟨b, off, c, rfl, hb, hc⟩
  · exact edges_empty B a c v zs w hv
  · exact edges_row B b off c v zs l w hl hz hBw hv hcut hb hc

end Go.Proofs.YtbjohedenfindaaGreatDoor
