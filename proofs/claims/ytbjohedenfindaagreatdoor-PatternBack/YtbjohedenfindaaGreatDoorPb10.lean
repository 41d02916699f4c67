/- Texts of the proof, put together: PBas, PEsc, PEscW, PEscU. -/
import Derived.Test.YtbjohedenfindaaGreatDoorPb09
import Derived.Test.YtbjohedenfindaaGreatDoorPb01
import Derived.RegionDies
import Derived.Maps.OwnOps
namespace Go.Proofs.YtbjohedenfindaaGreatDoor
open Go.RowKit
set_option linter.unusedVariables false
set_option maxRecDepth 100000

theorem LibC.synAt {W0 w : World} (L : LibC W0) (h : Env W0 w) : ∃ te pe, w.cell? ⟨0, 0, none⟩ = some (.iface te pe) := by
  obtain ⟨te, pe, e⟩ := L.syn
  exact ⟨te, pe, (World.cell?_of_block (a := ⟨0, 0, none⟩) (h.2 0 (by omega))).trans e⟩
theorem LibC.bndAt {W0 w : World} (L : LibC W0) (h : Env W0 w) : ∃ te pe, w.cell? ⟨1, 0, none⟩ = some (.iface te pe) := by
  obtain ⟨te, pe, e⟩ := L.bnd
  exact ⟨te, pe, (World.cell?_of_block (a := ⟨1, 0, none⟩) (h.2 1 (by omega))).trans e⟩

set_option maxHeartbeats 1000000 in
theorem want_yes {W0 w : World} (L : LibC W0) {R i o M : Nat} {s : ByteArray} (h : St W0 w R s i o M) (c : Int) (hc : cpAt s i = c) :
    Calls Tryz.prog 43 #[.pointer (some ⟨R, 0, none⟩), .int .i32 c] w fun e w' => e = .returned (.tuple #[]) ∧ w.grownBy w' (some R) ∧ St W0 w' R s (i + szAt s i) o M := by
  have HT : Hid (Calls Tryz.prog 72 #[.pointer (some ⟨R, 0, none⟩), .int .i32 c] w fun e w' => e = .returned (.bool true) ∧ w.grownBy w' (some R) ∧ St W0 w' R s (i + szAt s i) o M) := take_yes L h c hc
  clear h hc
  go_enter Tryz.func43, Tryz.ntmps43
  go_wp2_with fail
  refine HT.out.mono ?_
  rintro e w1 ⟨rfl, hg, hS⟩
  go_wp2
  go_end0
  exact ⟨rfl, hg, hS⟩

set_option maxHeartbeats 1000000 in
theorem want_no {W0 w : World} (L : LibC W0) {R i o M : Nat} {s : ByteArray} (h : St W0 w R s i o M) (c : Int) (hc : cpAt s i ≠ c) :
    Calls Tryz.prog 43 #[.pointer (some ⟨R, 0, none⟩), .int .i32 c] w fun e w' => Thrown e ∧ w.grownBy w' (some R) := by
  have HT : Hid (Calls Tryz.prog 72 #[.pointer (some ⟨R, 0, none⟩), .int .i32 c] w fun e w' => e = .returned (.bool false) ∧ w.grownBy w' (some R) ∧ St W0 w' R s i o M) := take_no L h c hc
  clear h hc
  go_enter Tryz.func43, Tryz.ntmps43
  go_wp2_with fail
  refine HT.out.mono ?_
  rintro e w1 ⟨rfl, hg, hS⟩
  obtain ⟨_, c1, _, _⟩ := hS.at_.cells
  obtain ⟨te, pe, c2⟩ := L.synAt hS.env
  clear hS
  go_wp2
  go_region_dies
  all_goals (go_at_call 40; refine (throw_any _ _ _ _).mono ?_; rintro e w' ⟨⟨f, rfl⟩, hg2⟩; exact ⟨rfl, ⟨f, rfl⟩, Lib.grownBy_trans hg (grownBy_undrew (n := 1) (hg2 _))⟩)

/-- what a function of the reader answers: what it read, and the reader behind it; or it throws -/
def Got {α : Type} (W0 w : World) (R : Nat) (s : ByteArray) (o M : Nat) (r : Option (α × Nat)) (Val : α → World → Value → Prop) (e : Ending) (w' : World) : Prop :=
  w.grownBy w' (some R) ∧ match r with
    | none => Thrown e
    | some x => ∃ v, e = .returned v ∧ Val x.1 w' v ∧ St W0 w' R s x.2 o M

theorem Got.ok {α : Type} {W0 w w' : World} {R : Nat} {s : ByteArray} {o M : Nat} {r : Option (α × Nat)} {Val : α → World → Value → Prop} {x : α × Nat} (hx : r = some x) (hg : w.grownBy w' (some R)) {v : Value} (hv : Val x.1 w' v) (hS : St W0 w' R s x.2 o M) : Got W0 w R s o M r Val (.returned v) w' := by
  subst hx; exact ⟨hg, v, rfl, hv, hS⟩
theorem Got.bad {α : Type} {W0 w w' : World} {R : Nat} {s : ByteArray} {o M : Nat} {r : Option (α × Nat)} {Val : α → World → Value → Prop} (hx : r = none) (hg : w.grownBy w' (some R)) {e : Ending} (he : Thrown e) : Got W0 w R s o M r Val e w' := by
  subst hx; exact ⟨hg, he⟩
theorem Got.both {α : Type} {W0 w w' : World} {R : Nat} {s : ByteArray} {o M : Nat} {r : Option (α × Nat)} {Val : α → World → Value → Prop} {e : Ending} (h : Got W0 w R s o M r Val e w') : w.grownBy w' (some R) ∧ ((r = none ∧ Thrown e) ∨ ∃ x v, r = some x ∧ e = .returned v ∧ Val x.1 w' v ∧ St W0 w' R s x.2 o M) := by
  refine ⟨h.1, ?_⟩
  cases r with
  | none => exact Or.inl ⟨rfl, h.2⟩
  | some x => obtain ⟨v, h1, h2, h3⟩ := h.2; exact Or.inr ⟨x, v, rfl, h1, h2, h3⟩
theorem wrap_id (z : Int) (h0 : -9223372036854775808 ≤ z) (h1 : z ≤ 9223372036854775807) : IntKind.i64.wrap z = z := by
  simp [IntKind.wrap, IntKind.bits, IntKind.signed]
  split <;> omega

set_option maxHeartbeats 1000000 in
theorem enter_ok {W0 w : World} {R i o M : Nat} {s : ByteArray} (h : St W0 w R s i o M) (ho : o < 100) (hi : i < s.size) :
    Calls Tryz.prog 152 #[.pointer (some ⟨R, 0, none⟩)] w fun e w' => e = .returned (.tuple #[]) ∧ w.grownBy w' (some R) ∧ St W0 w' R s (i + 1) (o + 1) M := by
  have HS : Hid (St W0 w R s i o M) := h
  obtain ⟨_, c1, c2, _⟩ := h.at_.cells
  have f1 := h.at_.frozen 1
  have f2 := h.at_.frozen 2
  have hs := h.text
  have hq : ((o : Int) == 100) = false := by rw [beq_eq_false_iff_ne]; omega
  clear h
  go_enter Tryz.func152, Tryz.ntmps152
  go_wp2
  go_end0
  have hg2 : w.grownBy ((w.setCell ⟨R, 2, none⟩ (.int .i64 ((o : Int) + 1))).setCell ⟨R, 1, none⟩ (.int .i64 ((i : Int) + 1))) (some R) := Lib.grownBy_setB (Lib.grownBy_setCell w R 2 _) 1 _
  refine ⟨rfl, hg2, HS.out.step hg2 hi ?_⟩
  have := (HS.out.at_.set2 (o + 1)).set1 (i + 1)
  simpa using this

set_option maxHeartbeats 1000000 in
theorem enter_full {W0 w : World} (L : LibC W0) {R i M : Nat} {s : ByteArray} (h : St W0 w R s i 100 M) :
    Calls Tryz.prog 152 #[.pointer (some ⟨R, 0, none⟩)] w fun e w' => Thrown e ∧ w.grownBy w' (some R) := by
  obtain ⟨_, c1, c2, _⟩ := h.at_.cells
  obtain ⟨te, pe, c3⟩ := L.bndAt h.env
  clear h
  go_enter Tryz.func152, Tryz.ntmps152
  go_wp2
  go_region_dies
  all_goals (go_at_call 40; refine (throw_any _ _ _ _).mono ?_; rintro e w' ⟨⟨f, rfl⟩, hg2⟩; exact ⟨rfl, ⟨f, rfl⟩, grownBy_undrew (n := 1) (hg2 _)⟩)

set_option maxHeartbeats 1000000 in
theorem setOf_any {B : Nat} (v : Value) (l : List Rg) (w : World) (hB : B ≤ w.heap.size) (hv : RowR (fun b => B ≤ b) w v l) :
    Calls Tryz.prog 154 #[v] w fun e w' => ∃ u, e = .returned u ∧ Tree (fun b => B ≤ b) w' u (setRe l) ∧ ∀ row, w.grownBy w' row := by
  have HV : Hid (RowR (fun b => B ≤ b) w v l) := hv
  obtain ⟨a, n, c, rfl⟩ : ∃ a n c, v = .slice a n c := by
    rcases hv with ⟨_, a, c, h⟩ | ⟨b, off, c, h, _⟩
    · exact ⟨_, _, _, h⟩
    · exact ⟨_, _, _, h⟩
  clear hv
  go_enter Tryz.func154, Tryz.ntmps154
  go_wp2
  go_ret
  have hg : ∀ row, w.grownBy (w.alloc (.cells #[.int .i64 1, .slice a n c, .int .i64 0, .int .i64 0, .slice none 0 0] 48)) row := fun row => World.grownBy_alloc w _ row
  refine ⟨_, rfl, ⟨1, w.heap.size, _, _, rfl, hB, heap_alloc_new w _, HV.out.grown (hg none) (by simp), Or.inl ⟨rfl, none, 0, rfl⟩⟩, hg⟩

set_option maxHeartbeats 1000000 in
theorem gather_one (kind : Int) (g cap b : Nat) (w : World) (hc : w.cell? ⟨g, 0, none⟩ = some (.pointer (some ⟨b, 0, none⟩))) :
    Calls Tryz.prog 103 #[.int .i64 kind, .slice (some ⟨g, 0, none⟩) 1 cap] w fun e w' => e = .returned (.pointer (some ⟨b, 0, none⟩)) ∧ w' = w := by
  go_enter Tryz.func103, Tryz.ntmps103
  go_wp2
  go_ret
  exact ⟨rfl, rfl⟩

set_option maxHeartbeats 1000000 in
theorem gather_more (kind : Int) (a : Option Addr) (n cap : Nat) (w : World) (hn : n ≠ 1) :
    Calls Tryz.prog 103 #[.int .i64 kind, .slice a n cap] w fun e w' => e = .returned (.pointer (some ⟨w.heap.size, 0, none⟩)) ∧ w' = w.alloc (.cells #[.int .i64 kind, .slice none 0 0, .int .i64 0, .int .i64 0, .slice a n cap] 48) := by
  have hq : ((n : Int) == 1) = false := by rw [beq_eq_false_iff_ne]; omega
  go_enter Tryz.func103, Tryz.ntmps103
  go_wp2
  go_ret
  exact ⟨rfl, rfl⟩

theorem ptrs_slice {w : World} {B : Nat} {v : Value} {l : List Re} (h : PtrsOwn w B v l) : ∃ a c, v = .slice a l.length c := by
  obtain ⟨vs, hl, hown, _⟩ := h
  rcases hown.2 with ⟨rfl, h0⟩ | ⟨g, cap, cur, rfl, _⟩
  · exact ⟨none, 0, by rw [← hl, h0]⟩
  · exact ⟨_, _, by rw [← hl]⟩

theorem PtrsOwn.grown {w w' : World} {B : Nat} {row : Option Nat} {v : Value} {l : List Re} (h : PtrsOwn w B v l) (hr : ∀ k, row = some k → k < B) (hg : w.grownBy w' row) : PtrsOwn w' B v l := by
  obtain ⟨vs, hl, hown, hall⟩ := h
  refine ⟨vs, hl, hown.kept hg ?_, fun j hj => ?_⟩
  · cases hb : v.ownBlock with
    | none => exact Or.inl rfl
    | some k => right; intro e; have := (hown.lt k hb).1; have := hr k e.symm; omega
  · obtain ⟨t, h1, h2⟩ := hall j hj
    exact ⟨t, h1, h2.grown hg fun b hok e => by have := hr b e.symm; omega⟩

theorem gather_any {B : Nat} (kind : Int) (v : Value) (l : List Re) (w : World) (hBw : B ≤ w.heap.size) (hv : PtrsOwn w B v l) :
    Calls Tryz.prog 103 #[.int .i64 kind, v] w fun e w' => ∃ u, e = .returned u ∧ Tree (fun b => B ≤ b) w' u (gatherS kind l) ∧ ∀ row, w.grownBy w' row := by
  by_cases h1 : l.length = 1
  · obtain ⟨vs, hl, hown, hall⟩ := hv
    obtain ⟨t, ht, hT⟩ := hall 0 (by omega)
    obtain ⟨t', rfl⟩ := List.length_eq_one_iff.1 h1
    have e : t' = t := by simpa using ht
    subst e
    rcases hown.2 with ⟨rfl, h0⟩ | ⟨g, cap, cur, rfl, _⟩
    · simp at hl; omega
    · have hc := hown.cellAt 0 (by omega)
      have hc' : w.cell? ⟨g, 0, none⟩ = some (vs.getD 0 .nilFunc) := by
        have h0 : 0 < vs.length := by omega
        rw [show (⟨g, 0, none⟩ : Addr) = ⟨g, 0 * 1, none⟩ by simp]
        first | (rw [hc]; simp [h0]) | (simpa [h0] using hc)
      have hl1 : vs.length = 1 := by simpa using hl
      rw [hl1]
      obtain ⟨b, hb, _⟩ := hT.ptr
      rw [hb] at hc' hT
      refine (gather_one kind g cap b w hc').mono ?_
      rintro e w' ⟨rfl, rfl⟩
      exact ⟨_, rfl, hT.imp fun b _ h => h.1, fun row => World.grownBy.refl _ _⟩
  · obtain ⟨a, c, rfl⟩ := ptrs_slice hv
    refine (gather_more kind a l.length c w h1).mono ?_
    rintro e w' ⟨rfl, rfl⟩
    have hg : ∀ row, w.grownBy (w.alloc (.cells #[.int .i64 kind, .slice none 0 0, .int .i64 0, .int .i64 0, .slice a l.length c] 48)) row := fun row => World.grownBy_alloc w _ row
    refine ⟨_, rfl, ?_, hg⟩
    have e : gatherS kind l = ⟨kind, [], 0, 0, l.map some⟩ := by
      match l, h1 with
      | [], _ => rfl
      | [p], h => simp at h
      | p :: q :: r, _ => rfl
    rw [e]
    exact tree_node (heap_alloc_new w _) hBw (Or.inl ⟨rfl, none, 0, rfl⟩) (hv.grown (row := none) (by simp) (hg _))

set_option maxHeartbeats 1000000 in
theorem rowEnds_any {W0 w : World} (L : LibC W0) {R i o M : Nat} {s : ByteArray} (h : St W0 w R s i o M) :
    Calls Tryz.prog 124 #[.pointer (some ⟨R, 0, none⟩)] w fun e w' => e = .returned (.bool (rowEndS (cpAt s i))) ∧ w.grownBy w' (some R) ∧ St W0 w' R s i o M := by
  have HS : Hid (St W0 w R s i o M) := h
  have hn := next_any L h.env h.at_ h.inn h.text
  generalize cpAt s i = x at *
  generalize szAt s i = z at *
  have HN : Hid (Calls Tryz.prog 105 #[.pointer (some ⟨R, 0, none⟩)] w fun e w' => e = .returned (.tuple #[.int .i32 x, .int .i64 z]) ∧ ∀ row, w.grownBy w' row) := hn
  clear hn h
  have fin : ∀ w1, (∀ row, w.grownBy w1 row) → St W0 w1 R s i o M := fun w1 hg => HS.out.step (hg _) HS.out.inn (HS.out.at_.kept (hg none))
  have FIN : Hid (∀ w1, (∀ row, w.grownBy w1 row) → St W0 w1 R s i o M) := fin
  clear fin
  by_cases h1 : x = 124
  · subst h1
    go_enter Tryz.func124, Tryz.ntmps124
    go_wp2_with fail
    refine HN.out.mono ?_
    rintro e w1 ⟨rfl, hg⟩
    go_wp2
    go_ret
    exact ⟨rfl, hg _, FIN.out _ hg⟩
  · have e1 : (x == 124) = false := by rw [beq_eq_false_iff_ne]; exact h1
    by_cases h2 : x = 38
    · subst h2
      go_enter Tryz.func124, Tryz.ntmps124
      go_wp2_with fail
      refine HN.out.mono ?_
      rintro e w1 ⟨rfl, hg⟩
      go_wp2
      go_ret
      exact ⟨rfl, hg _, FIN.out _ hg⟩
    · have e2 : (x == 38) = false := by rw [beq_eq_false_iff_ne]; exact h2
      by_cases h3 : x = 41
      · subst h3
        go_enter Tryz.func124, Tryz.ntmps124
        go_wp2_with fail
        refine HN.out.mono ?_
        rintro e w1 ⟨rfl, hg⟩
        go_wp2
        go_ret
        exact ⟨rfl, hg _, FIN.out _ hg⟩
      · have e3 : (x == 41) = false := by rw [beq_eq_false_iff_ne]; exact h3
        by_cases h4 : x = -1
        · subst h4
          go_enter Tryz.func124, Tryz.ntmps124
          go_wp2_with fail
          refine HN.out.mono ?_
          rintro e w1 ⟨rfl, hg⟩
          go_wp2
          go_ret
          exact ⟨rfl, hg _, FIN.out _ hg⟩
        · have e4 : (x == -1) = false := by rw [beq_eq_false_iff_ne]; exact h4
          have HE : Hid (rowEndS x = false) := by show _ = _; simp [rowEndS, h1, h2, h3, h4]
          go_enter Tryz.func124, Tryz.ntmps124
          go_wp2_with fail
          refine HN.out.mono ?_
          rintro e w1 ⟨rfl, hg⟩
          go_wp2
          go_ret
          exact ⟨by rw [HE.out]; rfl, hg _, FIN.out _ hg⟩

end Go.Proofs.YtbjohedenfindaaGreatDoor

namespace Go.Proofs.YtbjohedenfindaaGreatDoor
open Go.RowKit
set_option linter.unusedVariables false
set_option maxRecDepth 100000

theorem extract0_get (T : ByteArray) (k j : Nat) (hj : j < k) (hk : k ≤ T.size) : (T.extract 0 k).get! j = T.get! j := by
  rw [get_bang, get_bang, ByteArray.data_extract, Array.getElem?_extract]
  have : T.data.size = T.size := rfl
  rw [if_pos (by omega)]
  simp
theorem extract0_size (T : ByteArray) (k : Nat) (hk : k ≤ T.size) : (T.extract 0 k).size = k := by simp; omega
theorem hexRun_all (s : ByteArray) : ∀ (f i k : Nat), k < hexRun s f i → isHex s (i + k) = true := by
  intro f
  induction f with
  | zero => intro i k h; simp [hexRun] at h
  | succ f ih =>
    intro i k h
    unfold hexRun at h
    split at h
    · rename_i h1
      cases k with
      | zero => exact h1
      | succ k =>
        have := ih (i + 1) k (by omega)
        rw [show i + (k + 1) = i + 1 + k by omega]; exact this
    · omega
theorem hexRun_of (s : ByteArray) : ∀ (f i k : Nat), k < f → (∀ j, j < k → isHex s (i + j) = true) → isHex s (i + k) = false → hexRun s f i = k := by
  intro f
  induction f with
  | zero => intro i k h; omega
  | succ f ih =>
    intro i k h hall hno
    unfold hexRun
    cases k with
    | zero => rw [if_neg (by simpa using hno)]
    | succ k =>
      rw [if_pos (by have := hall 0 (by omega); simpa using this)]
      rw [ih (i + 1) k (by omega) (fun j hj => by have := hall (j + 1) (by omega); rw [show i + 1 + j = i + (j + 1) by omega]; exact this) (by rw [show i + 1 + k = i + (k + 1) by omega]; exact hno)]
theorem hexVal_same (s T : ByteArray) (i : Nat) : ∀ k, (∀ j, j < k → T.get! j = s.get! (i + j)) → hexVal s i k = hexVal T 0 k
  | 0, _ => rfl
  | k + 1, h => by
    simp only [hexVal]
    rw [hexVal_same s T i k (fun j hj => h j (by omega))]
    have := h k (by omega)
    simp [this]
theorem not_hex_brace : hexOf 125 = -1 := by decide

/-- where the digits of an escape end well -/
theorem hexS_good {s : ByteArray} {i j : Nat} {p : Int} (hi : i ≤ s.size) (h : hexS s i = some (p, j)) :
    ∃ k, firstAt (s.extract i s.size) 125 k ∧ 1 ≤ k ∧ k ≤ 6 ∧ allHex ((s.extract i s.size).extract 0 k) ∧ hexVal ((s.extract i s.size).extract 0 k) 0 k = p ∧ j = i + k + 1 ∧ i + k < s.size ∧ p ≤ 1114111 ∧ 0 ≤ p := by
  unfold hexS at h
  split at h
  · rename_i e
    obtain ⟨e1, e2, e3, e4⟩ := e
    simp at h
    obtain ⟨rfl, rfl⟩ := h
    have h3 := (cp_ascii (s := s) (i := i + hexRun s 7 i) (by omega) (by omega)).2
    have h4 := (cp_eq_size e3 (by omega) (by omega)).1
    have hp := hexVal_pos s 7 i _ (Nat.le_refl _)
    have hall := hexRun_all s 7 i
    generalize hexRun s 7 i = k at *
    have hsz : (s.extract i s.size).size = s.size - i := by simp
    refine ⟨k, ⟨by omega, ?_, fun j hj => ?_⟩, e1, e2, fun j hj => ?_, ?_, rfl, by omega, e4, hp⟩
    · rw [extract_get]; omega
    · rw [extract_get]
      have := hall j hj
      simp [isHex] at this
      intro h
      rw [h] at this
      simp [not_hex_brace] at this
    · rw [extract0_size _ _ (by omega)] at hj
      rw [extract0_get _ _ _ hj (by omega), extract_get]
      have := hall j hj
      simp [isHex] at this
      exact this.2
    · exact (hexVal_same s _ i k fun j hj => by rw [extract0_get _ _ _ hj (by omega), extract_get]).symm
  · simp at h

/-- where they end well, and the number is not too great, they are an escape -/
theorem hexS_of {s : ByteArray} {i k : Nat} (hi : i ≤ s.size) (h1 : firstAt (s.extract i s.size) 125 k) (hk1 : 1 ≤ k) (hk6 : k ≤ 6) (ha : allHex ((s.extract i s.size).extract 0 k)) (hv : hexVal ((s.extract i s.size).extract 0 k) 0 k ≤ 1114111) : (hexS s i).isSome = true := by
  have hsz : (s.extract i s.size).size = s.size - i := by simp
  obtain ⟨hlt, hc, _⟩ := h1
  rw [extract_get] at hc
  have hcp := ascii_cp (s := s) (i := i + k) (by omega) (by omega)
  have hrun : hexRun s 7 i = k := by
    refine hexRun_of s 7 i k (by omega) (fun j hj => ?_) ?_
    · have := ha j (by rw [extract0_size _ _ (by omega)]; exact hj)
      rw [extract0_get _ _ _ hj (by omega), extract_get] at this
      simp [isHex, this]; omega
    · simp [isHex, hc, not_hex_brace]
  have hval : hexVal s i k ≤ 1114111 := by
    rw [hexVal_same s ((s.extract i s.size).extract 0 k) i k fun j hj => by rw [extract0_get _ _ _ hj (by omega), extract_get]]; exact hv
  unfold hexS
  rw [hrun, if_pos ⟨hk1, hk6, by rw [hcp.1, hc]; rfl, hval⟩]
  rfl

theorem first_or (T : ByteArray) (c : Nat) : (∃ k, firstAt T c k) ∨ ∀ j, j < T.size → (T.get! j).toNat ≠ c := by
  by_cases h : ∃ j, j < T.size ∧ (T.get! j).toNat = c
  · left
    have key : ∀ n, (∃ j, j < n ∧ j < T.size ∧ (T.get! j).toNat = c) → ∃ k, firstAt T c k := by
      intro n
      induction n with
      | zero => rintro ⟨j, h, _⟩; omega
      | succ n ih =>
        rintro ⟨j, h1, h2, h3⟩
        by_cases h4 : ∃ j, j < n ∧ j < T.size ∧ (T.get! j).toNat = c
        · exact ih h4
        · have hjn : j = n := by
            rcases Nat.lt_or_ge j n with h5 | h5
            · exact absurd ⟨j, h5, h2, h3⟩ h4
            · omega
          subst hjn
          exact ⟨j, h2, h3, fun m hm hc => h4 ⟨m, hm, by omega, hc⟩⟩
    obtain ⟨j, h1, h2⟩ := h
    exact key (j + 1) ⟨j, by omega, h1, h2⟩
  · right
    intro j hj hc
    exact h ⟨j, hj, hc⟩

end Go.Proofs.YtbjohedenfindaaGreatDoor

namespace Go.Proofs.YtbjohedenfindaaGreatDoor
open Go.RowKit
set_option linter.unusedVariables false
set_option maxRecDepth 100000

def IntV (p : Int) (_ : World) (v : Value) : Prop := v = .int .i64 p

set_option maxHeartbeats 1000000 in
theorem esc_broken {W0 w : World} (L : LibC W0) {R i o M : Nat} {s : ByteArray} (h : St W0 w R s i o M) (hc : cpAt s i = -2) :
    Calls Tryz.prog 171 #[.pointer (some ⟨R, 0, none⟩)] w fun e w' => Thrown e ∧ w.grownBy w' (some R) := by
  have HS : Hid (St W0 w R s i o M) := h
  have hn := next_any L h.env h.at_ h.inn h.text
  rw [hc] at hn
  obtain ⟨_, c1, _, _⟩ := h.at_.cells
  generalize szAt s i = z at *
  have HN : Hid (Calls Tryz.prog 105 #[.pointer (some ⟨R, 0, none⟩)] w fun e w' => e = .returned (.tuple #[.int .i32 (-2), .int .i64 z]) ∧ ∀ row, w.grownBy w' row) := hn
  have hz := h.text
  have hz2 := h.inn
  clear hn h hc
  go_enter Tryz.func171, Tryz.ntmps171
  go_wp2_with fail
  refine HN.out.mono ?_
  rintro e w1 ⟨rfl, hg⟩
  have hR1 := HS.out.at_.kept (hg none)
  obtain ⟨_, d1, _, _⟩ := hR1.cells
  obtain ⟨te, pe, d2⟩ := L.synAt (HS.out.env.grown (hg _) HS.out.r16)
  clear hR1
  go_wp2
  go_region_dies
  all_goals (go_at_call 40; refine (throw_any _ _ _ _).mono ?_; rintro e w' ⟨⟨f, rfl⟩, hg2⟩; exact ⟨rfl, ⟨f, rfl⟩, Lib.grownBy_trans (hg _) (grownBy_undrew (n := 1) (hg2 _))⟩)

set_option maxHeartbeats 1000000 in
theorem esc_known {W0 w : World} (L : LibC W0) {R i o M : Nat} {s : ByteArray} (h : St W0 w R s i o M) (p : Int) (hp : escOf (cpAt s i) = some p) :
    Calls Tryz.prog 171 #[.pointer (some ⟨R, 0, none⟩)] w fun e w' => e = .returned (.int .i64 p) ∧ w.grownBy w' (some R) ∧ St W0 w' R s (i + 1) o M := by
  have HS : Hid (St W0 w R s i o M) := h
  have hn := next_any L h.env h.at_ h.inn h.text
  obtain ⟨q0, q1, q2, q3⟩ := escOf_rng hp
  obtain ⟨hz, _⟩ := cp_ascii q2 q3
  have hlt := (cp_in q2).1
  obtain ⟨_, c1, _, c3⟩ := h.at_.cells
  rw [hz] at hn
  generalize cpAt s i = x at *
  have HN : Hid (Calls Tryz.prog 105 #[.pointer (some ⟨R, 0, none⟩)] w fun e w' => e = .returned (.tuple #[.int .i32 x, .int .i64 1]) ∧ ∀ row, w.grownBy w' row) := hn
  have HP : Hid (escOf x = some p) := hp
  have hq : (x == -2) = false := by rw [beq_eq_false_iff_ne]; omega
  have hs := h.text
  clear hn h hp hz
  go_enter Tryz.func171, Tryz.ntmps171
  go_wp2_with fail
  refine HN.out.mono ?_
  rintro e w1 ⟨rfl, hg⟩
  have hR1 := HS.out.at_.kept (hg none)
  obtain ⟨_, d1, _, d3⟩ := hR1.cells
  have f1 := hR1.frozen 1
  have hg2 : w.grownBy (w1.setCell ⟨R, 1, none⟩ (.int .i64 ((i : Int) + 1))) (some R) := Lib.grownBy_setB (hg _) 1 _
  have hS2 : St W0 (w1.setCell ⟨R, 1, none⟩ (.int .i64 ((i : Int) + 1))) R s (i + 1) o M := HS.out.step hg2 hlt (by simpa using hR1.set1 (i + 1))
  obtain ⟨n, D, hn, hown, hD⟩ := hS2.esc
  have HD := hD x
  have hk : keyOf Tryz.prog 21 (.int .i32 x) = some (.int .i32 x) := Maps.keyOf_int_mk Tryz.underlying21 (WalkArith.wf_i32 (by constructor <;> omega))
  have HB : Hid (Maps.has D (.int .i32 x) = true) := by show _ = _; rw [HD.1, HP.out]; rfl
  have HA : Hid (D.atKey (.int .i32 x) (.lit (.int .i64 0)) = .lit (.int .i64 p)) := HD.2 p HP.out
  clear hR1 hD HD
  go_wp2_with (at_lookup; refine wpList_lookup_own_ok_int _ rfl _ _ 88 rfl 21 3 .i64 Tryz.lawRune Tryz.underlying88 Tryz.underlying3 (Tryz.zeroInt _) M n D rfl hown _ _ rfl hk ?_; intro c hat hwc; rw [HB.out])
  have e1 : c = p := by
    have := hat.symm.trans HA.out
    simpa using this
  subst e1
  go_wp2
  go_ret
  exact ⟨rfl, hg2, hS2⟩

set_option maxHeartbeats 1000000 in
theorem esc_other {W0 w : World} (L : LibC W0) {R i o M : Nat} {s : ByteArray} (h : St W0 w R s i o M) (hp : escOf (cpAt s i) = none) (h2 : cpAt s i ≠ -2) (hu : cpAt s i ≠ 117) :
    Calls Tryz.prog 171 #[.pointer (some ⟨R, 0, none⟩)] w fun e w' => Thrown e ∧ w.grownBy w' (some R) := by
  have HS : Hid (St W0 w R s i o M) := h
  have hn := next_any L h.env h.at_ h.inn h.text
  have hz := sz_le s i h.inn
  have hcr := cp_range s i
  obtain ⟨_, c1, _, c3⟩ := h.at_.cells
  generalize cpAt s i = x at *
  generalize szAt s i = z at *
  have HN : Hid (Calls Tryz.prog 105 #[.pointer (some ⟨R, 0, none⟩)] w fun e w' => e = .returned (.tuple #[.int .i32 x, .int .i64 z]) ∧ ∀ row, w.grownBy w' row) := hn
  have HP : Hid (escOf x = none) := hp
  have hq : (x == -2) = false := by rw [beq_eq_false_iff_ne]; omega
  have hq2 : (x != 117) = true := by rw [bne_iff_ne]; omega
  have hs := h.text
  clear hn h hp h2 hu
  go_enter Tryz.func171, Tryz.ntmps171
  go_wp2_with fail
  refine HN.out.mono ?_
  rintro e w1 ⟨rfl, hg⟩
  have hR1 := HS.out.at_.kept (hg none)
  obtain ⟨_, d1, _, d3⟩ := hR1.cells
  have f1 := hR1.frozen 1
  have hg2 : w.grownBy (w1.setCell ⟨R, 1, none⟩ (.int .i64 ((i : Int) + z))) (some R) := Lib.grownBy_setB (hg _) 1 _
  have hS2 : St W0 (w1.setCell ⟨R, 1, none⟩ (.int .i64 ((i : Int) + z))) R s (i + z) o M := HS.out.step hg2 hz (by simpa using hR1.set1 (i + z))
  obtain ⟨n, D, hn, hown, hD⟩ := hS2.esc
  have HD := hD x
  obtain ⟨te, pe, d2⟩ := L.synAt hS2.env
  have hk : keyOf Tryz.prog 21 (.int .i32 x) = some (.int .i32 x) := Maps.keyOf_int_mk Tryz.underlying21 (WalkArith.wf_i32 (by constructor <;> omega))
  have HB : Hid (Maps.has D (.int .i32 x) = false) := by show _ = _; rw [HD.1, HP.out]; rfl
  clear hR1 hD HD hS2
  go_wp2_with (at_lookup; refine wpList_lookup_own_ok_int _ rfl _ _ 88 rfl 21 3 .i64 Tryz.lawRune Tryz.underlying88 Tryz.underlying3 (Tryz.zeroInt _) M n D rfl hown _ _ rfl hk ?_; intro c hat hwc; rw [HB.out])
  refine (throw_any _ _ _ _).mono ?_
  rintro e w' ⟨⟨f, rfl⟩, hg3⟩
  exact ⟨rfl, ⟨f, rfl⟩, Lib.grownBy_trans hg2 (hg3 _)⟩

end Go.Proofs.YtbjohedenfindaaGreatDoor

namespace Go.Proofs.YtbjohedenfindaaGreatDoor
open Go.RowKit
set_option linter.unusedVariables false
set_option maxRecDepth 100000

theorem esc_117 : escOf 117 = none := by decide

/-- behind the sign u: the reader stands behind it, and the map has said no -/
def AtU (W0 w w2 : World) (R : Nat) (s : ByteArray) (i o M : Nat) : Prop := w.grownBy w2 (some R) ∧ St W0 w2 R s (i + 1) o M

set_option maxHeartbeats 1000000 in
theorem esc_u_no {W0 w : World} (L : LibC W0) {R i o M : Nat} {s : ByteArray} (h : St W0 w R s i o M) (hu : cpAt s i = 117) (hb : cpAt s (i + 1) ≠ 123) :
    Calls Tryz.prog 171 #[.pointer (some ⟨R, 0, none⟩)] w fun e w' => Thrown e ∧ w.grownBy w' (some R) := by
  have HS : Hid (St W0 w R s i o M) := h
  have hn := next_any L h.env h.at_ h.inn h.text
  obtain ⟨hlt, hz⟩ := cp_eq_size hu (by omega) (by omega)
  obtain ⟨_, c1, _, c3⟩ := h.at_.cells
  rw [hu, hz] at hn
  have HN : Hid (Calls Tryz.prog 105 #[.pointer (some ⟨R, 0, none⟩)] w fun e w' => e = .returned (.tuple #[.int .i32 117, .int .i64 1]) ∧ ∀ row, w.grownBy w' row) := hn
  have HT : Hid (∀ w2, St W0 w2 R s (i + 1) o M → Calls Tryz.prog 72 #[.pointer (some ⟨R, 0, none⟩), .int .i32 123] w2 fun e w' => e = .returned (.bool false) ∧ w2.grownBy w' (some R) ∧ St W0 w' R s (i + 1) o M) := fun w2 h2 => take_no L h2 123 hb
  have hs := h.text
  clear hn h hz hu hb
  go_enter Tryz.func171, Tryz.ntmps171
  go_wp2_with fail
  refine HN.out.mono ?_
  rintro e w1 ⟨rfl, hg⟩
  have hR1 := HS.out.at_.kept (hg none)
  obtain ⟨_, d1, _, d3⟩ := hR1.cells
  have f1 := hR1.frozen 1
  have hg2 : w.grownBy (w1.setCell ⟨R, 1, none⟩ (.int .i64 ((i : Int) + 1))) (some R) := Lib.grownBy_setB (hg _) 1 _
  have hS2 : St W0 (w1.setCell ⟨R, 1, none⟩ (.int .i64 ((i : Int) + 1))) R s (i + 1) o M := HS.out.step hg2 hlt (by simpa using hR1.set1 (i + 1))
  obtain ⟨n, D, hn, hown, hD⟩ := hS2.esc
  have hk : keyOf Tryz.prog 21 (.int .i32 117) = some (.int .i32 117) := Maps.keyOf_int_mk Tryz.underlying21 (WalkArith.wf_i32 (by constructor <;> omega))
  have HB : Hid (Maps.has D (.int .i32 117) = false) := by show _ = _; rw [(hD 117).1, esc_117]; rfl
  have HS2 : Hid (St W0 (w1.setCell ⟨R, 1, none⟩ (.int .i64 ((i : Int) + 1))) R s (i + 1) o M) := hS2
  clear hR1 hD hS2
  go_wp2_with (at_lookup; refine wpList_lookup_own_ok_int _ rfl _ _ 88 rfl 21 3 .i64 Tryz.lawRune Tryz.underlying88 Tryz.underlying3 (Tryz.zeroInt _) M n D rfl hown _ _ rfl hk ?_; intro c hat hwc; rw [HB.out])
  refine (HT.out _ HS2.out).mono ?_
  rintro e w3 ⟨rfl, hg3, hS3⟩
  obtain ⟨te, pe, d2⟩ := L.synAt hS3.env
  clear hown
  go_wp2_with fail
  refine (throw_any _ _ _ _).mono ?_
  rintro e w' ⟨⟨f, rfl⟩, hg4⟩
  exact ⟨rfl, ⟨f, rfl⟩, Lib.grownBy_trans (Lib.grownBy_trans hg2 hg3) (hg4 _)⟩

/-- what becomes of the digits -/
def BadHex (cl : Bool) (D : ByteArray) (n : Int) (ev : Value) : Prop := (cl = false ∧ (ev = .nilIface ∨ ∃ te pe, ev = .iface te pe)) ∨ (cl = true ∧ 6 < D.size ∧ (ev = .nilIface ∨ ∃ te pe, ev = .iface te pe)) ∨ (cl = true ∧ D.size ≤ 6 ∧ ∃ te pe, ev = .iface te pe) ∨ (cl = true ∧ D.size ≤ 6 ∧ ev = .nilIface ∧ 1114111 < n)

set_option maxHeartbeats 4000000 in
theorem esc_hex_bad {W0 w : World} (L : LibC W0) {R i o M : Nat} {s : ByteArray} (h : St W0 w R s i o M) (hu : cpAt s i = 117) (hb : cpAt s (i + 1) = 123) (D : ByteArray) (cl : Bool) (hDs : D.size ≤ 1000000)
    (hcut : ∀ w, Env W0 w → Calls Tryz.prog 181 #[.string (s.extract (i + 2) s.size), .string ⟨#[125]⟩] w fun e w' => (∃ b, e = .returned (.tuple #[.string D, .string b, .bool cl])) ∧ Below w.heap.size w w')
    (hpar : ∀ w, Env W0 w → Calls Tryz.prog 182 #[.string D, .int .i64 16, .int .i64 64] w fun e w' => (∃ n ev, e = .returned (.tuple #[.int .u64 n, ev]) ∧ BadHex cl D n ev) ∧ Below w.heap.size w w') :
    Calls Tryz.prog 171 #[.pointer (some ⟨R, 0, none⟩)] w fun e w' => Thrown e ∧ w.grownBy w' (some R) := by
  have HS : Hid (St W0 w R s i o M) := h
  have hn := next_any L h.env h.at_ h.inn h.text
  obtain ⟨hlt, hz⟩ := cp_eq_size hu (by omega) (by omega)
  obtain ⟨hlt2, hz2⟩ := cp_eq_size hb (by omega) (by omega)
  obtain ⟨_, c1, _, c3⟩ := h.at_.cells
  rw [hu, hz] at hn
  have HN : Hid (Calls Tryz.prog 105 #[.pointer (some ⟨R, 0, none⟩)] w fun e w' => e = .returned (.tuple #[.int .i32 117, .int .i64 1]) ∧ ∀ row, w.grownBy w' row) := hn
  have HT : Hid (∀ w2, St W0 w2 R s (i + 1) o M → Calls Tryz.prog 72 #[.pointer (some ⟨R, 0, none⟩), .int .i32 123] w2 fun e w' => e = .returned (.bool true) ∧ w2.grownBy w' (some R) ∧ St W0 w' R s (i + 2) o M) := fun w2 h2 => by
    have := take_yes L h2 123 hb
    rw [hz2] at this
    exact this
  have HC : Hid (∀ w, Env W0 w → Calls Tryz.prog 181 #[.string (s.extract (i + 2) s.size), .string ⟨#[125]⟩] w fun e w' => (∃ b, e = .returned (.tuple #[.string D, .string b, .bool cl])) ∧ Below w.heap.size w w') := hcut
  have HPr : Hid (∀ w, Env W0 w → Calls Tryz.prog 182 #[.string D, .int .i64 16, .int .i64 64] w fun e w' => (∃ n ev, e = .returned (.tuple #[.int .u64 n, ev]) ∧ BadHex cl D n ev) ∧ Below w.heap.size w w') := hpar
  have hs := h.text
  clear hn h hz hu hb hz2 hcut hpar
  go_enter Tryz.func171, Tryz.ntmps171
  go_wp2_with fail
  refine HN.out.mono ?_
  rintro e w1 ⟨rfl, hg⟩
  have hR1 := HS.out.at_.kept (hg none)
  obtain ⟨_, d1, _, d3⟩ := hR1.cells
  have f1 := hR1.frozen 1
  have hg2 : w.grownBy (w1.setCell ⟨R, 1, none⟩ (.int .i64 ((i : Int) + 1))) (some R) := Lib.grownBy_setB (hg _) 1 _
  have hS2 : St W0 (w1.setCell ⟨R, 1, none⟩ (.int .i64 ((i : Int) + 1))) R s (i + 1) o M := HS.out.step hg2 (by omega) (by simpa using hR1.set1 (i + 1))
  obtain ⟨n, D', hn, hown, hD⟩ := hS2.esc
  have hk : keyOf Tryz.prog 21 (.int .i32 117) = some (.int .i32 117) := Maps.keyOf_int_mk Tryz.underlying21 (WalkArith.wf_i32 (by constructor <;> omega))
  have HB : Hid (Maps.has D' (.int .i32 117) = false) := by show _ = _; rw [(hD 117).1, esc_117]; rfl
  have HS2 : Hid (St W0 (w1.setCell ⟨R, 1, none⟩ (.int .i64 ((i : Int) + 1))) R s (i + 1) o M) := hS2
  clear hR1 hD hS2
  go_wp2_with (at_lookup; refine wpList_lookup_own_ok_int _ rfl _ _ 88 rfl 21 3 .i64 Tryz.lawRune Tryz.underlying88 Tryz.underlying3 (Tryz.zeroInt _) M n D' rfl hown _ _ rfl hk ?_; intro c hat hwc; rw [HB.out])
  refine (HT.out _ HS2.out).mono ?_
  rintro e w3 ⟨rfl, hg3, hS3⟩
  obtain ⟨g0, g1, _, _⟩ := hS3.at_.cells
  have hE3 := hS3.env
  have hg13 := Lib.grownBy_trans hg2 hg3
  have e2 : (((i + 2 : Nat) : Int)) = (i : Int) + 2 := by omega
  clear hown hS3 d1 d3 c1 c3 f1 hg hg3 hg2 HT HN HB HS2 hk hat hwc
  go_wp2_with fail
  go_region_with (go_at_call 181; refine (HC.out _ ?_).mono ?_; exact hE3.drewN _; rintro e w4 ⟨⟨b, rfl⟩, hb4⟩)
  all_goals
    have hE4 : Env W0 w4 := hE3.grown (R := R) (grownBy_undrew (grownBy_of_below hb4 _)) HS.out.r16
    have hg4 := Lib.grownBy_trans hg13 (grownBy_undrew (grownBy_of_below hb4 (some R)))
    go_wp2_with fail
    refine (HPr.out _ hE4).mono ?_
    rintro e w5 ⟨⟨nv, ev, rfl, hbad⟩, hb5⟩
    have hE5 : Env W0 w5 := hE4.grown (R := R) (grownBy_of_below hb5 _) HS.out.r16
    obtain ⟨te, pe, k1⟩ := L.synAt hE5
    have hg5 := Lib.grownBy_trans hg4 (grownBy_of_below hb5 (some R))
    have FIN : Hid (∀ e w', Thrown e ∧ (∀ row, w5.grownBy w' row) → Thrown e ∧ w.grownBy w' (some R)) := fun e w' hh => ⟨hh.1, Lib.grownBy_trans hg5 (hh.2 _)⟩
    clear hE5 hE4 hE3 hb4 hb5 hg4 hg5 hg13 HC HPr g0 g1
    rcases hbad with ⟨rfl, rfl | ⟨t2, p2, rfl⟩⟩ | ⟨rfl, hsz, rfl | ⟨t2, p2, rfl⟩⟩ | ⟨rfl, hsz, t2, p2, rfl⟩ | ⟨rfl, hsz, rfl, hbig⟩
    all_goals
      go_wp2_with fail
      refine (throw_any _ _ _ _).mono ?_
      rintro e w' ⟨⟨f, rfl⟩, hg6⟩
      exact ⟨rfl, FIN.out _ _ ⟨⟨f, rfl⟩, hg6⟩⟩

end Go.Proofs.YtbjohedenfindaaGreatDoor
