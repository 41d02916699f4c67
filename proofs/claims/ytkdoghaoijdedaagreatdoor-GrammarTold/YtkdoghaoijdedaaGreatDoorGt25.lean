/- Texts of the proof, put together: GTab, GTbP. -/
import Derived.Test.YtkdoghaoijdedaaGreatDoorGt07
import Derived.Test.YtkdoghaoijdedaaGreatDoorGt10
import Derived.Deep.AppendLies
import Derived.Maps.AppendAt
import Derived.Test.YtkdoghaoijdedaaGreatDoorGt24
import Derived.Test.YtkdoghaoijdedaaGreatDoorGt11
namespace Go.Proofs.YtkdoghaoijdedaaGreatDoor
open Go.RowKit
set_option linter.unusedVariables false
set_option maxRecDepth 100000

theorem Tryz.infoBools : (Tryz.prog.info? 27).map (fun i => (i.zero, i.size, i.bytes)) = some (some (.slice none 0 0), 1, 24) := by kernel_rfl
/-- the rows of a table -/
def rowsV (m : Nat) (bs : List Nat) : List Value := bs.map fun b => .slice (some ⟨b, 0, none⟩) m m
/-- a table on its way: the row of rows is one's own, each row new -/
structure TbO (w wr : World) (m : Nat) (v : Value) (bs : List Nat) : Prop where
  own : wr.ownsRow w.heap.size 27 1 v bs.length (rowsV m bs)
  row : ∀ j (h : j < bs.length), RowB wr bs[j] (List.replicate m false)
  low : ∀ b ∈ bs, w.heap.size ≤ b
  ne : ∀ b ∈ bs, v.ownBlock ≠ some b
  nd : bs.Nodup
theorem TbO.slice {w wr : World} {m : Nat} {v : Value} {bs : List Nat} (h : TbO w wr m v bs) : ∃ a c, v = .slice a bs.length c := by
  rcases h.own.2 with ⟨e, h0⟩ | ⟨g, cap, cur, e, _⟩
  · exact ⟨none, 0, by rw [e, h0]⟩
  · exact ⟨_, _, e⟩
theorem TbO.step {w wr w9 : World} {m : Nat} {v : Value} {bs : List Nat} {g cap : Nat} {o : Obj} (h : TbO w wr m v bs) (hw : w.heap.size ≤ wr.heap.size)
    (hown : w9.ownsRow w.heap.size 27 1 (.slice (some ⟨g, 0, none⟩) (bs.length + 1) cap) (bs.length + 1) (rowsV m bs ++ [.slice (some ⟨wr.heap.size, 0, none⟩) m m])) (hg9 : ((wr.alloc (.cells (boolsA (List.replicate m false)) 4)).alloc o).grownBy w9 v.ownBlock) (hat : v.ownBlock = some g ∨ g = wr.heap.size + 1 + 1) :
    TbO w w9 m (.slice (some ⟨g, 0, none⟩) (bs.length + 1) cap) (bs ++ [wr.heap.size]) := by
  have hol : ∀ b, v.ownBlock = some b → w.heap.size ≤ b ∧ b < wr.heap.size := fun b hb => h.own.lt b hb
  have hA := alloc_below wr (.cells (boolsA (List.replicate m false)) 4)
  have hs := alloc_size wr (.cells (boolsA (List.replicate m false)) 4)
  have hA2 := alloc_below (wr.alloc (.cells (boolsA (List.replicate m false)) 4)) o
  have hs2 := alloc_size (wr.alloc (.cells (boolsA (List.replicate m false)) 4)) o
  have hlt : ∀ b ∈ bs, b < wr.heap.size := fun b hb => by
    obtain ⟨j, hj, rfl⟩ := List.mem_iff_getElem.1 hb
    exact (h.row j hj).lt
  have hkeep : ∀ b L, v.ownBlock ≠ some b → b < wr.heap.size + 1 → RowB (wr.alloc (.cells (boolsA (List.replicate m false)) 4)) b L → RowB w9 b L := fun b L hne hb hr => (hg9.block b (by omega) (fun e => hne e.symm)).trans ((hA2.block b (by omega)).trans hr)
  refine ⟨?_, fun j hj => ?_, fun b hb => ?_, fun b hb => ?_, ?_⟩
  · rw [List.length_append]
    unfold rowsV at *
    rw [List.map_append]
    exact hown
  · rw [List.length_append] at hj
    by_cases e : j < bs.length
    · rw [List.getElem_append_left e]
      exact hkeep _ _ (h.ne _ (List.getElem_mem e)) (by have := (h.row j e).lt; omega) ((hA.block _ (h.row j e).lt).trans (h.row j e))
    · obtain rfl : j = bs.length := by simp at hj; omega
      rw [List.getElem_append_right (Nat.le_refl _)]
      simp only [Nat.sub_self, List.getElem_cons_zero]
      refine hkeep _ _ (fun e' => by have := hol _ e'; omega) (by omega) ?_
      show (wr.heap.push _)[wr.heap.size]? = _
      exact Array.getElem?_push_size
  · rcases List.mem_append.1 hb with hb | hb
    · exact h.low b hb
    · obtain rfl : b = wr.heap.size := by simpa using hb
      exact hw
  · intro e
    have e' : g = b := by simpa [Value.ownBlock] using e
    rcases List.mem_append.1 hb with hb | hb
    · rcases hat with h1 | h1
      · exact h.ne b hb (by rw [h1, e'])
      · have := hlt b hb; omega
    · obtain rfl : b = wr.heap.size := by simpa using hb
      rcases hat with h1 | h1
      · have := hol g h1; omega
      · omega
  · refine List.nodup_append.2 ⟨h.nd, by simp, fun a ha b hb => ?_⟩
    obtain rfl : b = wr.heap.size := by simpa using hb
    have := hlt a ha
    omega
/-- a table in memory -/
structure TabM (w : World) (D n m : Nat) (bl : Nat → Nat) (LL : Nat → List Bool) : Prop where
  lt : D < w.heap.size
  at_ : ∀ j, j < n → w.cell? ⟨D, j, none⟩ = some (.slice (some ⟨bl j, 0, none⟩) m m)
  row : ∀ j, j < n → RowB w (bl j) (LL j)
  len : ∀ j, j < n → (LL j).length = m
  inj : ∀ j j', j < n → j' < n → bl j = bl j' → j = j'
  ne : ∀ j, j < n → bl j ≠ D
theorem TbO.tab {w wr : World} {m n : Nat} {D c : Nat} {bs : List Nat} (h : TbO w wr m (.slice (some ⟨D, 0, none⟩) n c) bs) (hl : bs.length = n) (hn : 1 ≤ n) : TabM wr D n m (fun j => bs.getD j 0) (fun _ => List.replicate m false) ∧ w.heap.size ≤ D ∧ ∀ j, j < n → w.heap.size ≤ bs.getD j 0 := by
  have hg : ∀ j (hj : j < n), bs.getD j 0 = bs[j]'(by omega) := fun j hj => by simp [List.getD, show j < bs.length by omega]
  have hob : (Value.slice (some ⟨D, 0, none⟩) n c).ownBlock = some D := rfl
  have hol := h.own.lt D hob
  refine ⟨⟨hol.2, fun j hj => ?_, fun j hj => ?_, fun j _ => by simp, fun j j' hj hj' e => ?_, fun j hj => ?_⟩, hol.1, fun j hj => ?_⟩
  · have hv := h.own
    rw [hl] at hv
    rw [hv.cellAt j (by omega), hg j hj]
    simp [rowsV, show j < bs.length by omega]
  · rw [hg j hj]; exact h.row j (by omega)
  · rw [hg j hj, hg j' hj'] at e
    have hp := List.pairwise_iff_getElem.1 h.nd
    rcases Nat.lt_trichotomy j j' with h1 | h1 | h1
    · exact absurd e (hp j j' (by omega) (by omega) h1)
    · exact h1
    · exact absurd e.symm (hp j' j (by omega) (by omega) h1)
  · rw [hg j hj]
    intro e
    exact h.ne _ (List.getElem_mem (show j < bs.length by omega)) (by rw [hob, e])
  · rw [hg j hj]; exact h.low _ (List.getElem_mem _)
theorem RowB.other {w : World} {D : Nat} {L : List Bool} (h : RowB w D L) {B o : Nat} {v : Value} (hne : D ≠ B) : RowB (w.setCell ⟨B, o, none⟩ v) D L := by
  unfold RowB at *
  rw [Below.heap_setCell _ _ _ _ (by simpa using hne)]
  exact h
/-- a cell of a table written -/
theorem TabM.set {w : World} {D n m : Nat} {bl : Nat → Nat} {LL : Nat → List Bool} (h : TabM w D n m bl LL) {i k : Nat} (hi : i < n) (b : Bool) : TabM (w.setCell ⟨bl i, k, none⟩ (.bool b)) D n m bl (fun j => if j = i then (LL i).set k b else LL j) := by
  have hD : ∀ j, (w.setCell ⟨bl i, k, none⟩ (.bool b)).cell? ⟨D, j, none⟩ = w.cell? ⟨D, j, none⟩ := fun j => by
    simp only [World.cell?]
    rw [Below.heap_setCell _ _ _ _ (by have := h.ne i hi; simpa using fun e => this e.symm)]
  refine ⟨by simpa using h.lt, fun j hj => by rw [hD]; exact h.at_ j hj, fun j hj => ?_, fun j hj => ?_, h.inj, h.ne⟩
  · by_cases e : j = i
    · subst e
      simp only [if_true]
      exact (h.row j hj).set k b
    · simp only [if_neg e]
      exact (h.row j hj).other (fun e' => e (h.inj j i hj hi e'))
  · by_cases e : j = i
    · subst e
      simp only [if_true, List.length_set]
      exact h.len j hj
    · simp only [if_neg e]; exact h.len j hj
theorem TabM.drew {w : World} {D n m : Nat} {bl : Nat → Nat} {LL : Nat → List Bool} (h : TabM w D n m bl LL) : TabM w.drew D n m bl LL := ⟨h.lt, h.at_, h.row, h.len, h.inj, h.ne⟩
theorem TabM.below {w w' : World} {D n m : Nat} {bl : Nat → Nat} {LL : Nat → List Bool} (h : TabM w D n m bl LL) (hb : Below w.heap.size w w') : TabM w' D n m bl LL :=
  ⟨Nat.lt_of_lt_of_le h.lt hb.size, fun j hj => (hb.cell (p := ⟨D, j, none⟩) h.lt).trans (h.at_ j hj), fun j hj => (hb.block _ (h.row j hj).lt).trans (h.row j hj), h.len, h.inj, h.ne⟩
theorem TabM.cell {w : World} {D n m : Nat} {bl : Nat → Nat} {LL : Nat → List Bool} (h : TabM w D n m bl LL) {i k : Nat} (hi : i < n) (hk : k < m) : w.cell? ⟨bl i, k, none⟩ = some (.bool (factB (LL i) k)) := (h.row i hi).cell (by rw [h.len i hi]; exact hk)

theorem cell_one_newT (W : World) (o : Obj) (v : Value) (t : TypeId) : ∀ j u, [v][j]? = some u → ((W.alloc o).alloc (.cells #[v] t)).cell? ((⟨W.heap.size + 1, 0, none⟩ : Addr).add j) = some u := by
  have h := cell_one_new (W.alloc o) v t
  rw [alloc_size] at h
  exact h

set_option maxHeartbeats 4000000 in
theorem rtable_any (n m : Nat) (hn1 : 1 ≤ n) (hn : n ≤ 300) (hm : m ≤ 301) (w : World) :
    Calls Tryz.prog 31 #[.int .i64 n, .int .i64 m] w fun e w' => ∃ D c bl, e = .returned (.slice (some ⟨D, 0, none⟩) n c) ∧ TabM w' D n m bl (fun _ => List.replicate m false) ∧ w.heap.size ≤ D ∧ (∀ j, j < n → w.heap.size ≤ bl j) ∧ Below w.heap.size w w' := by
  obtain ⟨i0, hi0, hz0, hz1, hz2⟩ := infoParts Tryz.infoBools
  go_enter Tryz.func31, Tryz.ntmps31
  go_wp2
  go_loopw [5, 6] (fun ov iv wr => ∃ (bs : List Nat), bs.length ≤ n ∧ iv = .int .i64 bs.length ∧ Hid (TbO w wr m ov bs) ∧ Below w.heap.size w wr) (fun _ iv _ => n - (intOf iv).toNat)
  case atStart => exact ⟨[], Nat.zero_le _, rfl, ⟨⟨rfl, .inl ⟨rfl, rfl⟩⟩, fun j hj => by simp at hj, fun b hb => by simp at hb, fun b hb => by simp at hb, List.nodup_nil⟩, Below.refl _ _⟩
  case round =>
    obtain ⟨bs, hl, rfl, HT, hbw⟩ := hrel
    obtain ⟨oa, oc, hoe⟩ := HT.out.slice
    subst hoe
    by_cases hlt : bs.length < n
    · have hmk := makeBoolsT m (by omega) wr
      have HOW : Hid (∀ o o', ((wr.alloc o).alloc o').ownsRow w.heap.size 27 1 (.slice oa bs.length oc) bs.length (rowsV m bs)) := fun o o' => World.ownsRow.alloc (World.ownsRow.alloc HT.out.own o) o'
      have hwl : w.heap.size ≤ wr.heap.size := hbw.size
      have HSTP : Hid (∀ o w9 g9 cap9, w9.ownsRow w.heap.size 27 1 (.slice (some ⟨g9, 0, none⟩) (bs.length + 1) cap9) (bs.length + 1) (rowsV m bs ++ [.slice (some ⟨wr.heap.size, 0, none⟩) m m]) → ((wr.alloc (.cells (boolsA (List.replicate m false)) 4)).alloc o).grownBy w9 (Value.slice oa bs.length oc).ownBlock → ((Value.slice oa bs.length oc).ownBlock = some g9 ∨ g9 = wr.heap.size + 1 + 1) → TbO w w9 m (.slice (some ⟨g9, 0, none⟩) (bs.length + 1) cap9) (bs ++ [wr.heap.size]) ∧ Below w.heap.size w w9) := fun o w9 g9 cap9 h1 h2 h3 => by
        refine ⟨HT.out.step hwl h1 h2 h3, ?_⟩
        have hol : ∀ b, (Value.slice oa bs.length oc).ownBlock = some b → w.heap.size ≤ b ∧ b < wr.heap.size := fun b hb => HT.out.own.lt b hb
        have hA := alloc_below wr (.cells (boolsA (List.replicate m false)) 4)
        have hs := alloc_size wr (.cells (boolsA (List.replicate m false)) 4)
        have hA2 := alloc_below (wr.alloc (.cells (boolsA (List.replicate m false)) 4)) o
        have hs2 := alloc_size (wr.alloc (.cells (boolsA (List.replicate m false)) 4)) o
        have hb9 : Below w.heap.size ((wr.alloc (.cells (boolsA (List.replicate m false)) 4)).alloc o) w9 := ⟨h2.os, h2.tape, h2.output, h2.size, fun q hq => h2.block q (by omega) (fun e => by have := hol q e.symm; omega)⟩
        exact ((hbw.trans (hA.mono hwl)).trans (hA2.mono (by omega))).trans hb9
      clear HT
      go_wp2_with (at_builtin; refine wpList_append_lies _ rfl _ _ 40 rfl w.heap.size 27 i0 (.slice none 0 0) 1 24 Tryz.underlying40 hi0 hz0 hz1 hz2 rfl (by decide) (.slice oa bs.length oc) bs.length (rowsV m bs) rfl (HOW.out _ _) ⟨wr.heap.size + 1, 0, none⟩ 1 1 [.slice (some ⟨wr.heap.size, 0, none⟩) m m] rfl rfl ?c1 ?c2 ?c3 ?c4 ?c5 ?c6 (wr.heap.size + 1 + 1) ?c7 ?_)
      case c1 => exact cell_one_newT wr _ _ _
      case c2 => intro x hx; simp at hx; subst hx; rfl
      case c3 => omega
      case c4 => unfold maxLen; omega
      case c5 => omega
      case c6 => simp; omega
      case c7 => simp
      intro g9 cap9 w9 hown9 hg9 hat9 hlt9
      obtain ⟨q1, q2⟩ := HSTP.out _ w9 g9 cap9 hown9 hg9 hat9
      have Q1 : Hid (TbO w w9 m (.slice (some ⟨g9, 0, none⟩) (bs.length + 1) cap9) (bs ++ [wr.heap.size])) := q1
      have HLN : Hid ((bs ++ [wr.heap.size]).length = bs.length + 1) := by show _ = _; simp
      clear q1 hown9 hg9 hat9 hlt9 HSTP HOW hmk
      go_wp2
      go_roundw
      case rel => exact ⟨bs ++ [wr.heap.size], by rw [HLN.out]; omega, by rw [HLN.out]; go_num, Q1, q2⟩
      case measure => simp [intOf]; omega
    · obtain ⟨D, hD⟩ : ∃ D, oa = some ⟨D, 0, none⟩ := by
        rcases HT.out.own.2 with ⟨e, h0⟩ | ⟨g, cap, cur, e, _⟩
        · omega
        · exact ⟨g, by simpa using (show oa = some ⟨g, 0, none⟩ ∧ oc = cap by simpa using e).1⟩
      subst hD
      have hln : bs.length = n := by omega
      have hT := HT.out
      rw [hln] at hT
      obtain ⟨h1, h2, h3⟩ := hT.tab hln hn1
      have H1 : Hid (TabM wr D n m (fun j => bs.getD j 0) (fun _ => List.replicate m false)) := h1
      have H3 : Hid (∀ j, j < n → w.heap.size ≤ bs.getD j 0) := h3
      clear HT h1 h3 hT
      rw [hln] at *
      clear hln
      go_wp2
      go_ret
      first | exact ⟨D, oc, _, rfl, H1.out, h2, H3.out, hbw⟩ | exact ⟨D, ⟨oc, rfl⟩, _, H1.out, h2, H3.out, hbw⟩

end Go.Proofs.YtkdoghaoijdedaaGreatDoor

namespace Go.Proofs.YtkdoghaoijdedaaGreatDoor
set_option linter.unusedVariables false

def setT (LL : Nat → List Bool) (i k : Nat) (b : Bool) : Nat → List Bool := fun j => if j = i then (LL i).set k b else LL j
theorem setT_fact {LL : Nat → List Bool} {i k m : Nat} (hl : (LL i).length = m) (hk : k < m) (b : Bool) (x y : Nat) : factB (setT LL i k b x) y = if x = i ∧ y = k then b else factB (LL x) y := by
  unfold setT
  by_cases e : x = i
  · subst e
    rw [if_pos rfl, factB_set hl hk b y]
    by_cases e2 : y = k
    · rw [if_pos e2, if_pos ⟨rfl, e2⟩]
    · rw [if_neg e2, if_neg (fun h => e2 h.2)]
  · rw [if_neg e, if_neg (fun h => e h.1)]
theorem setT_len {LL : Nat → List Bool} {i k N M : Nat} (hl : ∀ j, j < N → (LL j).length = M) (b : Bool) : ∀ j, j < N → (setT LL i k b j).length = M := fun j hj => by
  unfold setT
  by_cases e : j = i
  · subst e
    rw [if_pos rfl, List.length_set]; exact hl j hj
  · rw [if_neg e]; exact hl j hj
theorem factB_lt {L : List Bool} {y : Nat} (h : factB L y = true) : y < L.length := by
  refine Classical.byContradiction fun h' => ?_
  unfold factB at h
  rw [List.getD, List.getElem?_eq_none (by omega)] at h
  simp at h
/-- a row of a table while another is added to it -/
structure OrI (N M : Nat) (LL1 : Nat → List Bool) (x : Nat) (f : Nat → Bool) (t : Nat) (LL : Nat → List Bool) : Prop where
  len : ∀ j, j < N → (LL j).length = M
  up : ∀ y u, y < N → factB (LL1 y) u = true → factB (LL y) u = true
  new : ∀ y u, y < N → factB (LL y) u = true → factB (LL1 y) u = true ∨ (y = x ∧ f u = true)
  done : ∀ u, u < t → f u = true → factB (LL x) u = true
theorem OrI.start {N M : Nat} {LL1 : Nat → List Bool} (hl : ∀ j, j < N → (LL1 j).length = M) (x : Nat) (f : Nat → Bool) : OrI N M LL1 x f 0 LL1 := ⟨hl, fun _ _ _ h => h, fun _ _ _ h => .inl h, fun u hu => by omega⟩
theorem OrI.step {N M : Nat} {LL1 LL : Nat → List Bool} {x : Nat} {f : Nat → Bool} {t : Nat} (h : OrI N M LL1 x f t LL) (hx : x < N) (ht : t < M) : OrI N M LL1 x f (t + 1) (setT LL x t (factB (LL x) t || f t)) := by
  have hs := setT_fact (h.len x hx) ht (factB (LL x) t || f t)
  have hup : ∀ y u, factB (LL y) u = true → factB (setT LL x t (factB (LL x) t || f t) y) u = true := fun y u hf => by
    rw [hs]
    by_cases e : y = x ∧ u = t
    · rw [if_pos e]
      rw [e.1, e.2] at hf
      rw [hf]; rfl
    · rw [if_neg e]; exact hf
  refine ⟨setT_len h.len _, fun y u hy hf => hup y u (h.up y u hy hf), fun y u hy hf => ?_, fun u hu hf => ?_⟩
  · rw [hs] at hf
    by_cases e : y = x ∧ u = t
    · rw [if_pos e, Bool.or_eq_true] at hf
      rw [e.1, e.2]
      rcases hf with hf | hf
      · exact h.new x t hx hf
      · exact .inr ⟨rfl, hf⟩
    · rw [if_neg e] at hf; exact h.new y u hy hf
  · by_cases e : u = t
    · rw [hs, if_pos ⟨rfl, e⟩, ← e, hf, Bool.or_true]
    · exact hup x u (h.done u (by omega) hf)
theorem OrI.own {N M : Nat} {LL1 LL : Nat → List Bool} {x m : Nat} {t : Nat} (h : OrI N M LL1 x (factB (LL1 m)) t LL) (hm : m < N) (u : Nat) : factB (LL m) u = factB (LL1 m) u := by
  rw [Bool.eq_iff_iff]
  constructor
  · intro hf
    rcases h.new m u hm hf with h1 | ⟨_, h1⟩
    · exact h1
    · exact h1
  · exact h.up m u hm

/-- how names begin: on the way -/
def fstE (N : Nat) (ps : List PdR) (n t : Nat) : Prop := ∃ h, toP (fsR N ps) (fsB N ps) h n t
structure FtI (N T : Nat) (ps : List PdR) (rr i : Nat) (LL : Nat → List Bool) : Prop where
  len : ∀ j, j < N → (LL j).length = T
  sound : ∀ x t, x < N → factB (LL x) t = true → fstE N ps x t
  have_ : ∀ x t, x < N → toP (fsR N ps) (fsB N ps) rr x t → factB (LL x) t = true
  done : ∀ q k x t, q < i → q < ps.length → x < N → keepP N ps (ps.getD q noPd) = true → (ps.getD q noPd).left = (x : Int) → AtP (hgtB false (prsS ps) N) (ps.getD q noPd).right k → brgP (toP (fsR N ps) (fsB N ps) rr) ((ps.getD q noPd).right.getD k 0) t → factB (LL x) t = true
theorem FtI.start (N T : Nat) (ps : List PdR) : FtI N T ps 0 0 (fun _ => List.replicate T false) :=
  ⟨fun j _ => by simp, fun x t _ h => (by rw [factB_none] at h; cases h), fun x t _ h => h.elim, fun q k x t hq => by omega⟩
theorem FtI.next {N T : Nat} {ps : List PdR} {rr : Nat} {LL : Nat → List Bool} (h : FtI N T ps rr ps.length LL) : FtI N T ps (rr + 1) 0 LL := by
  refine ⟨h.len, h.sound, fun x t hx hh => ?_, fun q k x t hq => by omega⟩
  rcases hh with ⟨q, hq, hk, hl, k, ha, hb⟩ | ⟨m, ⟨q, hq, hk, hl, k, ha, hb⟩, hm⟩
  · exact h.done q k x t hq hq hx hk hl ha (.inl hb)
  · exact h.done q k x t hq hq hx hk hl ha (.inr ⟨m, hb, hm⟩)
theorem FtI.skip {N T : Nat} {ps : List PdR} {rr i : Nat} {LL : Nat → List Bool} (h : FtI N T ps rr i LL) (hk : keepP N ps (ps.getD i noPd) = false) : FtI N T ps rr (i + 1) LL := by
  refine ⟨h.len, h.sound, h.have_, fun q k x t hq hq2 hxN hkp => ?_⟩
  by_cases e : q = i
  · subst e; rw [hk] at hkp; cases hkp
  · exact h.done q k x t (by omega) hq2 hxN hkp
theorem FtI.final {N T : Nat} {ps : List PdR} {LL : Nat → List Bool} (hG : GOkM N ps) (h : FtI N T ps N 0 LL) : ∀ x t, x < N → (factB (LL x) t = true ↔ fstP N ps x t) := fun x t hx =>
  ⟨fun hf => (fst_iff hG x t hx).2 (h.sound x t hx hf), fun hf => h.have_ x t hx hf⟩
/-- within a production -/
structure FkI (N T : Nat) (ps : List PdR) (rr i x : Nat) (LL0 : Nat → List Bool) (k : Nat) (LL : Nat → List Bool) : Prop where
  len : ∀ j, j < N → (LL j).length = T
  sound : ∀ y t, y < N → factB (LL y) t = true → fstE N ps y t
  up : ∀ y t, y < N → factB (LL0 y) t = true → factB (LL y) t = true
  done : ∀ k' t, k' < k → AtP (hgtB false (prsS ps) N) (ps.getD i noPd).right k' → brgP (toP (fsR N ps) (fsB N ps) rr) ((ps.getD i noPd).right.getD k' 0) t → factB (LL x) t = true
theorem FkI.start {N T : Nat} {ps : List PdR} {rr i : Nat} {LL : Nat → List Bool} (h : FtI N T ps rr i LL) (x : Nat) : FkI N T ps rr i x LL 0 LL := ⟨h.len, h.sound, fun _ _ _ h => h, fun k' t hk => by omega⟩
theorem FkI.fin {N T : Nat} {ps : List PdR} {rr i x k : Nat} {LL0 LL : Nat → List Bool} (h : FkI N T ps rr i x LL0 k LL) (h0 : FtI N T ps rr i LL0) (hN : x < N) (hx : (ps.getD i noPd).left = (x : Int)) (hend : keepP N ps (ps.getD i noPd) = true → ∀ k', k ≤ k' → ¬ AtP (hgtB false (prsS ps) N) (ps.getD i noPd).right k') : FtI N T ps rr (i + 1) LL := by
  refine ⟨h.len, h.sound, fun y t hy hh => h.up y t hy (h0.have_ y t hy hh), fun q k' y t hq hq2 hyN hkp hl ha hb => ?_⟩
  by_cases e : q = i
  · subst e
    obtain rfl : y = x := by omega
    by_cases hk : k' < k
    · exact h.done k' t hk ha hb
    · exact absurd ha (hend hkp k' (by omega))
  · exact h.up y t hyN (h0.done q k' y t (by omega) hq2 hyN hkp hl ha hb)
theorem atP_stop {e : Nat → Bool} {r : List Int} {k : Nat} (h : hasB false e (r.take k) = false) : ∀ k', k ≤ k' → ¬ AtP e r k' := fun k' hk ha => by
  have := hasB_take_le hk ha.2
  rw [h] at this; cases this
theorem take_name {e : Nat → Bool} {r : List Int} {k : Nat} (hk : k < r.length) : hasB false e (r.take (k + 1)) = (hasB false e (r.take k) && (if r.getD k 0 < 0 then e (-1 - r.getD k 0).toNat else false)) := by
  rw [List.take_succ_eq_append_getElem hk]
  unfold hasB
  rw [List.all_append]
  simp [List.getD, hk]
/-- a terminal -/
theorem FkI.term {N T : Nat} {ps : List PdR} {rr i x k s : Nat} {LL0 LL : Nat → List Bool} (h : FkI N T ps rr i x LL0 k LL) (hi : i < ps.length) (hkp : keepP N ps (ps.getD i noPd) = true) (hN : x < N) (hx : (ps.getD i noPd).left = (x : Int)) (ha : AtP (hgtB false (prsS ps) N) (ps.getD i noPd).right k) (hs : (ps.getD i noPd).right.getD k 0 = (s : Int)) (hsT : s < T) : FkI N T ps rr i x LL0 (k + 1) (setT LL x s true) := by
  have hf := setT_fact (h.len x hN) hsT true
  have hup : ∀ y u, factB (LL y) u = true → factB (setT LL x s true y) u = true := fun y u hfu => by
    rw [hf]
    by_cases e : y = x ∧ u = s
    · rw [if_pos e]
    · rw [if_neg e]; exact hfu
  refine ⟨setT_len h.len _, fun y t hy hft => ?_, fun y t hy hft => hup y t (h.up y t hy hft), fun k' t hk' ha' hb => ?_⟩
  · rw [hf] at hft
    by_cases e : y = x ∧ t = s
    · rw [e.1, e.2]
      exact ⟨1, .inl ⟨i, hi, hkp, hx, k, ha, hs⟩⟩
    · rw [if_neg e] at hft; exact h.sound y t hy hft
  · by_cases e : k' = k
    · subst e
      rcases hb with hb | ⟨m, h1, _⟩
      · have : t = s := by omega
        rw [hf, if_pos ⟨rfl, this⟩]
      · omega
    · exact hup x t (h.done k' t (by omega) ha' hb)
/-- a name -/
theorem FkI.name {N T : Nat} {ps : List PdR} {rr i x k m : Nat} {LL0 LL LL' : Nat → List Bool} (h : FkI N T ps rr i x LL0 k LL) (h0 : FtI N T ps rr i LL0) (hi : i < ps.length) (hkp : keepP N ps (ps.getD i noPd) = true) (hN : x < N) (hm : m < N) (hx : (ps.getD i noPd).left = (x : Int)) (ha : AtP (hgtB false (prsS ps) N) (ps.getD i noPd).right k) (hs : -1 - (ps.getD i noPd).right.getD k 0 = (m : Int)) (ho : OrI N T LL x (factB (LL m)) T LL') : FkI N T ps rr i x LL0 (k + 1) LL' := by
  refine ⟨ho.len, fun y t hy hf => ?_, fun y t hy hf => ho.up y t hy (h.up y t hy hf), fun k' t hk' ha' hb => ?_⟩
  · rcases ho.new y t hy hf with h1 | ⟨rfl, h1⟩
    · exact h.sound y t hy h1
    · obtain ⟨u, hu⟩ := h.sound m t hm h1
      exact ⟨u + 1, .inr ⟨m, ⟨i, hi, hkp, hx, k, ha, hs⟩, hu⟩⟩
  · by_cases e : k' = k
    · subst e
      rcases hb with hb | ⟨q, h1, h2⟩
      · omega
      · obtain rfl : q = m := by omega
        have h3 := h.up q t hm (h0.have_ q t hm h2)
        exact ho.done t (by have := factB_lt h3; rw [h.len q hm] at this; exact this) h3
    · exact ho.up x t hN (h.done k' t (by omega) ha' hb)

end Go.Proofs.YtkdoghaoijdedaaGreatDoor
