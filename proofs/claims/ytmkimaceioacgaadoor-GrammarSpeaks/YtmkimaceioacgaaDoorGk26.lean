/- Texts of the proof, put together: GChM, GTab. -/
import Derived.Test.YtmkimaceioacgaaDoorGk20
import Derived.Test.YtmkimaceioacgaaDoorGk25
import Derived.Test.YtmkimaceioacgaaDoorGk05
import Derived.Test.YtmkimaceioacgaaDoorGk08
import Derived.Deep.AppendLies
import Derived.Maps.AppendAt
namespace Go.Proofs.YtmkimaceioacgaaDoor
open Go.RowKit
set_option linter.unusedVariables false
set_option maxRecDepth 100000

/-- a table for each name -/
structure ChM (w : World) (CD N M : Nat) (D cp : Nat → Nat) (bl : Nat → Nat → Nat) (C : Nat → Nat → List Bool) : Prop where
  lt : CD < w.heap.size
  at_ : ∀ n, n < N → w.cell? ⟨CD, n, none⟩ = some (.slice (some ⟨D n, 0, none⟩) M (cp n))
  tab : ∀ n, n < N → TabM w (D n) M M (bl n) (C n)
theorem ChM.below {w w' : World} {CD N M : Nat} {D cp : Nat → Nat} {bl : Nat → Nat → Nat} {C : Nat → Nat → List Bool} (h : ChM w CD N M D cp bl C) (hb : Below w.heap.size w w') : ChM w' CD N M D cp bl C :=
  ⟨Nat.lt_of_lt_of_le h.lt hb.size, fun n hn => (hb.cell (p := ⟨CD, n, none⟩) h.lt).trans (h.at_ n hn), fun n hn => (h.tab n hn).below hb⟩
/-- what the chart says -/
def chB (C : Nat → Nat → List Bool) (n i j : Nat) : Prop := factB (C n i) j = true

/-- it answers whether this is so -/
def SaysP (e : Ending) (A : Prop) : Prop := ∃ b, e = .returned (.bool b) ∧ (b = true ↔ A)

set_option maxHeartbeats 4000000 in
theorem rsym_any (CD cc N : Nat) (D cp : Nat → Nat) (bl : Nat → Nat → Nat) (C : Nat → Nat → List Bool) (inp : List Int) (iv : Value) (s : Int) (i j : Nat) (w : World) (hN : N ≤ 1000) (hs1 : -(N : Int) ≤ s) (hs2 : s ≤ 1000) (hij : i ≤ j) (hj : j ≤ inp.length) (hl : inp.length ≤ 1000) (hC : ChM w CD N (inp.length + 1) D cp bl C) (hi : IntsR w iv inp) :
    Calls Tryd.prog 70 #[.slice (some ⟨CD, 0, none⟩) N cc, iv, .int .i64 s, .int .i64 i, .int .i64 j] w fun e w' => SaysP e (symP inp (chB C) s i j) ∧ Below w.heap.size w w' := by
  obtain ⟨ia, ic, rfl⟩ := hi.slice
  by_cases h0 : s < 0
  · obtain ⟨n, hn⟩ : ∃ n : Nat, -1 - s = (n : Int) := ⟨(-1 - s).toNat, by omega⟩
    have hnN : n < N := by omega
    have hwq : IntKind.i64.wrap (-1 - s) = (n : Int) := by rw [IntKind.wrap_i64]; omega
    have c1 := hC.at_ n hnN
    have l1 := hC.lt
    have hT := hC.tab n hnN
    have c2 := hT.at_ i (by omega)
    have l2 := hT.lt
    have c3 := hT.cell (i := i) (k := j) (by omega) (by omega)
    have l3 := (hT.row i (by omega)).lt
    have HS : Hid (factB (C n i) j = true ↔ symP inp (chB C) s i j) := by
      show _ ↔ _
      unfold symP chB
      rw [if_pos h0, hn, Int.toNat_natCast]
    have hi1 : (i : Int) < (inp.length : Int) + 1 := by omega
    have hj1 : (j : Int) < (inp.length : Int) + 1 := by omega
    clear hT hC hi hn hs1 hs2
    generalize factB (C n i) j = b at *
    generalize bl n i = br at *
    generalize D n = dn at *
    generalize cp n = cn at *
    go_enter Tryd.func70, Tryd.ntmps70
    go_wp2
    go_ret
    exact ⟨⟨b, rfl, HS.out⟩, Below.refl _ _⟩
  · by_cases h1 : j = i + 1
    · subst h1
      obtain ⟨b, off, rfl, hb, hc⟩ := hi.at (show i < inp.length by omega)
      have HS : Hid ((inp.getD i 0 == s) = true ↔ symP inp (chB C) s i (i + 1)) := by
        show _ ↔ _
        unfold symP
        rw [if_neg h0, beq_iff_eq]
        exact ⟨fun h => ⟨rfl, by omega, h⟩, fun h => h.2.2⟩
      have hi1 : (i : Int) < (inp.length : Int) := by omega
      have hw1 : IntKind.i64.wrap ((i : Int) + 1) = ((i + 1 : Nat) : Int) := by rw [IntKind.wrap_i64]; omega
      clear hC hi hs1 hs2
      generalize inp.getD i 0 = x at *
      go_enter Tryd.func70, Tryd.ntmps70
      go_wp2
      go_ret
      exact ⟨⟨_, rfl, HS.out⟩, Below.refl _ _⟩
    · have HS : Hid (¬ symP inp (chB C) s i j) := by
        show ¬ _
        unfold symP
        rw [if_neg h0]
        exact fun h => h1 h.1
      have h2 : ¬ (j : Int) = (i : Int) + 1 := by omega
      have hw1 : IntKind.i64.wrap ((i : Int) + 1) = (i : Int) + 1 := by rw [IntKind.wrap_i64]; omega
      have h3 : ((j : Int) == (i : Int) + 1) = false := by rw [beq_eq_false_iff_ne]; exact h2
      clear hC hi hs1 hs2
      go_enter Tryd.func70, Tryd.ntmps70
      go_wp2
      go_ret
      exact ⟨⟨false, rfl, ⟨fun h => (by cases h), fun h => absurd h HS.out⟩⟩, Below.refl _ _⟩

end Go.Proofs.YtmkimaceioacgaaDoor

namespace Go.Proofs.YtmkimaceioacgaaDoor
open Go.RowKit
set_option linter.unusedVariables false
set_option maxRecDepth 100000

theorem Tryd.infoBools : (Tryd.prog.info? 31).map (fun i => (i.zero, i.size, i.bytes)) = some (some (.slice none 0 0), 1, 24) := by kernel_rfl
/-- the rows of a table -/
def rowsV (m : Nat) (bs : List Nat) : List Value := bs.map fun b => .slice (some ⟨b, 0, none⟩) m m
/-- a table on its way: the row of rows is one's own, each row new -/
structure TbO (w wr : World) (m : Nat) (v : Value) (bs : List Nat) : Prop where
  own : wr.ownsRow w.heap.size 31 1 v bs.length (rowsV m bs)
  row : ∀ j (h : j < bs.length), RowB wr bs[j] (List.replicate m false)
  low : ∀ b ∈ bs, w.heap.size ≤ b
  ne : ∀ b ∈ bs, v.ownBlock ≠ some b
  nd : bs.Nodup
theorem TbO.slice {w wr : World} {m : Nat} {v : Value} {bs : List Nat} (h : TbO w wr m v bs) : ∃ a c, v = .slice a bs.length c := by
  rcases h.own.2 with ⟨e, h0⟩ | ⟨g, cap, cur, e, _⟩
  · exact ⟨none, 0, by rw [e, h0]⟩
  · exact ⟨_, _, e⟩
theorem TbO.step {w wr w9 : World} {m : Nat} {v : Value} {bs : List Nat} {g cap : Nat} {o : Obj} (h : TbO w wr m v bs) (hw : w.heap.size ≤ wr.heap.size)
    (hown : w9.ownsRow w.heap.size 31 1 (.slice (some ⟨g, 0, none⟩) (bs.length + 1) cap) (bs.length + 1) (rowsV m bs ++ [.slice (some ⟨wr.heap.size, 0, none⟩) m m])) (hg9 : ((wr.alloc (.cells (boolsA (List.replicate m false)) 4)).alloc o).grownBy w9 v.ownBlock) (hat : v.ownBlock = some g ∨ g = wr.heap.size + 1 + 1) :
    TbO w w9 m (.slice (some ⟨g, 0, none⟩) (bs.length + 1) cap) (bs ++ [wr.heap.size]) := by
  have hol : ∀ b, v.ownBlock = some b → w.heap.size ≤ b ∧ b < wr.heap.size := fun b hb => h.own.lt b hb
  have hA := alloc_below wr (.cells (boolsA (List.replicate m false)) 4)
  have hs := alloc_size wr (.cells (boolsA (List.replicate m false)) 4)
  have hA2 := alloc_below (wr.alloc (.cells (boolsA (List.replicate m false)) 4)) o
  have hs2 := alloc_size (wr.alloc (.cells (boolsA (List.replicate m false)) 4)) o
  have hlt : ∀ b ∈ bs, b < wr.heap.size := fun b hb => by
    obtain ⟨j, hj, rfl⟩ := List.mem_iff_getElem.1 hb
    exact (h.row j hj).lt
  have hkeep : ∀ b L, v.ownBlock ≠ some b → b < wr.heap.size + 1 → RowB (wr.alloc (.cells (boolsA (List.replicate m false)) 4)) b L → RowB w9 b L := fun b L hne hb hr => (hg9.block b (by omega) (fun e => hne e.symm)).trans ((hA2.block b (by omega)).trans hr)
  refine ⟨?_, fun j hj => ?_, fun b hb => ?_, fun b hb => ?_, ?_⟩
  · rw [List.length_append]
    unfold rowsV at *
    rw [List.map_append]
    exact hown
  · rw [List.length_append] at hj
    by_cases e : j < bs.length
    · rw [List.getElem_append_left e]
      exact hkeep _ _ (h.ne _ (List.getElem_mem e)) (by have := (h.row j e).lt; omega) ((hA.block _ (h.row j e).lt).trans (h.row j e))
    · obtain rfl : j = bs.length := by simp at hj; omega
      rw [List.getElem_append_right (Nat.le_refl _)]
      simp only [Nat.sub_self, List.getElem_cons_zero]
      refine hkeep _ _ (fun e' => by have := hol _ e'; omega) (by omega) ?_
      show (wr.heap.push _)[wr.heap.size]? = _
      exact Array.getElem?_push_size
  · rcases List.mem_append.1 hb with hb | hb
    · exact h.low b hb
    · obtain rfl : b = wr.heap.size := by simpa using hb
      exact hw
  · intro e
    have e' : g = b := by simpa [Value.ownBlock] using e
    rcases List.mem_append.1 hb with hb | hb
    · rcases hat with h1 | h1
      · exact h.ne b hb (by rw [h1, e'])
      · have := hlt b hb; omega
    · obtain rfl : b = wr.heap.size := by simpa using hb
      rcases hat with h1 | h1
      · have := hol g h1; omega
      · omega
  · refine List.nodup_append.2 ⟨h.nd, by simp, fun a ha b hb => ?_⟩
    obtain rfl : b = wr.heap.size := by simpa using hb
    have := hlt a ha
    omega
theorem TbO.tab {w wr : World} {m n : Nat} {D c : Nat} {bs : List Nat} (h : TbO w wr m (.slice (some ⟨D, 0, none⟩) n c) bs) (hl : bs.length = n) (hn : 1 ≤ n) : TabM wr D n m (fun j => bs.getD j 0) (fun _ => List.replicate m false) ∧ w.heap.size ≤ D ∧ ∀ j, j < n → w.heap.size ≤ bs.getD j 0 := by
  have hg : ∀ j (hj : j < n), bs.getD j 0 = bs[j]'(by omega) := fun j hj => by simp [List.getD, show j < bs.length by omega]
  have hob : (Value.slice (some ⟨D, 0, none⟩) n c).ownBlock = some D := rfl
  have hol := h.own.lt D hob
  refine ⟨⟨hol.2, fun j hj => ?_, fun j hj => ?_, fun j _ => by simp, fun j j' hj hj' e => ?_, fun j hj => ?_⟩, hol.1, fun j hj => ?_⟩
  · have hv := h.own
    rw [hl] at hv
    rw [hv.cellAt j (by omega), hg j hj]
    simp [rowsV, show j < bs.length by omega]
  · rw [hg j hj]; exact h.row j (by omega)
  · rw [hg j hj, hg j' hj'] at e
    have hp := List.pairwise_iff_getElem.1 h.nd
    rcases Nat.lt_trichotomy j j' with h1 | h1 | h1
    · exact absurd e (hp j j' (by omega) (by omega) h1)
    · exact h1
    · exact absurd e.symm (hp j' j (by omega) (by omega) h1)
  · rw [hg j hj]
    intro e
    exact h.ne _ (List.getElem_mem (show j < bs.length by omega)) (by rw [hob, e])
  · rw [hg j hj]; exact h.low _ (List.getElem_mem _)
theorem cell_one_newT (W : World) (o : Obj) (v : Value) (t : TypeId) : ∀ j u, [v][j]? = some u → ((W.alloc o).alloc (.cells #[v] t)).cell? ((⟨W.heap.size + 1, 0, none⟩ : Addr).add j) = some u := by
  have h := cell_one_new (W.alloc o) v t
  rw [alloc_size] at h
  exact h

set_option maxHeartbeats 4000000 in
theorem rtable_any (n m : Nat) (hn1 : 1 ≤ n) (hn : n ≤ 300) (hm : m ≤ 301) (w : World) :
    Calls Tryd.prog 48 #[.int .i64 n, .int .i64 m] w fun e w' => ∃ D c bl, e = .returned (.slice (some ⟨D, 0, none⟩) n c) ∧ TabM w' D n m bl (fun _ => List.replicate m false) ∧ w.heap.size ≤ D ∧ (∀ j, j < n → w.heap.size ≤ bl j) ∧ Below w.heap.size w w' := by
  obtain ⟨i0, hi0, hz0, hz1, hz2⟩ := infoParts Tryd.infoBools
  go_enter Tryd.func48, Tryd.ntmps48
  go_wp2
  go_loopw [5, 6] (fun ov iv wr => ∃ (bs : List Nat), bs.length ≤ n ∧ iv = .int .i64 bs.length ∧ Hid (TbO w wr m ov bs) ∧ Below w.heap.size w wr) (fun _ iv _ => n - (intOf iv).toNat)
  case atStart => exact ⟨[], Nat.zero_le _, rfl, ⟨⟨rfl, .inl ⟨rfl, rfl⟩⟩, fun j hj => by simp at hj, fun b hb => by simp at hb, fun b hb => by simp at hb, List.nodup_nil⟩, Below.refl _ _⟩
  case round =>
    obtain ⟨bs, hl, rfl, HT, hbw⟩ := hrel
    obtain ⟨oa, oc, hoe⟩ := HT.out.slice
    subst hoe
    by_cases hlt : bs.length < n
    · have hmk := makeBoolsT m (by omega) wr
      have HOW : Hid (∀ o o', ((wr.alloc o).alloc o').ownsRow w.heap.size 31 1 (.slice oa bs.length oc) bs.length (rowsV m bs)) := fun o o' => World.ownsRow.alloc (World.ownsRow.alloc HT.out.own o) o'
      have hwl : w.heap.size ≤ wr.heap.size := hbw.size
      have HSTP : Hid (∀ o w9 g9 cap9, w9.ownsRow w.heap.size 31 1 (.slice (some ⟨g9, 0, none⟩) (bs.length + 1) cap9) (bs.length + 1) (rowsV m bs ++ [.slice (some ⟨wr.heap.size, 0, none⟩) m m]) → ((wr.alloc (.cells (boolsA (List.replicate m false)) 4)).alloc o).grownBy w9 (Value.slice oa bs.length oc).ownBlock → ((Value.slice oa bs.length oc).ownBlock = some g9 ∨ g9 = wr.heap.size + 1 + 1) → TbO w w9 m (.slice (some ⟨g9, 0, none⟩) (bs.length + 1) cap9) (bs ++ [wr.heap.size]) ∧ Below w.heap.size w w9) := fun o w9 g9 cap9 h1 h2 h3 => by
        refine ⟨HT.out.step hwl h1 h2 h3, ?_⟩
        have hol : ∀ b, (Value.slice oa bs.length oc).ownBlock = some b → w.heap.size ≤ b ∧ b < wr.heap.size := fun b hb => HT.out.own.lt b hb
        have hA := alloc_below wr (.cells (boolsA (List.replicate m false)) 4)
        have hs := alloc_size wr (.cells (boolsA (List.replicate m false)) 4)
        have hA2 := alloc_below (wr.alloc (.cells (boolsA (List.replicate m false)) 4)) o
        have hs2 := alloc_size (wr.alloc (.cells (boolsA (List.replicate m false)) 4)) o
        have hb9 : Below w.heap.size ((wr.alloc (.cells (boolsA (List.replicate m false)) 4)).alloc o) w9 := ⟨h2.os, h2.tape, h2.output, h2.size, fun q hq => h2.block q (by omega) (fun e => by have := hol q e.symm; omega)⟩
        exact ((hbw.trans (hA.mono hwl)).trans (hA2.mono (by omega))).trans hb9
      clear HT
      go_wp2_with (at_builtin; refine wpList_append_lies _ rfl _ _ 51 rfl w.heap.size 31 i0 (.slice none 0 0) 1 24 Tryd.underlying51 hi0 hz0 hz1 hz2 rfl (by decide) (.slice oa bs.length oc) bs.length (rowsV m bs) rfl (HOW.out _ _) ⟨wr.heap.size + 1, 0, none⟩ 1 1 [.slice (some ⟨wr.heap.size, 0, none⟩) m m] rfl rfl ?c1 ?c2 ?c3 ?c4 ?c5 ?c6 (wr.heap.size + 1 + 1) ?c7 ?_)
      case c1 => exact cell_one_newT wr _ _ _
      case c2 => intro x hx; simp at hx; subst hx; rfl
      case c3 => omega
      case c4 => unfold maxLen; omega
      case c5 => omega
      case c6 => simp; omega
      case c7 => simp
      intro g9 cap9 w9 hown9 hg9 hat9 hlt9
      obtain ⟨q1, q2⟩ := HSTP.out _ w9 g9 cap9 hown9 hg9 hat9
      have Q1 : Hid (TbO w w9 m (.slice (some ⟨g9, 0, none⟩) (bs.length + 1) cap9) (bs ++ [wr.heap.size])) := q1
      have HLN : Hid ((bs ++ [wr.heap.size]).length = bs.length + 1) := by show _ = _; simp
      clear q1 hown9 hg9 hat9 hlt9 HSTP HOW hmk
      go_wp2
      go_roundw
      case rel => exact ⟨bs ++ [wr.heap.size], by rw [HLN.out]; omega, by rw [HLN.out]; go_num, Q1, q2⟩
      case measure => simp [intOf]; omega
    · obtain ⟨D, hD⟩ : ∃ D, oa = some ⟨D, 0, none⟩ := by
        rcases HT.out.own.2 with ⟨e, h0⟩ | ⟨g, cap, cur, e, _⟩
        · omega
        · exact ⟨g, by simpa using (show oa = some ⟨g, 0, none⟩ ∧ oc = cap by simpa using e).1⟩
      subst hD
      have hln : bs.length = n := by omega
      have hT := HT.out
      rw [hln] at hT
      obtain ⟨h1, h2, h3⟩ := hT.tab hln hn1
      have H1 : Hid (TabM wr D n m (fun j => bs.getD j 0) (fun _ => List.replicate m false)) := h1
      have H3 : Hid (∀ j, j < n → w.heap.size ≤ bs.getD j 0) := h3
      clear HT h1 h3 hT
      rw [hln] at *
      clear hln
      go_wp2
      go_ret
      first | exact ⟨D, oc, _, rfl, H1.out, h2, H3.out, hbw⟩ | exact ⟨D, ⟨oc, rfl⟩, _, H1.out, h2, H3.out, hbw⟩

end Go.Proofs.YtmkimaceioacgaaDoor
