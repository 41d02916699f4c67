/- Texts of the proof, put together: YPar. -/
import Derived.Test.YtdihdnhofgjhnaaDoorPy21
namespace Go.Proofs.YtdihdnhofgjhnaaDoor
open Go.RowKit
set_option linter.unusedVariables false
set_option maxRecDepth 100000

theorem grown_trans {w w1 w2 : World} {row : Option Nat} (h1 : w.grownBy w1 row) (h2 : w1.grownBy w2 row) : w.grownBy w2 row :=
  ⟨h2.os.trans h1.os, h2.tape.trans h1.tape, h2.output.trans h1.output, Nat.le_trans h1.size h2.size, fun k hk hne => (h2.block k (Nat.lt_of_lt_of_le hk h1.size) hne).trans (h1.block k hk hne)⟩

set_option maxHeartbeats 4000000 in
theorem rev_any (B n : Nat) (v : Value) (us : List Value) (w : World) (h : w.ownsRow B 34 1 v n us) (hn : n ≤ 1000000) (hp : ∀ j, j < n → ∃ b, us.getD j .nilFunc = .pointer (some ⟨b, 0, none⟩)) :
    Calls Tryd.prog 66 #[v] w fun e w' => e = .returned (.tuple #[]) ∧ w.grownBy w' v.ownBlock ∧ w'.ownsRow B 34 1 v n us.reverse := by
  have hul : us.length = n := by have := h.1; simpa using this
  have HP : Hid (∀ j, j < n → ∃ b, us.getD j .nilFunc = .pointer (some ⟨b, 0, none⟩)) := hp
  have HUL : Hid (us.length = n) := hul
  have HO : Hid (w.ownsRow B 34 1 v n us) := h
  obtain ⟨va, vc, rfl⟩ := own_sliceE h
  clear h hp
  have hw1 : IntKind.i64.wrap ((n : Int) - 1) = (n : Int) - 1 := by rw [IntKind.wrap_i64]; omega
  go_enter Tryd.func66, Tryd.ntmps66
  go_wp2
  go_loopw [2, 3] (fun iv jv wr => ∃ i : Nat, i ≤ n ∧ iv = .int .i64 i ∧ jv = .int .i64 ((n : Int) - 1 - i) ∧ Hid (wr.ownsRow B 34 1 (.slice va n vc) n (revP us i)) ∧ Hid (w.grownBy wr (Value.slice va n vc).ownBlock)) (fun iv _ _ => n - (intOf iv).toNat)
  case atStart => exact ⟨0, Nat.zero_le _, rfl, by simp, by rw [revP_zero]; exact HO, ⟨rfl, rfl, rfl, Nat.le_refl _, fun _ _ _ => rfl⟩⟩
  case round =>
    obtain ⟨i, hi, rfl, rfl, HR, HG⟩ := hrel
    by_cases hlt : (i : Int) < (n : Int) - 1 - i
    · obtain ⟨g, c, e, hg1, hg2⟩ := HR.out.form (by omega)
      simp only [Value.slice.injEq, true_and] at e
      obtain ⟨rfl, rfl⟩ := e
      have hr : w.heap.size ≤ wr.heap.size := HG.out.size
      obtain ⟨j, hj⟩ : ∃ j : Nat, (n : Int) - 1 - i = (j : Int) := ⟨n - 1 - i, by omega⟩
      have hjn : j < n := by omega
      have hij : i < j := by omega
      have hin : i < n := by omega
      have ci := own_cellE HR.out hin
      have cj := own_cellE HR.out hjn
      rw [revP_get us i i (by omega), if_neg (by omega)] at ci
      rw [revP_get us i j (by omega), if_neg (by omega)] at cj
      obtain ⟨bi, ebi⟩ := HP.out i hin
      obtain ⟨bj, ebj⟩ := HP.out j hjn
      have HST : Hid (((wr.setCell ⟨g, i, none⟩ (.pointer (some ⟨bj, 0, none⟩))).setCell ⟨g, j, none⟩ (.pointer (some ⟨bi, 0, none⟩))).drew.ownsRow B 34 1 (.slice (some ⟨g, 0, none⟩) n vc) n (revP us (i + 1))) := by
        have e1 := own_setIn (x := .pointer (some ⟨bj, 0, none⟩)) HR.out hin
        have e2 := own_setIn (x := .pointer (some ⟨bi, 0, none⟩)) e1 hjn
        have e3 := revP_step us i (by rw [HUL.out]; omega)
        rw [HUL.out, show n - 1 - i = j by omega, ebi, ebj] at e3
        rw [← e3]
        exact e2
      have HGT : Hid (w.grownBy ((wr.setCell ⟨g, i, none⟩ (.pointer (some ⟨bj, 0, none⟩))).setCell ⟨g, j, none⟩ (.pointer (some ⟨bi, 0, none⟩))).drew (Value.slice (some ⟨g, 0, none⟩) n vc).ownBlock) := grown_drewY (grown_trans HG.out (grown_trans (grown_setY _ _ _ _) (grown_setY _ _ _ _)))
      have hfr : ∀ k, wr.frozen? ⟨g, k, none⟩ = false := fun k => by
        rcases HR.out.2 with ⟨e, _⟩ | ⟨g', cap, cur, e, _, h2, _⟩
        · simp at e
        · simp only [Value.slice.injEq, Option.some.injEq, Addr.mk.injEq, and_true, true_and] at e
          obtain ⟨rfl, rfl⟩ := e
          simp [World.frozen?, h2]
      have f1 := hfr i
      have f2 := hfr j
      rw [ebi] at ci
      rw [ebj] at cj
      rw [hj]
      have hij2 : (i : Int) < (j : Int) := by omega
      have hw2 : IntKind.i64.wrap ((j : Int) - 1) = (j : Int) - 1 := by rw [IntKind.wrap_i64]; omega
      have hneq : ¬ i = j := by omega
      have hneq2 : ¬ j = i := by omega
      clear HR HG hfr hlt ebi ebj hw1
      go_wp2
      go_region
      all_goals
        go_wp2
        go_roundw
        case rel => exact ⟨i + 1, by omega, by go_num, by go_num, HST, HGT⟩
        case measure => simp [intOf]; omega
    · have HEn : Hid (revP us i = us.reverse) := revP_end us i (by rw [HUL.out]; omega)
      go_wp2
      go_end0
      exact ⟨rfl, HG.out, by rw [← HEn.out]; exact HR.out⟩

/-- the pointers of a pile's first trees -/
def PtrsP (ok : Nat → Prop) (w : World) (σ : Pl) (us : List Value) : Prop := us.length = σ.length ∧ ∀ j, j < σ.length → (∃ b, us.getD j .nilFunc = .pointer (some ⟨b, 0, none⟩)) ∧ Tree ok w (us.getD j .nilFunc) (σ.getD j (nilT, 0)).1
theorem PilM.at {ok : Nat → Prop} {w : World} : ∀ {σ : Pl} {v : Value}, PilM ok w v σ → 0 < σ.length → ∃ b pv tq, v = .pointer (some ⟨b, 0, none⟩) ∧ b < w.heap.size ∧ w.cell? ⟨b, 0, none⟩ = some pv ∧ w.cell? ⟨b, 2, none⟩ = some (.pointer (some ⟨tq, 0, none⟩)) ∧ Tree ok w (.pointer (some ⟨tq, 0, none⟩)) (σ.getD 0 (nilT, 0)).1 ∧ PilM ok w pv (σ.drop 1) ∧ ∃ pb, pv = .pointer (some ⟨pb, 0, none⟩)
  | [], v, _, h => by simp at h
  | x :: σ, v, ⟨b, pv, tq, h1, h2, h3, h4⟩, _ => by
    obtain ⟨pb, _, _, e, _⟩ := h4.head
    exact ⟨b, pv, tq, h1, (Array.getElem?_eq_some_iff.1 h2).1, by simp [World.cell?, h2], by simp [World.cell?, h2], h3, h4, pb, e⟩
theorem PtrsP.snoc {ok : Nat → Prop} {w : World} {σ : Pl} {us : List Value} {k tq : Nat} (h : PtrsP ok w (σ.take k) us) (hk : k < σ.length) (ht : Tree ok w (.pointer (some ⟨tq, 0, none⟩)) (σ.getD k (nilT, 0)).1) : PtrsP ok w (σ.take (k + 1)) (us ++ [.pointer (some ⟨tq, 0, none⟩)]) := by
  obtain ⟨h1, h2⟩ := h
  have hl : us.length = k := by rw [h1, List.length_take]; omega
  refine ⟨by simp [hl]; omega, fun j hj => ?_⟩
  have hj1 : j < k + 1 := by rw [List.length_take] at hj; omega
  rw [getD_take _ _ _ _ hj1]
  by_cases hj2 : j < k
  · have := h2 j (by rw [List.length_take]; omega)
    rw [getD_take _ _ _ _ hj2] at this
    rw [getD_left _ _ _ _ (by omega)]
    exact this
  · obtain rfl : j = k := by omega
    rw [getD_last _ _ _ _ hl.symm]
    exact ⟨⟨tq, rfl⟩, ht⟩

set_option maxHeartbeats 4000000 in
theorem parted_any (ok : Nat → Prop) (σ : Pl) (v : Value) (n : Nat) (w : World) (h : PilM ok w v σ) (hn : n ≤ σ.length) (hl : n ≤ 1000) :
    Calls Tryd.prog 63 #[v, .int .i64 n] w fun e w' => ∃ kv pb us, e = .returned (.tuple #[kv, .pointer (some ⟨pb, 0, none⟩)]) ∧ Below w.heap.size w w' ∧ PilM ok w (.pointer (some ⟨pb, 0, none⟩)) (σ.drop n) ∧ w'.ownsRow w.heap.size 34 1 kv n us.reverse ∧ PtrsP ok w (σ.take n) us := by
  obtain ⟨j1, hj0, hj1, hj2, hj3⟩ := info_parts Tryd.infoTreeY
  have HP : Hid (PilM ok w v σ) := h
  obtain ⟨vb, _, _, rfl, _, _⟩ := h.head
  clear h
  go_enter Tryd.func63, Tryd.ntmps63
  go_wp2
  go_loopw [0, 6, 8] (fun lv rv kv wr => ∃ (k lb : Nat) (us : List Value), k ≤ n ∧ kv = .int .i64 k ∧ lv = .pointer (some ⟨lb, 0, none⟩) ∧ Hid (PilM ok w (.pointer (some ⟨lb, 0, none⟩)) (σ.drop k)) ∧ Hid (wr.ownsRow w.heap.size 34 1 rv k us) ∧ Hid (PtrsP ok w (σ.take k) us) ∧ Hid (Below w.heap.size w wr)) (fun _ _ kv _ => n - (intOf kv).toNat)
  case atStart => exact ⟨0, vb, [], Nat.zero_le _, rfl, rfl, HP, ⟨rfl, .inl ⟨rfl, rfl⟩⟩, ⟨by simp, fun j hj => by simp at hj⟩, Below.refl _ _⟩
  case round =>
    clear HP
    obtain ⟨k, lb, us, hk, rfl, rfl, HL, HO, HU, HB⟩ := hrel
    obtain ⟨ra, rc, rfl⟩ := own_sliceE HO.out
    by_cases hlt : k < n
    · obtain ⟨b, pv, tq, e, hb, c0, c2, ht, hrest, pb, rfl⟩ := HL.out.at (by rw [List.length_drop]; omega)
      simp only [Value.pointer.injEq, Option.some.injEq, Addr.mk.injEq, and_true] at e
      subst e
      have d0 := (HB.out.cell (p := ⟨lb, 0, none⟩) hb).trans c0
      have d2 := (HB.out.cell (p := ⟨lb, 2, none⟩) hb).trans c2
      have hb2 : lb < wr.heap.size := Nat.lt_of_lt_of_le hb HB.out.size
      have hsz := HB.out.size
      have HU2 : Hid (PtrsP ok w (σ.take (k + 1)) (us ++ [.pointer (some ⟨tq, 0, none⟩)])) := HU.out.snoc (by omega) (by
        have e : (σ.drop k).getD 0 (nilT, 0) = σ.getD k (nilT, 0) := by simp [List.getD_eq_getElem?_getD, List.getElem?_drop]
        rw [← e]; exact ht)
      have HL2 : Hid (PilM ok w (.pointer (some ⟨pb, 0, none⟩)) (σ.drop (k + 1))) := by
        rw [List.drop_drop] at hrest
        exact hrest
      have HN : Hid (∀ w9, (wr.alloc (.cells #[.pointer (some ⟨tq, 0, none⟩)] 34)).grownBy w9 (Value.slice ra k rc).ownBlock → Below w.heap.size w w9 ∧ w9.cell? ⟨lb, 0, none⟩ = some (.pointer (some ⟨pb, 0, none⟩)) ∧ lb < w9.heap.size) := fun w9 hg => by
        have hb9 := below_grownY HB.out hg (fun b e => (HO.out.lt b e).1) hsz
        exact ⟨hb9, (hb9.cell (p := ⟨lb, 0, none⟩) hb).trans c0, Nat.lt_of_lt_of_le hb hb9.size⟩
      clear c0 c2 ht hrest HU HL hb
      go_wp2_with (at_builtin; refine wpList_append_lies _ rfl _ _ 73 rfl w.heap.size 34 j1 (.pointer none) 1 8 Tryd.underlying73 hj0 hj1 hj2 hj3 rfl (by decide) (.slice ra k rc) k us rfl (World.ownsRow.alloc HO.out _) ⟨wr.heap.size, 0, none⟩ 1 1 [.pointer (some ⟨tq, 0, none⟩)] rfl rfl (cell_one_new wr _ _) (by intro x hx; simp at hx; subst hx; rfl) (by omega) (by unfold maxLen; omega) (by omega) (by simp; omega) (wr.heap.size + 1) (by simp) ?_)
      intro g9 cap9 w9 hown9 hg9 hat9 hlt9
      obtain ⟨b9, e0, e1⟩ := HN.out w9 hg9
      have HB9 : Hid (Below w.heap.size w w9) := b9
      have HO9 : Hid (w9.ownsRow w.heap.size 34 1 (.slice (some ⟨g9, 0, none⟩) (k + 1) cap9) (k + 1) (us ++ [.pointer (some ⟨tq, 0, none⟩)])) := hown9
      clear hown9 hg9 hat9 hlt9 HN b9 d0 d2
      go_wp2_with fail
      go_roundw
      case rel => exact ⟨k + 1, pb, _, by omega, by go_num, rfl, HL2, HO9, HU2, HB9⟩
      case measure => simp [intOf]; omega
    · obtain rfl : k = n := by omega
      have HRV : Hid (Calls Tryd.prog 66 #[.slice ra k rc] wr fun e w' => e = .returned (.tuple #[]) ∧ wr.grownBy w' (Value.slice ra k rc).ownBlock ∧ w'.ownsRow w.heap.size 34 1 (.slice ra k rc) k us.reverse) := rev_any w.heap.size k (.slice ra k rc) us wr HO.out (by omega) fun j hj => (HU.out.2 j (by rw [List.length_take]; omega)).1
      go_wp2_with fail
      go_at_call 66
      refine HRV.out.mono ?_
      rintro e w2 ⟨rfl, hg, ho⟩
      have HB2 : Hid (Below w.heap.size w w2) := HB.out.trans ⟨hg.os, hg.tape, hg.output, hg.size, fun b hb => hg.block b (Nat.lt_of_lt_of_le hb HB.out.size) (fun e => by have := (HO.out.lt b e.symm).1; omega)⟩
      have HO2 : Hid (w2.ownsRow w.heap.size 34 1 (.slice ra k rc) k us.reverse) := ho
      clear hg ho HRV
      go_wp2_with fail
      go_ret2
      exact ⟨_, lb, us, rfl, HB2.out, HL.out, HO2.out, HU.out⟩

end Go.Proofs.YtdihdnhofgjhnaaDoor
