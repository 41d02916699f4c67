/- Texts of the proof, put together: ACnt, PVal. -/
import Derived.Test.YthbglakncijahaaGreatDoorAw16
import Derived.Shelf.Unicode.ValidAny
namespace Go.Proofs.YthbglakncijahaaGreatDoor
open Go.RowKit
set_option linter.unusedVariables false
set_option maxRecDepth 100000

/-- all in it is well made -/
def wellE (t : Ex) : Bool := match t with
  | ⟨i, k, z, x, ks⟩ => (i && shapeB k z x ks.length) && (ks.map wellE).all id
theorem wellE_eq (t : Ex) : wellE t = ((t.is && shapeB t.kind t.num t.text t.kids.length) && (t.kids.map wellE).all id) := by obtain ⟨i, k, z, x, ks⟩ := t; rw [wellE]
theorem wellE_kid {t k : Ex} (h : wellE t = true) (hk : k ∈ t.kids) : wellE k = true := by
  rw [wellE_eq, Bool.and_eq_true, List.all_eq_true] at h
  exact h.2 _ (List.mem_map_of_mem hk)
theorem wellE_is {t : Ex} (h : wellE t = true) : t.is = true ∧ shapeB t.kind t.num t.text t.kids.length = true := by
  rw [wellE_eq, Bool.and_eq_true, Bool.and_eq_true] at h
  exact h.1
theorem wellE_of {t : Ex} (h1 : t.is = true) (h2 : shapeB t.kind t.num t.text t.kids.length = true) (h3 : ∀ k ∈ t.kids, wellE k = true) : wellE t = true := by
  rw [wellE_eq, h1, h2, Bool.true_and, Bool.true_and, List.all_eq_true]
  intro b hb
  obtain ⟨k, hk, rfl⟩ := List.mem_map.1 hb
  exact h3 k hk
/-- sizes of texts and of rows of kids, so deep -/
def TxB : Nat → Ex → Prop
  | 0, _ => True
  | n + 1, t => t.text.size ≤ 140737488351232 ∧ t.kids.length ≤ 140737488351232 ∧ ∀ k ∈ t.kids, TxB n k
def TxA (t : Ex) : Prop := ∀ n, TxB n t
theorem TxA.kid {t k : Ex} (h : TxA t) (hk : k ∈ t.kids) : TxA k := fun n => (h (n + 1)).2.2 k hk
theorem TxA.size {t : Ex} (h : TxA t) : t.text.size ≤ 140737488351232 ∧ t.kids.length ≤ 140737488351232 := ⟨(h 1).1, (h 1).2.1⟩

/-- how many there are, with those ahead; -1: it is not valid, or there are too many -/
def cntE (t : Ex) (z : Int) : Int := if wellE t = true ∧ z + (wtE t : Int) ≤ 200 then z + (wtE t : Int) else -1
theorem cntE_not {t : Ex} {z : Int} (h : wellE t = false) : cntE t z = -1 := by unfold cntE; rw [if_neg (by rw [h]; simp)]
theorem take_mem {ks : List Ex} {i : Nat} {k : Ex} (h : k ∈ ks.take i) : k ∈ ks := List.mem_of_mem_take h
theorem wtL_take {ks : List Ex} {i : Nat} (hi : i < ks.length) : wtL (ks.take (i + 1)) = wtL (ks.take i) + wtE (ks.getD i nilE) := by
  rw [List.take_succ_eq_append_getElem hi, wtL_append, wtL_one]
  simp [List.getD, hi]
theorem wtL_split (ks : List Ex) (i : Nat) : wtL ks = wtL (ks.take i) + wtL (ks.drop i) := by
  rw [← wtL_append, List.take_append_drop]
theorem getD_mem {ks : List Ex} {i : Nat} (hi : i < ks.length) : ks.getD i nilE ∈ ks := by
  rw [List.getD_eq_getElem?_getD, List.getElem?_eq_getElem hi]
  exact List.getElem_mem hi
theorem wtL_upto {ks : List Ex} {i : Nat} (hi : i < ks.length) : wtL (ks.take i) + wtE (ks.getD i nilE) ≤ wtL ks := by
  have h1 := wtL_split ks (i + 1)
  have h2 := wtL_take hi
  omega

set_option maxHeartbeats 4000000 in
theorem rcount_any {ok : Nat → Prop} {w : World} : ∀ (n : Nat) {v : Value} {t : Ex} (z : Int), IsEx ok n w v t → TxA t → 0 ≤ z → z ≤ 200 →
    Calls Tryz.prog 26 #[v, .int .i64 z] w fun e w' => e = .returned (.int .i64 (cntE t z)) ∧ w' = w
  | 0, v, t, z, h, _, _, _ => h.elim
  | n + 1, v, t, z, .inl ⟨h1, h2⟩, _, _, _ => by
    subst h2
    have HV : Hid (cntE t z = -1) := by rw [h1]; exact cntE_not (by rw [wellE_eq]; rfl)
    go_enter Tryz.func26, Tryz.ntmps26
    go_wp2
    go_ret
    exact ⟨by rw [HV.out]; rfl, rfl⟩
  | n + 1, v, t, z, .inr ⟨hi, b, kv, h1, h2, h3, h5⟩, hT, hz0, hz2 => by
    subst h1
    obtain ⟨ka, kc, rfl⟩ := h5.slice
    have c0 : w.cell? ⟨b, 0, none⟩ = some (.int .i64 t.kind) := cellsAtA h3 0 _ rfl
    have c1 : w.cell? ⟨b, 1, none⟩ = some (.int .i64 t.num) := cellsAtA h3 1 _ rfl
    have c2 : w.cell? ⟨b, 2, none⟩ = some (.string t.text) := cellsAtA h3 2 _ rfl
    have c3 : w.cell? ⟨b, 3, none⟩ = some (.slice ka t.kids.length kc) := cellsAtA h3 3 _ rfl
    have HS : Hid (Calls Tryz.prog 48 #[.pointer (some ⟨b, 0, none⟩)] w fun e w' => e = .returned (.bool (shapeB t.kind t.num t.text t.kids.length)) ∧ w' = w) := rshape_any hT.size.1 c0 c1 c2 c3
    have hkl := hT.size.2
    by_cases hz : z = 200
    · have HV : Hid (cntE t z = -1) := by show _ = _; unfold cntE; rw [if_neg]; intro h; have := wtE_pos t; omega
      subst hz
      clear h3 h5 hT HS c0 c1 c2 c3
      go_enter Tryz.func26, Tryz.ntmps26
      go_wp2
      go_ret
      exact ⟨by rw [HV.out]; rfl, rfl⟩
    · have hge : decide (z ≥ 200) = false := decide_eq_false (by omega)
      cases hsh : shapeB t.kind t.num t.text t.kids.length
      · rw [hsh] at HS
        have HV : Hid (cntE t z = -1) := cntE_not (by rw [wellE_eq, hsh, Bool.and_false]; rfl)
        clear h3 h5 hT c0 c1 c2 c3
        go_enter Tryz.func26, Tryz.ntmps26
        go_wp2_with (go_at_call 48; refine HS.out.mono ?_; rintro e w' ⟨rfl, hw⟩; obtain rfl := hw.symm; clear hw)
        go_ret
        exact ⟨by rw [HV.out]; rfl, rfl⟩
      · rw [hsh] at HS
        have HKid : Hid (∀ i, i < t.kids.length → ∀ z', 0 ≤ z' → z' ≤ 200 → ∃ g off u, ka = some ⟨g, off, none⟩ ∧ g < w.heap.size ∧ w.cell? ⟨g, off + i, none⟩ = some u ∧ Calls Tryz.prog 26 #[u, .int .i64 z'] w fun e w' => e = .returned (.int .i64 (cntE (t.kids.getD i nilE) z')) ∧ w' = w) := fun i hik z' h0 h2' => by
          obtain ⟨g, off, u, e1, e2, e3, e4⟩ := h5.at hik
          exact ⟨g, off, u, e1, e2, e3, rcount_any n z' e4 (hT.kid (getD_mem hik)) h0 h2'⟩
        have HW : Hid (wellE t = true ↔ ∀ k ∈ t.kids, wellE k = true) := ⟨fun h k hk => wellE_kid h hk, fun h => wellE_of hi hsh h⟩
        have HWt : Hid (wtE t = 1 + wtL t.kids) := wtE_eq t
        have hw1 : IntKind.i64.wrap (z + 1) = z + 1 := by rw [IntKind.wrap_i64]; omega
        clear h3 h5 hT hsh
        go_enter Tryz.func26, Tryz.ntmps26
        go_wp2_with (go_at_call 48; refine HS.out.mono ?_; rintro e w' ⟨rfl, hw⟩; obtain rfl := hw.symm; clear hw)
        go_loop [1, 6] (fun zv iv => ∃ (i : Nat) (z' : Int), zv = .int .i64 z' ∧ iv = .int .i64 i ∧ i ≤ t.kids.length ∧ z' ≤ 200 ∧ Hid (z' = z + 1 + (wtL (t.kids.take i) : Int)) ∧ Hid (∀ k ∈ t.kids.take i, wellE k = true)) (fun _ iv => t.kids.length - (intOf iv).toNat)
        case atStart => exact ⟨0, z + 1, rfl, rfl, by omega, by omega, by show _ = _; simp [wtL], fun k hk => by simp at hk⟩
        case round =>
          obtain ⟨i, z', rfl, rfl, hil, hz3, HZ, HA⟩ := hrel
          have hz0' : 0 ≤ z' := by have := HZ.out; omega
          by_cases hlt : i < t.kids.length
          · obtain ⟨g, off, u, rfl, hg, cu, hC⟩ := HKid.out i hlt z' hz0' hz3
            have HC : Hid (Calls Tryz.prog 26 #[u, .int .i64 z'] w fun e w' => e = .returned (.int .i64 (cntE (t.kids.getD i nilE) z')) ∧ w' = w) := hC
            have hltI : (i : Int) < (t.kids.length : Int) := by omega
            by_cases hgood : wellE (t.kids.getD i nilE) = true ∧ z' + (wtE (t.kids.getD i nilE) : Int) ≤ 200
            · have e1 : cntE (t.kids.getD i nilE) z' = z' + (wtE (t.kids.getD i nilE) : Int) := by unfold cntE; rw [if_pos hgood]
              rw [e1] at HC
              have HZ2 : Hid (z' + (wtE (t.kids.getD i nilE) : Int) = z + 1 + (wtL (t.kids.take (i + 1)) : Int)) := by
                have := HZ.out
                have h2 := wtL_take hlt
                show _ = _
                rw [h2]
                omega
              have HA2 : Hid (∀ k ∈ t.kids.take (i + 1), wellE k = true) := fun k hk => by
                rw [List.take_succ_eq_append_getElem hlt, List.mem_append] at hk
                rcases hk with hk | hk
                · exact HA.out k hk
                · have : k = t.kids.getD i nilE := by simp [List.getD, hlt] at hk ⊢; exact hk
                  rw [this]
                  exact hgood.1
              have hpos : ¬ z' + (wtE (t.kids.getD i nilE) : Int) < 0 := by omega
              have hle := hgood.2
              clear hgood e1 hC HKid HA HZ
              generalize (wtE (t.kids.getD i nilE) : Int) = wk at *
              generalize t.kids.length = nk at *
              go_wp2_with (go_at_call 26; refine HC.out.mono ?_; rintro e w' ⟨rfl, hw⟩; obtain rfl := hw.symm; clear hw)
              go_round
              case rel => exact ⟨i + 1, z' + wk, rfl, by go_num, by omega, hle, HZ2, HA2⟩
              case measure => simp [intOf]; omega
            · have e1 : cntE (t.kids.getD i nilE) z' = -1 := by unfold cntE; rw [if_neg hgood]
              rw [e1] at HC
              have HV : Hid (cntE t z = -1) := by
                show _ = _
                unfold cntE
                rw [if_neg]
                rintro ⟨q1, q2⟩
                have hwk := HW.out.1 q1 _ (getD_mem hlt)
                have h3 := wtL_upto hlt
                have h4 := HWt.out
                have h5 := HZ.out
                exact hgood ⟨hwk, by omega⟩
              clear hgood e1 hC HKid HA HZ
              generalize t.kids.length = nk at *
              go_wp2_with (go_at_call 26; refine HC.out.mono ?_; rintro e w' ⟨rfl, hw⟩; obtain rfl := hw.symm; clear hw)
              go_ret
              exact ⟨by rw [HV.out]; rfl, rfl⟩
          · obtain rfl : i = t.kids.length := by omega
            have HV : Hid (cntE t z = z') := by
              have h4 := HWt.out
              have h5 := HZ.out
              have h6 := HA.out
              rw [List.take_of_length_le (Nat.le_refl _)] at h5 h6
              show _ = _
              unfold cntE
              rw [if_pos ⟨HW.out.2 h6, by omega⟩]
              omega
            have hltI : ¬ (t.kids.length : Int) < (t.kids.length : Int) := by omega
            clear HKid HA HZ
            generalize t.kids.length = nk at *
            go_wp2
            go_ret
            exact ⟨by rw [HV.out]; rfl, rfl⟩

/-- valid -/
def okX (t : Ex) : Bool := wellE t && decide (wtE t ≤ 200)
set_option maxHeartbeats 2000000 in
theorem rexprok_any {ok : Nat → Prop} {w : World} {v : Value} {t : Ex} (h : Expr ok w v t) (hT : TxA t) : Calls Tryz.prog 8 #[v] w fun e w' => e = .returned (.bool (okX t)) ∧ w' = w := by
  obtain ⟨n, hn⟩ := h
  have HC : Hid (Calls Tryz.prog 26 #[v, .int .i64 0] w fun e w' => e = .returned (.int .i64 (cntE t 0)) ∧ w' = w) := rcount_any n 0 hn hT (by omega) (by omega)
  have HV : Hid (decide (cntE t 0 > 0) = okX t) := by
    show _ = _
    have hp := wtE_pos t
    unfold okX cntE
    by_cases h1 : wellE t = true
    · by_cases h2 : wtE t ≤ 200
      · rw [if_pos ⟨h1, by omega⟩, h1, decide_eq_true h2, decide_eq_true (by omega)]
        rfl
      · rw [if_neg (fun h => h2 (by omega)), decide_eq_false h2, Bool.and_false]
        rfl
    · rw [if_neg (fun h => h1 h.1)]
      have : wellE t = false := by simpa using h1
      rw [this]
      rfl
  generalize cntE t 0 = cz at *
  clear hn hT
  cases hd : decide (cz > 0)
  all_goals
    rw [hd] at HV
    go_enter Tryz.func8, Tryz.ntmps8
    go_wp2_with (go_at_call 26; refine HC.out.mono ?_; rintro e w' ⟨rfl, hw⟩; obtain rfl := hw.symm; clear hw)
    go_ret
    exact ⟨by rw [← HV.out]; rfl, rfl⟩

end Go.Proofs.YthbglakncijahaaGreatDoor

namespace Go.Proofs.YthbglakncijahaaGreatDoor
open Go.RowKit
set_option linter.unusedVariables false
set_option maxRecDepth 100000

theorem whole_valid (s : ByteArray) : ∀ (f pos : Nat), s.size ≤ pos + f → wholeFrom s f pos = Lib.validD (s.data.toList.drop pos)
  | 0, pos, h => by
    have hsz : s.data.toList.length = s.size := by rw [Array.length_toList]; rfl
    rw [List.drop_eq_nil_of_le (by omega)]
    rfl
  | f + 1, pos, h => by
    have hsz : s.data.toList.length = s.size := by rw [Array.length_toList]; rfl
    by_cases hp : pos < s.size
    · have hne : s.data.toList.drop pos ≠ [] := fun e => by
        have := congrArg List.length e
        simp at this
        have h2 : s.data.size = s.size := rfl
        omega
      have hw := dec_width s pos
      rw [wholeFrom_step s f pos hp, Lib.validD_step _ hne, Lib.decodeL_drop, List.drop_drop]
      by_cases hb : (Utf8.decode s pos).1 = 65533 ∧ (Utf8.decode s pos).2 = 1
      · rw [if_pos hb]
        unfold okAt
        rw [hb.1, hb.2]
        rfl
      · rw [if_neg hb, ← whole_valid s f _ (by omega)]
        have : okAt s pos = true := by
          unfold okAt
          cases h1 : ((Utf8.decode s pos).1 == 65533 && (Utf8.decode s pos).2 == 1) with
          | false => rfl
          | true =>
            simp only [Bool.and_eq_true, beq_iff_eq] at h1
            exact absurd h1 hb
        rw [this, Bool.true_and]
    · rw [wholeFrom_end s _ pos hp, List.drop_eq_nil_of_le (by omega)]
      rfl
theorem whole_validD (s : ByteArray) : whole s = Lib.validD s.data.toList := by
  have := whole_valid s s.size 0 (by omega)
  simpa [whole] using this

end Go.Proofs.YthbglakncijahaaGreatDoor
