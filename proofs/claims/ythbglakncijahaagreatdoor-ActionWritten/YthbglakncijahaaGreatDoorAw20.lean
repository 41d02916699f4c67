/- Texts of the proof, put together: PRoom. -/
import Derived.Test.YthbglakncijahaaGreatDoorAw19
namespace Go.Proofs.YthbglakncijahaaGreatDoor
open Go.RowKit
set_option linter.unusedVariables false
set_option maxRecDepth 100000

/-- ValidString says whether a text is whole, in every world behind one -/
def VdC (w0 : World) : Prop := ∀ w1, Below w0.heap.size w0 w1 → ∀ text : ByteArray, text.size ≤ 140737488351232 → Calls Tryz.prog 92 #[.string text] w1 fun e w' => e = .returned (.bool (whole text)) ∧ Below w1.heap.size w1 w'
theorem VdC.below {w0 w1 : World} (h : VdC w0) (hb : Below w0.heap.size w0 w1) : VdC w1 := fun w2 hb2 => h w2 (hb.trans (hb2.mono hb.size))
/-- how many may still stand behind it -/
def rmE (t : Ex) (z : Int) : Int := if wellE t = true ∧ (wtE t : Int) ≤ z then z - (wtE t : Int) else -1
theorem rmE_not {t : Ex} {z : Int} (h : wellE t = false) : rmE t z = -1 := by unfold rmE; rw [if_neg (by rw [h]; simp)]

set_option maxHeartbeats 8000000 in
theorem aroom_any {ok : Nat → Prop} : ∀ (n : Nat) {w : World} {v : Value} {t : Ex} (z : Int), VdC w → IsEx ok n w v t → TxA t → 0 ≤ z → z ≤ 200 →
    Calls Tryz.prog 27 #[v, .int .i64 z] w fun e w' => e = .returned (.int .i64 (rmE t z)) ∧ Below w.heap.size w w'
  | 0, w, v, t, z, _, h, _, _, _ => h.elim
  | n + 1, w, v, t, z, _, .inl ⟨h1, h2⟩, _, _, _ => by
    subst h2
    have HV : Hid (rmE t z = -1) := by rw [h1]; exact rmE_not (by rw [wellE_eq]; rfl)
    go_enter Tryz.func27, Tryz.ntmps27
    go_wp2
    go_ret
    exact ⟨by rw [HV.out]; rfl, Below.refl _ _⟩
  | n + 1, w, v, t, z, hVd, .inr ⟨hi, b, kv, h1, h2, h3, h5⟩, hT, hz0, hz2 => by
    subst h1
    obtain ⟨ka, kc, rfl⟩ := h5.slice
    have c0 : w.cell? ⟨b, 0, none⟩ = some (.int .i64 t.kind) := cellsAtA h3 0 _ rfl
    have c1 : w.cell? ⟨b, 1, none⟩ = some (.int .i64 t.num) := cellsAtA h3 1 _ rfl
    have c2 : w.cell? ⟨b, 2, none⟩ = some (.string t.text) := cellsAtA h3 2 _ rfl
    have c3 : w.cell? ⟨b, 3, none⟩ = some (.slice ka t.kids.length kc) := cellsAtA h3 3 _ rfl
    have hbw : b < w.heap.size := (Array.getElem?_eq_some_iff.1 h3).1
    have HS : Hid (Calls Tryz.prog 49 #[.pointer (some ⟨b, 0, none⟩)] w fun e w' => e = .returned (.bool (shapeB t.kind t.num t.text t.kids.length)) ∧ Below w.heap.size w w') := awell_any hT.size.1 (hVd w (Below.refl _ _) t.text hT.size.1) c0 c1 c2 c3
    have hkl := hT.size.2
    by_cases hz : z = 0
    · have HV : Hid (rmE t z = -1) := by show _ = _; unfold rmE; rw [if_neg]; intro h; have := wtE_pos t; omega
      subst hz
      clear h3 h5 hT HS c0 c1 c2 c3
      go_enter Tryz.func27, Tryz.ntmps27
      go_wp2
      go_ret
      exact ⟨by rw [HV.out]; rfl, Below.refl _ _⟩
    · have hz3 : (z == 0) = false := by rw [beq_eq_false_iff_ne]; exact hz
      cases hsh : shapeB t.kind t.num t.text t.kids.length
      · rw [hsh] at HS
        have HV : Hid (rmE t z = -1) := rmE_not (by rw [wellE_eq, hsh, Bool.and_false]; rfl)
        clear h3 h5 hT c0 c1 c2 c3
        go_enter Tryz.func27, Tryz.ntmps27
        go_wp2_with (go_at_call 49; refine HS.out.mono ?_; rintro e w9 ⟨rfl, hb9⟩)
        go_ret
        exact ⟨by rw [HV.out]; rfl, hb9⟩
      · rw [hsh] at HS
        have HKid : Hid (∀ i, i < t.kids.length → ∀ w1, Below w.heap.size w w1 → ∀ z', 0 ≤ z' → z' ≤ 200 → ∃ g off u, ka = some ⟨g, off, none⟩ ∧ g < w1.heap.size ∧ w1.cell? ⟨g, off + i, none⟩ = some u ∧ Calls Tryz.prog 27 #[u, .int .i64 z'] w1 fun e w' => e = .returned (.int .i64 (rmE (t.kids.getD i nilE) z')) ∧ Below w.heap.size w w') := fun i hik w1 hb1 z' h0 h2' => by
          obtain ⟨g, off, u, e1, e2, e3, e4⟩ := h5.at hik
          refine ⟨g, off, u, e1, Nat.lt_of_lt_of_le e2 hb1.size, (hb1.cell (p := ⟨g, off + i, none⟩) e2).trans e3, (aroom_any n z' (hVd.below hb1) (e4.below hb1) (hT.kid (getD_mem hik)) h0 h2').mono ?_⟩
          rintro e w' ⟨q1, q2⟩
          exact ⟨q1, hb1.trans (q2.mono hb1.size)⟩
        have HW : Hid (wellE t = true ↔ ∀ k ∈ t.kids, wellE k = true) := ⟨fun h k hk => wellE_kid h hk, fun h => wellE_of hi hsh h⟩
        have HWt : Hid (wtE t = 1 + wtL t.kids) := wtE_eq t
        have hw1 : IntKind.i64.wrap (z - 1) = z - 1 := by rw [IntKind.wrap_i64]; omega
        clear h3 h5 hT hsh hVd
        go_enter Tryz.func27, Tryz.ntmps27
        go_wp2_with fail
        go_at_call 49
        refine HS.out.mono ?_
        rintro e w1 ⟨rfl, hb1⟩
        have d3 := (hb1.cell (p := ⟨b, 3, none⟩) hbw).trans c3
        clear HS c0 c1 c2 c3
        go_wp2
        go_loopw [1, 6, 25] (fun zv _ iv wr => ∃ (i : Nat) (z' : Int), zv = .int .i64 z' ∧ iv = .int .i64 i ∧ i ≤ t.kids.length ∧ 0 ≤ z' ∧ Hid (Below w.heap.size w wr) ∧ Hid (z' = z - 1 - (wtL (t.kids.take i) : Int)) ∧ Hid (∀ k ∈ t.kids.take i, wellE k = true)) (fun _ _ iv _ => t.kids.length - (intOf iv).toNat)
        case atStart => exact ⟨0, z - 1, rfl, rfl, by omega, by omega, hb1, by show _ = _; simp [wtL], fun k hk => by simp at hk⟩
        case round =>
          obtain ⟨i, z', rfl, rfl, hil, hz4, HB, HZ, HA⟩ := hrel
          have hz5 : z' ≤ 200 := by have := HZ.out; omega
          by_cases hlt : i < t.kids.length
          · obtain ⟨g, off, u, rfl, hg, cu, hC⟩ := HKid.out i hlt wr HB.out z' hz4 hz5
            have HC : Hid (Calls Tryz.prog 27 #[u, .int .i64 z'] wr fun e w' => e = .returned (.int .i64 (rmE (t.kids.getD i nilE) z')) ∧ Below w.heap.size w w') := hC
            have hltI : (i : Int) < (t.kids.length : Int) := by omega
            by_cases hgood : wellE (t.kids.getD i nilE) = true ∧ (wtE (t.kids.getD i nilE) : Int) ≤ z'
            · have e1 : rmE (t.kids.getD i nilE) z' = z' - (wtE (t.kids.getD i nilE) : Int) := by unfold rmE; rw [if_pos hgood]
              rw [e1] at HC
              have HZ2 : Hid (z' - (wtE (t.kids.getD i nilE) : Int) = z - 1 - (wtL (t.kids.take (i + 1)) : Int)) := by
                have := HZ.out
                have h2 := wtL_take hlt
                show _ = _
                rw [h2]
                omega
              have HA2 : Hid (∀ k ∈ t.kids.take (i + 1), wellE k = true) := fun k hk => by
                rw [List.take_succ_eq_append_getElem hlt, List.mem_append] at hk
                rcases hk with hk | hk
                · exact HA.out k hk
                · have : k = t.kids.getD i nilE := by simp [List.getD, hlt] at hk ⊢; exact hk
                  rw [this]
                  exact hgood.1
              have hpos : ¬ z' - (wtE (t.kids.getD i nilE) : Int) < 0 := by omega
              have hle := hgood.2
              clear hgood e1 hC HKid HA HZ
              generalize (wtE (t.kids.getD i nilE) : Int) = wk at *
              generalize t.kids.length = nk at *
              go_wp2_with (go_at_call 27; refine HC.out.mono ?_; rintro e w9 ⟨rfl, hb9⟩)
              go_roundw
              case rel => exact ⟨i + 1, z' - wk, rfl, by go_num, by omega, by omega, hb9, HZ2, HA2⟩
              case measure => simp [intOf]; omega
            · have e1 : rmE (t.kids.getD i nilE) z' = -1 := by unfold rmE; rw [if_neg hgood]
              rw [e1] at HC
              have HV : Hid (rmE t z = -1) := by
                show _ = _
                unfold rmE
                rw [if_neg]
                rintro ⟨q1, q2⟩
                have hwk := HW.out.1 q1 _ (getD_mem hlt)
                have h3 := wtL_upto hlt
                have h4 := HWt.out
                have h5 := HZ.out
                exact hgood ⟨hwk, by omega⟩
              clear hgood e1 hC HKid HA HZ
              generalize t.kids.length = nk at *
              go_wp2_with (go_at_call 27; refine HC.out.mono ?_; rintro e w9 ⟨rfl, hb9⟩)
              go_ret
              exact ⟨by rw [HV.out]; rfl, hb9⟩
          · obtain rfl : i = t.kids.length := by omega
            have HV : Hid (rmE t z = z') := by
              have h4 := HWt.out
              have h5 := HZ.out
              have h6 := HA.out
              rw [List.take_of_length_le (Nat.le_refl _)] at h5 h6
              show _ = _
              unfold rmE
              rw [if_pos ⟨HW.out.2 h6, by omega⟩]
              omega
            have hltI : ¬ (t.kids.length : Int) < (t.kids.length : Int) := by omega
            clear HKid HA HZ
            generalize t.kids.length = nk at *
            go_wp2
            go_ret
            exact ⟨by rw [HV.out]; rfl, HB.out⟩

set_option maxHeartbeats 2000000 in
theorem aok_any {ok : Nat → Prop} {w : World} {v : Value} {t : Ex} (hVd : VdC w) (h : Expr ok w v t) (hT : TxA t) : Calls Tryz.prog 9 #[v] w fun e w' => e = .returned (.bool (okX t)) ∧ Below w.heap.size w w' := by
  obtain ⟨n, hn⟩ := h
  have HC : Hid (Calls Tryz.prog 27 #[v, .int .i64 200] w fun e w' => e = .returned (.int .i64 (rmE t 200)) ∧ Below w.heap.size w w') := aroom_any n 200 hVd hn hT (by omega) (by omega)
  have HV : Hid (decide (rmE t 200 ≥ 0) = okX t) := by
    show _ = _
    have hp := wtE_pos t
    unfold okX rmE
    by_cases h1 : wellE t = true
    · by_cases h2 : wtE t ≤ 200
      · rw [if_pos ⟨h1, by omega⟩, h1, decide_eq_true h2, decide_eq_true (by omega)]
        rfl
      · rw [if_neg (fun h => h2 (by omega)), decide_eq_false h2, Bool.and_false]
        rfl
    · rw [if_neg (fun h => h1 h.1)]
      have : wellE t = false := by simpa using h1
      rw [this]
      rfl
  generalize rmE t 200 = cz at *
  clear hn hT hVd
  cases hd : decide (cz ≥ 0)
  all_goals
    rw [hd] at HV
    go_enter Tryz.func9, Tryz.ntmps9
    go_wp2_with (go_at_call 27; refine HC.out.mono ?_; rintro e w9 ⟨rfl, hb9⟩)
    go_ret
    exact ⟨by rw [← HV.out]; rfl, hb9⟩

end Go.Proofs.YthbglakncijahaaGreatDoor
