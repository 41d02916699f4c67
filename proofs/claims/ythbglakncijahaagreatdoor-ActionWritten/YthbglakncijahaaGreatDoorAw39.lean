/- Texts of the proof, put together: PRowB, PRowC. -/
import Derived.Test.YthbglakncijahaaGreatDoorAw38
namespace Go.Proofs.YthbglakncijahaaGreatDoor
open Go.RowKit
set_option linter.unusedVariables false
set_option maxRecDepth 100000

theorem KiC.one {w : World} {a : Option Addr} {ks : List Ex} (h : KiC w a ks) {i : Nat} (hi : i < ks.length) : ∃ g off u, a = some ⟨g, off, none⟩ ∧ g < w.heap.size ∧ w.cell? ⟨g, off + i, none⟩ = some u ∧ ∀ w1, Below w.heap.size w w1 → ∀ lv : Nat, lv ≤ 5 → Calls Tryz.prog 28 #[u, .int .i64 (lv : Int)] w1 fun e w' => e = .returned (.string (baLw (wrU (ks.getD i nilE) lv))) ∧ Below w1.heap.size w1 w' := by
  obtain ⟨g, off, u, rfl, hg, hc, _⟩ := h i hi w (Below.refl _ _)
  refine ⟨g, off, u, rfl, hg, hc, fun w1 hb lv hlv => ?_⟩
  obtain ⟨g2, off2, u2, e2, hg2, hc2, hC⟩ := h i hi w1 hb
  simp only [Option.some.injEq, Addr.mk.injEq, and_true] at e2
  obtain ⟨rfl, rfl⟩ := e2
  have := hb.cell (p := ⟨g, off + i, none⟩) hg
  rw [hc2, hc] at this
  simp only [Option.some.injEq] at this
  subst this
  exact hC lv hlv
set_option maxHeartbeats 8000000 in
theorem arow_any {w : World} {a : Option Addr} {c : Nat} {ks : List Ex} (hK : KiC w a ks) (hl : (rowU (ks.map wrU)).length ≤ 400000) (hn : ks.length ≤ 1000) :
    Calls Tryz.prog 102 #[.slice a ks.length c] w fun e w' => e = .returned (.string (baLw (rowU (ks.map wrU)))) ∧ Below w.heap.size w w' := by
  obtain ⟨i1, hj0, hj1, hj2, hj3⟩ := info_parts Tryz.infoString
  have HK : Hid (KiC w a ks) := hK
  have HL : Hid ((rowU (ks.map wrU)).length ≤ 400000) := hl
  clear hK hl
  go_enter Tryz.func102, Tryz.ntmps102
  go_wp2
  go_loopw [3, 4, 5, 8] (fun pv _ _ iv wr => ∃ i : Nat, i ≤ ks.length ∧ iv = .int .i64 i ∧ Hid (PrI w wr pv (prtN (ks.take i)))) (fun _ _ _ iv _ => ks.length - (intOf iv).toNat)
  case atStart => exact ⟨0, by omega, rfl, ⟨Below.refl _ _, ⟨rfl, .inl ⟨rfl, rfl⟩⟩⟩⟩
  case round =>
    obtain ⟨i, hi, rfl, HP⟩ := hrel
    obtain ⟨pa, pc, rfl⟩ := HP.out.slice
    by_cases hlt : i < ks.length
    · obtain ⟨g, off, u, rfl, hg, cu0, hC⟩ := HK.out.one hlt
      have hsz := HP.out.bel.size
      have hgr : g < wr.heap.size := by omega
      have cu : wr.cell? ⟨g, off + i, none⟩ = some u := cell_later HP.out.bel cu0
      have htk : ks.take (i + 1) = ks.take i ++ [ks.getD i nilE] := by rw [List.take_succ_eq_append_getElem hlt]; simp [List.getD, hlt]
      have hpl := prtN_len (ks.take i)
      have hltI : (i : Int) < (ks.length : Int) := by omega
      have hpl2 : (prtN (ks.take i)).length ≤ 2000 := by simp at hpl; omega
      have HC : Hid (∀ w1, Below w.heap.size w w1 → Calls Tryz.prog 28 #[u, .int .i64 0] w1 fun e w' => e = .returned (.string (baLw (wrU (ks.getD i nilE) 0))) ∧ Below w1.heap.size w1 w') := fun w1 hb => hC w1 hb 0 (by omega)
      obtain ⟨pl, hE⟩ : ∃ pl, prtN (ks.take i) = pl := ⟨_, rfl⟩
      obtain ⟨tx, hT⟩ : ∃ tx, baLw (wrU (ks.getD i nilE) 0) = tx := ⟨_, rfl⟩
      have HT : Hid (∀ w9 pv, PrI w w9 pv (if i = 0 then pl ++ [tx] else pl ++ [⟨#[44, 32]⟩] ++ [tx]) → PrI w w9 pv (prtN (ks.take (i + 1)))) := by
        intro w9 pv h
        rw [htk]
        by_cases h0 : i = 0
        · subst h0
          rw [if_pos rfl] at h
          rw [← hE, ← hT] at h
          simpa [prtN] using h
        · rw [if_neg h0] at h
          rw [prtN_snoc (by intro e; have := congrArg List.length e; rw [List.length_take, List.length_nil] at this; omega), hE, hT]
          exact h
      rw [hE] at HP hpl2 ⊢
      rw [hT] at HC
      clear hC htk hpl HK HL hE hT cu0
      by_cases h0 : i = 0
      · have h0I : ¬ 0 < i := by omega
        have cu2 : wr.cell? ⟨g, off, none⟩ = some u := by rw [h0, Nat.add_zero] at cu; exact cu
        have HC1 : Hid (Calls Tryz.prog 28 #[u, .int .i64 0] wr fun e w' => e = .returned (.string tx) ∧ PrI w w' (.slice pa pl.length pc) pl) := by
          refine (HC.out wr HP.out.bel).mono ?_
          rintro e w2 ⟨q1, q2⟩
          exact ⟨q1, HP.out.kept q2⟩
        clear HC HP
        go_wp2_with fail
        go_at_call 28
        refine HC1.out.mono ?_
        rintro e w2 ⟨rfl, hP2⟩
        have HP : Hid (PrI w w2 (.slice pa pl.length pc) pl) := hP2
        have hs2 := hP2.bel.size
        clear hP2 HC1
        go_wp2_with (at_builtin; refine wpList_append_lies _ rfl _ _ 170 rfl w.heap.size 9 i1 (.string ⟨#[]⟩) 1 16 Tryz.underlying170 hj0 hj1 hj2 hj3 rfl (by decide) (.slice pa pl.length pc) pl.length (pl.map Value.string) rfl (World.ownsRow.alloc HP.out.own _) ⟨w2.heap.size, 0, none⟩ 1 1 [.string tx] rfl rfl (cell_one_new w2 _ _) (by intro x hx; simp at hx; subst hx; rfl) (by omega) (by unfold maxLen; omega) (by omega) (by simp; omega) (w2.heap.size + 1) (by simp) ?_)
        intro g9 cap9 w9 hown9 hg9 hat9 hlt9
        have HQ : Hid (PrI w w9 (.slice (some ⟨g9, 0, none⟩) (pl.length + 1) cap9) (prtN (ks.take (i + 1)))) := HT.out _ _ (by rw [if_pos h0]; exact HP.out.step hown9 hg9)
        clear hown9 hg9 hat9 hlt9 HP HT
        go_wp2_with fail
        refine ⟨⟨i + 1, by omega, by simp; omega, HQ⟩, ?_⟩
        simp only [intOf]; omega
      · have h0I : 0 < i := by omega
        go_wp2_with (at_builtin; refine wpList_append_lies _ rfl _ _ 170 rfl w.heap.size 9 i1 (.string ⟨#[]⟩) 1 16 Tryz.underlying170 hj0 hj1 hj2 hj3 rfl (by decide) (.slice pa pl.length pc) pl.length (pl.map Value.string) rfl (World.ownsRow.alloc HP.out.own _) ⟨wr.heap.size, 0, none⟩ 1 1 [.string ⟨#[44, 32]⟩] rfl rfl (cell_one_new wr _ _) (by intro x hx; simp at hx; subst hx; rfl) (by omega) (by unfold maxLen; omega) (by omega) (by simp; omega) (wr.heap.size + 1) (by simp) ?_)
        intro g9 cap9 w9 hown9 hg9 hat9 hlt9
        have hP3 : PrI w w9 (.slice (some ⟨g9, 0, none⟩) (pl.length + 1) cap9) (pl ++ [⟨#[44, 32]⟩]) := HP.out.step hown9 hg9
        obtain ⟨p3, hp3⟩ : ∃ p3, pl ++ [(⟨#[44, 32]⟩ : ByteArray)] = p3 := ⟨_, rfl⟩
        have hp3l : pl.length + 1 = p3.length := by rw [← hp3]; simp
        have hp3m : p3.length ≤ 2001 := by omega
        rw [hp3, hp3l] at hP3
        rw [hp3l]
        have HC1 : Hid (Calls Tryz.prog 28 #[u, .int .i64 0] w9 fun e w' => e = .returned (.string tx) ∧ PrI w w' (.slice (some ⟨g9, 0, none⟩) p3.length cap9) p3) := by
          refine (HC.out w9 hP3.bel).mono ?_
          rintro e w2 ⟨q1, q2⟩
          exact ⟨q1, hP3.kept q2⟩
        clear HC HP hP3 hown9 hg9 hat9 hlt9
        go_wp2_with fail
        go_at_call 28
        refine HC1.out.mono ?_
        rintro e w2 ⟨rfl, hP2⟩
        have HP : Hid (PrI w w2 (.slice (some ⟨g9, 0, none⟩) p3.length cap9) p3) := hP2
        have hs2 := hP2.bel.size
        clear hP2 HC1
        go_wp2_with (at_builtin; refine wpList_append_lies _ rfl _ _ 170 rfl w.heap.size 9 i1 (.string ⟨#[]⟩) 1 16 Tryz.underlying170 hj0 hj1 hj2 hj3 rfl (by decide) (.slice (some ⟨g9, 0, none⟩) p3.length cap9) p3.length (p3.map Value.string) rfl (World.ownsRow.alloc HP.out.own _) ⟨w2.heap.size, 0, none⟩ 1 1 [.string tx] rfl rfl (cell_one_new w2 _ _) (by intro x hx; simp at hx; subst hx; rfl) (by omega) (by unfold maxLen; omega) (by omega) (by simp; omega) (w2.heap.size + 1) (by simp) ?_)
        intro g8 cap8 w8 hown9 hg9 hat9 hlt9
        have HQ : Hid (PrI w w8 (.slice (some ⟨g8, 0, none⟩) (p3.length + 1) cap8) (prtN (ks.take (i + 1)))) := HT.out _ _ (by rw [if_neg h0, hp3]; exact HP.out.step hown9 hg9)
        clear hown9 hg9 hat9 hlt9 HP HT
        go_wp2_with fail
        refine ⟨⟨i + 1, by omega, by simp, HQ⟩, ?_⟩
        simp only [intOf]; omega
    · obtain rfl : i = ks.length := by omega
      have hltI : ¬ (ks.length : Int) < (ks.length : Int) := by omega
      obtain ⟨pl, hE⟩ : ∃ pl, prtN (ks.take ks.length) = pl := ⟨_, rfl⟩
      rw [hE] at HP ⊢
      rw [List.take_of_length_le (Nat.le_refl _)] at hE
      have hP := HP.out
      have hpl := prtN_len ks
      have hf := flat_prtN ks
      rw [hE] at hpl hf
      obtain ⟨res, hR⟩ : ∃ res, rowU (ks.map wrU) = res := ⟨_, rfl⟩
      rw [hR] at hf
      have hl2 : res.length ≤ 400000 := by have := HL.out; rw [hR] at this; exact this
      have HJ : Hid (Calls Tryz.prog 51 #[.slice pa pl.length pc] wr fun e w' => e = .returned (.string (baLw res)) ∧ Below w.heap.size w w') := by
        have := joined_any hP.strs (by unfold sumU; rw [hf]; omega) (by omega)
        rw [hf] at this
        refine Calls.mono this ?_
        rintro e w' ⟨q1, q2⟩
        exact ⟨q1, hP.bel.trans (q2.mono hP.bel.size)⟩
      clear hP HP HK hf hE
      go_wp2_with fail
      go_at_call 51
      refine HJ.out.mono ?_
      rintro e w2 ⟨rfl, hb2⟩
      go_wp2
      go_ret
      exact ⟨by rw [hR]; rfl, hb2⟩

end Go.Proofs.YthbglakncijahaaGreatDoor

namespace Go.Proofs.YthbglakncijahaaGreatDoor
open Go.RowKit
set_option linter.unusedVariables false
set_option maxRecDepth 100000

theorem KiC.later {w W : World} {a : Option Addr} {ks : List Ex} (h : KiC w a ks) (hW : Below w.heap.size w W) : KiC W a ks := fun i hi w1 hb => h i hi w1 (hW.trans (hb.mono hW.size))
set_option maxHeartbeats 4000000 in
theorem bare_list {w : World} {b c : Nat} {num : Int} {text : ByteArray} {a : Option Addr} {ks : List Ex} (h : ExM w b 9 num text a ks.length c) (hK : KiC w a ks) (hl : (rowU (ks.map wrU)).length ≤ 400000) (ht : text.size ≤ 400000) (hn : ks.length ≤ 1000) : Calls Tryz.prog 52 #[.pointer (some ⟨b, 0, none⟩)] w fun e w' => e = .returned (.string (baLw (91 :: (rowU (ks.map wrU) ++ [93])))) ∧ Below w.heap.size w w' := by
  have HF : Hid (Calls Tryz.prog 102 #[.slice a ks.length c] w fun e w' => e = .returned (.string (baLw (rowU (ks.map wrU)))) ∧ Below w.heap.size w w') := arow_any hK hl hn
  have HF2 : Hid (∀ W, Below w.heap.size w W → Calls Tryz.prog 102 #[.slice a ks.length c] W fun e w' => e = .returned (.string (baLw (rowU (ks.map wrU)))) ∧ Below w.heap.size w w') := fun W hW => (arow_any (hK.later hW) hl hn).mono (by rintro e w' ⟨q1, q2⟩; exact ⟨q1, hW.trans (q2.mono hW.size)⟩)
  have htl : text.data.toList.length = text.size := by rw [Array.length_toList]; rfl
  have HJ : Hid (∀ w1, Below w.heap.size w w1 → Calls Tryz.prog 51 #[.slice (some ⟨w1.heap.size, 0, none⟩) 3 3] (w1.alloc (.cells #[.string ⟨#[91]⟩, .string (baLw (rowU (ks.map wrU))), .string ⟨#[93]⟩] 9)) fun e w' => e = .returned (.string (baLw (91 :: (rowU (ks.map wrU) ++ [93])))) ∧ Below w.heap.size w w') := fun w1 hb => by
    have hf : flatU [⟨#[91]⟩, baLw (rowU (ks.map wrU)), ⟨#[93]⟩] = 91 :: (rowU (ks.map wrU) ++ [93]) := by simp [flatU, baLw]
    have := joined_new (w := w1) [⟨#[91]⟩, baLw (rowU (ks.map wrU)), ⟨#[93]⟩] (by unfold sumU; rw [hf]; simp only [List.length_append, List.length_cons, List.length_nil]; omega) (by simp)
    rw [hf] at this
    refine Calls.mono this ?_
    rintro e w' ⟨q1, q2⟩
    exact ⟨q1, hb.trans (q2.mono hb.size)⟩
  obtain ⟨hlt, c0, c1, c2, c3⟩ := h
  obtain ⟨res, hR⟩ : ∃ res, 91 :: (rowU (ks.map wrU) ++ [93]) = res := ⟨_, rfl⟩
  obtain ⟨tx, hT⟩ : ∃ tx, baLw (rowU (ks.map wrU)) = tx := ⟨_, rfl⟩
  rw [hT] at HF HF2
  rw [hR, hT] at HJ
  rw [hR]
  generalize ks.length = n at *
  clear hK hl hR hT
  go_enter Tryz.func52, Tryz.ntmps52
  go_wp2_with fail
  go_at_call 102
  refine HF.out.mono ?_
  rintro e w1 ⟨rfl, hb⟩
  have HJ1 : Hid (Calls Tryz.prog 51 #[.slice (some ⟨w1.heap.size, 0, none⟩) 3 3] (w1.alloc (.cells #[.string ⟨#[91]⟩, .string tx, .string ⟨#[93]⟩] 9)) fun e w' => e = .returned (.string (baLw res)) ∧ Below w.heap.size w w') := HJ.out w1 hb
  have c2' : w1.cell? ⟨b, 2, none⟩ = some (.string text) := cell_later hb c2
  clear HJ HF
  go_wp2_with fail
  go_at_call 51
  refine HJ1.out.mono ?_
  rintro e w2 ⟨rfl, hb2⟩
  go_wp2
  go_ret
  exact ⟨rfl, hb2⟩
set_option maxHeartbeats 4000000 in
theorem bare_call {w : World} {b c : Nat} {num : Int} {text : ByteArray} {a : Option Addr} {ks : List Ex} (h : ExM w b 10 num text a ks.length c) (hK : KiC w a ks) (hl : (rowU (ks.map wrU)).length ≤ 400000) (ht : text.size ≤ 400000) (hn : ks.length ≤ 1000) : Calls Tryz.prog 52 #[.pointer (some ⟨b, 0, none⟩)] w fun e w' => e = .returned (.string (baLw (text.data.toList ++ (40 :: (rowU (ks.map wrU) ++ [41]))))) ∧ Below w.heap.size w w' := by
  have HF : Hid (Calls Tryz.prog 102 #[.slice a ks.length c] w fun e w' => e = .returned (.string (baLw (rowU (ks.map wrU)))) ∧ Below w.heap.size w w') := arow_any hK hl hn
  have HF2 : Hid (∀ W, Below w.heap.size w W → Calls Tryz.prog 102 #[.slice a ks.length c] W fun e w' => e = .returned (.string (baLw (rowU (ks.map wrU)))) ∧ Below w.heap.size w w') := fun W hW => (arow_any (hK.later hW) hl hn).mono (by rintro e w' ⟨q1, q2⟩; exact ⟨q1, hW.trans (q2.mono hW.size)⟩)
  have htl : text.data.toList.length = text.size := by rw [Array.length_toList]; rfl
  have HJ : Hid (∀ w1, Below w.heap.size w w1 → Calls Tryz.prog 51 #[.slice (some ⟨w1.heap.size, 0, none⟩) 4 4] (w1.alloc (.cells #[.string text, .string ⟨#[40]⟩, .string (baLw (rowU (ks.map wrU))), .string ⟨#[41]⟩] 9)) fun e w' => e = .returned (.string (baLw (text.data.toList ++ (40 :: (rowU (ks.map wrU) ++ [41]))))) ∧ Below w.heap.size w w') := fun w1 hb => by
    have hf : flatU [text, ⟨#[40]⟩, baLw (rowU (ks.map wrU)), ⟨#[41]⟩] = text.data.toList ++ (40 :: (rowU (ks.map wrU) ++ [41])) := by simp [flatU, baLw]
    have := joined_new (w := w1) [text, ⟨#[40]⟩, baLw (rowU (ks.map wrU)), ⟨#[41]⟩] (by unfold sumU; rw [hf]; simp only [List.length_append, List.length_cons, List.length_nil]; omega) (by simp)
    rw [hf] at this
    refine Calls.mono this ?_
    rintro e w' ⟨q1, q2⟩
    exact ⟨q1, hb.trans (q2.mono hb.size)⟩
  obtain ⟨hlt, c0, c1, c2, c3⟩ := h
  obtain ⟨res, hR⟩ : ∃ res, text.data.toList ++ (40 :: (rowU (ks.map wrU) ++ [41])) = res := ⟨_, rfl⟩
  obtain ⟨tx, hT⟩ : ∃ tx, baLw (rowU (ks.map wrU)) = tx := ⟨_, rfl⟩
  rw [hT] at HF HF2
  rw [hR, hT] at HJ
  rw [hR]
  generalize ks.length = n at *
  clear hK hl hR hT
  go_enter Tryz.func52, Tryz.ntmps52
  go_wp2_with fail
  go_region_held3 (fun w' => w'.cell? ⟨b, 2, none⟩ = some (.string text) ∧ w'.cell? ⟨b, 3, none⟩ = some (.slice a n c)) (go_keep) ((first | (go_at_call 102; refine (HF2.out _ (Below.refl _ _).drew).mono ?_; rintro e w1 ⟨rfl, hb⟩; have f2 := cell_later hb c2; have f3 := cell_later hb c3; have fs := hb.size; have fl : b < w1.heap.size := by omega) | (go_at_call 51; refine (HJ.out _ (by first | exact hb | exact hb.drew | exact hb.drew.drew)).mono ?_; rintro e w2 ⟨rfl, hb2⟩; have g2 := cell_later hb2 c2; have g3 := cell_later hb2 c3)))
  all_goals
    go_wp2
    go_ret
    exact ⟨rfl, hb2⟩

end Go.Proofs.YthbglakncijahaaGreatDoor
