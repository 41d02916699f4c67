/- Texts of the proof, put together: PWri, PWrt. -/
import Derived.Test.YthbglakncijahaaGreatDoorAw40
import Derived.Test.YthbglakncijahaaGreatDoorAw41
namespace Go.Proofs.YthbglakncijahaaGreatDoor
open Go.RowKit
set_option linter.unusedVariables false
set_option maxRecDepth 100000

theorem rowU_len {ks : List Ex} (hw : ∀ k ∈ ks, wellE k = true) (hN : ∀ k ∈ ks, NmA k) : (rowU (ks.map wrU)).length ≤ 500 * wtL ks :=
  row_len ks fun k hk lv => wr_len k (hw k hk) (hN k hk) lv
/-- the text of a valid expression without brackets around it -/
theorem bare_any {w : World} {b c : Nat} {a : Option Addr} {t : Ex} (L : LibW w) (h : ExM w b t.kind t.num t.text a t.kids.length c) (hK : KiC w a t.kids) (hw : wellE t = true) (hN : NmA t) (hwt : wtE t ≤ 200) : Calls Tryz.prog 52 #[.pointer (some ⟨b, 0, none⟩)] w fun e w' => e = .returned (.string (baLw (barE t))) ∧ Below w.heap.size w w' := by
  obtain ⟨his, hsh⟩ := wellE_is hw
  have hnum := hN.num
  have hkw := fun k hk => wellE_kid (t := t) (k := k) hw hk
  have hkn := fun k hk => hN.kid (k := k) hk
  have hrow := rowU_len hkw hkn
  have hkl : ∀ k ∈ t.kids, ∀ lv, (wrU k lv).length ≤ 100000 := fun k hk lv => by
    have h1 := wr_len k (hkw k hk) (hkn k hk) lv
    have h2 := wtL_mem t.kids k hk
    have h3 := wtE_eq t
    omega
  have h3 := wtE_eq t
  have hlen := wtL_len t.kids
  have htz : ∀ x : ByteArray, x.data.toList.length = x.size := fun x => by rw [Array.length_toList]; rfl
  obtain ⟨i, kind, num, text, kids⟩ := t
  simp only at his hsh h hK hnum hrow hkl h3 hlen
  have htt := htz text
  unfold barE
  simp only
  unfold shapeB at hsh
  by_cases k1 : kind = 1
  · subst k1
    rw [if_pos rfl] at hsh
    exact bare_num L h hnum.1 hnum.2
  rw [if_neg k1] at hsh
  by_cases k3 : kind = 3
  · subst k3
    exact bare_arg L h hnum.1 hnum.2
  rw [if_neg k3] at hsh
  by_cases hz : (num != 0) = true
  · rw [if_pos hz] at hsh; cases hsh
  rw [if_neg hz] at hsh
  by_cases k2 : kind = 2
  · rw [if_pos k2] at hsh
    simp only [Bool.and_eq_true, decide_eq_true_eq, beq_iff_eq] at hsh
    subst k2
    exact bare_text h (by omega)
  rw [if_neg k2] at hsh
  by_cases k4 : kind = 4
  · subst k4
    exact bare_name h
  rw [if_neg k4] at hsh
  by_cases k5 : kind = 5
  · rw [if_pos k5] at hsh
    simp only [Bool.and_eq_true, beq_iff_eq] at hsh
    obtain ⟨x, y, rfl⟩ := two_kids (show kids.length = 2 by omega)
    subst k5
    have h1 := name_len hsh.1
    exact bare_let h hK (by have := hkl x (by simp) 0; omega) (by have := hkl y (by simp) 0; omega) (by omega)
  rw [if_neg k5] at hsh
  by_cases k7 : kind = 7
  · subst k7
    rw [if_pos rfl] at hsh
    simp only [Bool.and_eq_true, decide_eq_true_eq, beq_iff_eq] at hsh
    obtain ⟨x, y, rfl⟩ := two_kids (show kids.length = 2 by omega)
    have h1 := op_len hsh.1
    exact bare_op h hK (fun lv => by have := hkl x (by simp) lv; omega) (fun lv => by have := hkl y (by simp) lv; omega) (by omega) hsh.1
  rw [if_neg k7] at hsh
  by_cases k10 : kind = 10
  · subst k10
    rw [if_pos rfl] at hsh
    simp only [Bool.and_eq_true, decide_eq_true_eq, beq_iff_eq] at hsh
    have h1 := fun_len hsh.1
    exact bare_call h hK (by omega) (by omega) (by omega)
  rw [if_neg k10] at hsh
  by_cases he : (text.toList == []) = false
  · rw [if_pos he] at hsh; cases hsh
  rw [if_neg he] at hsh
  have hts : text.size ≤ 200 := by
    rw [Bool.not_eq_false, beq_iff_eq, Lib.toList_data] at he
    rw [← htt, he]
    simp
  by_cases k6 : kind = 6
  · rw [if_pos k6] at hsh
    rw [beq_iff_eq] at hsh
    obtain ⟨x, y, z, rfl⟩ := three_kids (show kids.length = 3 by omega)
    subst k6
    exact bare_if h hK (by have := hkl x (by simp) 0; omega) (by have := hkl y (by simp) 0; omega) (by have := hkl z (by simp) 0; omega) (by omega)
  rw [if_neg k6] at hsh
  by_cases k8 : kind = 8
  · rw [if_pos k8] at hsh
    rw [beq_iff_eq] at hsh
    obtain ⟨x, rfl⟩ := one_kid (show kids.length = 1 by omega)
    subst k8
    exact bare_neg h hK (by have := hkl x (by simp) 4; omega)
  rw [if_neg k8] at hsh
  rw [beq_iff_eq] at hsh
  subst hsh
  exact bare_list h hK (by omega) (by omega) (by omega)
theorem tight_op {t : Ex} (hw : wellE t = true) (h7 : t.kind = 7) : 0 ≤ lvlL t.text.toList := by
  obtain ⟨his, hsh⟩ := wellE_is hw
  unfold shapeB at hsh
  rw [if_neg (by omega), if_neg (by omega)] at hsh
  by_cases hz : (t.num != 0) = true
  · rw [if_pos hz] at hsh; cases hsh
  rw [if_neg hz, if_neg (by omega), if_neg (by omega), if_neg (by omega), if_pos h7] at hsh
  simp only [Bool.and_eq_true, decide_eq_true_eq] at hsh
  exact hsh.1
set_option maxHeartbeats 8000000 in
theorem written_of {w : World} {b c : Nat} {a : Option Addr} {t : Ex} (lv : Nat) (hlv : lv ≤ 5) (h : ExM w b t.kind t.num t.text a t.kids.length c) (hB : Hid (Calls Tryz.prog 52 #[.pointer (some ⟨b, 0, none⟩)] w fun e w' => e = .returned (.string (baLw (barE t))) ∧ Below w.heap.size w w')) (hl : (barE t).length ≤ 400000) (h7 : t.kind = 7 → 0 ≤ lvlL t.text.toList) : Calls Tryz.prog 28 #[.pointer (some ⟨b, 0, none⟩), .int .i64 (lv : Int)] w fun e w' => e = .returned (.string (baLw (wrU t lv))) ∧ Below w.heap.size w w' := by
  have HT : Hid (Calls Tryz.prog 50 #[.pointer (some ⟨b, 0, none⟩)] w fun e w' => e = .returned (.int .i64 (tigE t : Nat)) ∧ w' = w) := atight_any h.c0 h.c2 h7
  have hW := wrU_eq t lv
  have HJ : Hid (∀ w1, Below w.heap.size w w1 → Calls Tryz.prog 51 #[.slice (some ⟨w1.heap.size, 0, none⟩) 3 3] (w1.alloc (.cells #[.string ⟨#[40]⟩, .string (baLw (barE t)), .string ⟨#[41]⟩] 9)) fun e w' => e = .returned (.string (baLw (40 :: (barE t ++ [41])))) ∧ Below w.heap.size w w') := fun w1 hb => by
    have hf : flatU [⟨#[40]⟩, baLw (barE t), ⟨#[41]⟩] = 40 :: (barE t ++ [41]) := by simp [flatU, baLw]
    have := joined_new (w := w1) [⟨#[40]⟩, baLw (barE t), ⟨#[41]⟩] (by unfold sumU; rw [hf]; simp only [List.length_append, List.length_cons, List.length_nil]; omega) (by simp)
    rw [hf] at this
    refine Calls.mono this ?_
    rintro e w' ⟨q1, q2⟩
    exact ⟨q1, hb.trans (q2.mono hb.size)⟩
  by_cases hlt : tigE t < lv
  · rw [if_pos hlt] at hW
    rw [hW]
    obtain ⟨res, hR⟩ : ∃ res, 40 :: (barE t ++ [41]) = res := ⟨_, rfl⟩
    obtain ⟨tx, hTx⟩ : ∃ tx, baLw (barE t) = tx := ⟨_, rfl⟩
    rw [hR, hTx] at HJ
    rw [hTx] at hB
    rw [hR]
    have hltI : ((tigE t : Nat) : Int) < (lv : Int) := by omega
    generalize tigE t = n at *
    clear hW hR hTx hl h7 h
    go_enter Tryz.func28, Tryz.ntmps28
    go_wp2_with fail
    go_at_call 50
    refine HT.out.mono ?_
    rintro e wq ⟨rfl, hwq⟩
    obtain rfl := hwq.symm
    clear hwq HT
    go_wp2_with fail
    go_at_call 52
    refine hB.out.mono ?_
    rintro e w1 ⟨rfl, hb⟩
    have HJ1 := HJ.out w1 hb
    clear hB HJ
    go_wp2_with fail
    go_at_call 51
    refine HJ1.mono ?_
    rintro e w2 ⟨rfl, hb2⟩
    go_wp2
    go_ret
    exact ⟨rfl, hb2⟩
  · rw [if_neg hlt] at hW
    rw [hW]
    obtain ⟨tx, hTx⟩ : ∃ tx, baLw (barE t) = tx := ⟨_, rfl⟩
    rw [hTx] at hB ⊢
    have hltI : ¬ ((tigE t : Nat) : Int) < (lv : Int) := by omega
    generalize tigE t = n at *
    clear hW hTx hl h7 h HJ
    go_enter Tryz.func28, Tryz.ntmps28
    go_wp2_with fail
    go_at_call 50
    refine HT.out.mono ?_
    rintro e wq ⟨rfl, hwq⟩
    obtain rfl := hwq.symm
    clear hwq HT
    go_wp2_with fail
    go_at_call 52
    refine hB.out.mono ?_
    rintro e w1 ⟨rfl, hb⟩
    go_wp2
    go_ret
    exact ⟨rfl, hb⟩
/-- the program writes every valid expression -/
theorem written_any {ok : Nat → Prop} : ∀ (n : Nat) {w : World} {v : Value} {t : Ex}, LibW w → IsEx ok n w v t → wellE t = true → NmA t → wtE t ≤ 200 → ∀ lv : Nat, lv ≤ 5 →
    Calls Tryz.prog 28 #[v, .int .i64 (lv : Int)] w fun e w' => e = .returned (.string (baLw (wrU t lv))) ∧ Below w.heap.size w w'
  | 0, w, v, t, _, h, _, _, _, _, _ => h.elim
  | n + 1, w, v, t, _, .inl ⟨h1, h2⟩, hw, _, _, _, _ => by rw [h1, wellE_eq] at hw; cases hw
  | n + 1, w, v, t, L, .inr ⟨hi, b, kv, h1, h2, h3, h5⟩, hw, hN, hwt, lv, hlv => by
    subst h1
    obtain ⟨ka, kc, rfl⟩ := h5.slice
    have hE : ExM w b t.kind t.num t.text ka t.kids.length kc := ⟨(Array.getElem?_eq_some_iff.1 h3).1, cellsAtA h3 0 _ rfl, cellsAtA h3 1 _ rfl, cellsAtA h3 2 _ rfl, cellsAtA h3 3 _ rfl⟩
    have hK : KiC w ka t.kids := fun i hik w1 hb1 => by
      obtain ⟨g, off, u, e1, e2, e3, e4⟩ := h5.at hik
      have hm : t.kids.getD i nilE ∈ t.kids := getD_mem hik
      refine ⟨g, off, u, e1, Nat.lt_of_lt_of_le e2 hb1.size, (hb1.cell (p := ⟨g, off + i, none⟩) e2).trans e3, fun lv2 hlv2 => written_any n (L.below hb1) (e4.below hb1) (wellE_kid hw hm) (hN.kid hm) ?_ lv2 hlv2⟩
      have q1 := wtL_mem t.kids _ hm
      have q2 := wtE_eq t
      omega
    have hl : (barE t).length + 6 ≤ 500 * wtE t := bar_len hw hN fun k hk lv => wr_len k (wellE_kid hw hk) (hN.kid hk) lv
    exact written_of lv hlv hE (bare_any L hE hK hw hN hwt) (by omega) (tight_op hw)

end Go.Proofs.YthbglakncijahaaGreatDoor

namespace Go.Proofs.YthbglakncijahaaGreatDoor
open Go.RowKit
set_option linter.unusedVariables false
set_option maxRecDepth 100000

theorem below_drewP {w w' : World} (h : Below w.heap.size w w') (n : Nat) : Below w.heap.size w (w'.drewN n) := ⟨h.os, h.tape, h.output, h.size, h.block⟩
theorem lt_of_cellP {w : World} {b o : Nat} {v : Value} (h : w.cell? ⟨b, o, none⟩ = some v) : b < w.heap.size := by
  rcases Nat.lt_or_ge b w.heap.size with h' | h'
  · exact h'
  · simp [World.cell?, Array.getElem?_eq_none h'] at h
set_option maxHeartbeats 4000000 in
theorem write_not {ok : Nat → Prop} {w : World} {v : Value} {t : Ex} {ay : Addr} (hVd : VdC w) (h : Expr ok w v t) (hT : TxA t) (hk : okX t = false) (hs : w.cell? ⟨0, 0, none⟩ = some (.iface 294 (.pointer (some ay)))) :
    Calls Tryz.prog 10 #[v] w fun e w' => e = .returned (.tuple #[.string ⟨#[]⟩, .iface 294 (.pointer (some ay))]) ∧ Below w.heap.size w w' := by
  have HO : Hid (Calls Tryz.prog 9 #[v] w fun e w' => e = .returned (.bool false) ∧ Below w.heap.size w w') := by have := aok_any hVd h hT; rw [hk] at this; exact this
  have HES : Hid (∀ w', Below w.heap.size w w' → w'.cell? ⟨0, 0, none⟩ = some (.iface 294 (.pointer (some ay)))) := fun w' hb => (hb.cell (p := ⟨0, 0, none⟩) (lt_of_cellP hs)).trans hs
  clear h hVd hT hk hs
  go_enter Tryz.func10, Tryz.ntmps10
  go_wp2_with fail
  go_at_call 9
  refine HO.out.mono ?_
  rintro e w2 ⟨rfl, hb2⟩
  have HB2 : Hid (Below w.heap.size w w2) := hb2
  have hs := HES.out w2 hb2
  clear hb2 HO HES
  go_wp2_with fail
  go_quiet (fail)
  go_wp2_with fail
  go_ret2
  exact ⟨rfl, below_drewP HB2.out _⟩
set_option maxHeartbeats 4000000 in
theorem write_yes {ok : Nat → Prop} {w : World} {v : Value} {t : Ex} (L : LibW w) (h : Expr ok w v t) (hT : TxA t) (hN : NmA t) (hk : okX t = true) (hl : (wrU t 0).length ≤ 65536) :
    Calls Tryz.prog 10 #[v] w fun e w' => e = .returned (.tuple #[.string (baLw (wrU t 0)), .nilIface]) ∧ Below w.heap.size w w' := by
  have HO : Hid (Calls Tryz.prog 9 #[v] w fun e w' => e = .returned (.bool true) ∧ Below w.heap.size w w') := by have := aok_any L.valid h hT; rw [hk] at this; exact this
  have HW : Hid (∀ w1, Below w.heap.size w w1 → Calls Tryz.prog 28 #[v, .int .i64 0] w1 fun e w' => e = .returned (.string (baLw (wrU t 0))) ∧ Below w.heap.size w w') := fun w1 hb => by
    unfold okX at hk
    rw [Bool.and_eq_true, decide_eq_true_eq] at hk
    obtain ⟨n, hn⟩ := h
    refine (written_any n (L.below hb) (hn.below hb) hk.1 hN hk.2 0 (by omega)).mono ?_
    rintro e w' ⟨q1, q2⟩
    exact ⟨q1, hb.trans (q2.mono hb.size)⟩
  have hsz : (baLw (wrU t 0)).size ≤ 65536 := by show (wrU t 0).toArray.size ≤ _; rw [List.size_toArray]; exact hl
  generalize baLw (wrU t 0) = tx at *
  have hg : ¬ (65536 : Int) < (tx.size : Int) := by omega
  have hg2 : decide ((tx.size : Int) > 65536) = false := decide_eq_false (by omega)
  clear h L hT hN hk hl
  go_enter Tryz.func10, Tryz.ntmps10
  go_wp2_with fail
  go_at_call 9
  refine HO.out.mono ?_
  rintro e w2 ⟨rfl, hb2⟩
  have HW2 := HW.out w2 hb2
  clear HO HW hb2
  go_wp2_with fail
  go_at_call 28
  refine HW2.mono ?_
  rintro e w3 ⟨rfl, hb3⟩
  go_wp2_with fail
  go_ret2
  exact ⟨rfl, hb3⟩
set_option maxHeartbeats 4000000 in
theorem write_long {ok : Nat → Prop} {w : World} {v : Value} {t : Ex} {ay : Addr} (L : LibW w) (h : Expr ok w v t) (hT : TxA t) (hN : NmA t) (hk : okX t = true) (hl : 65536 < (wrU t 0).length) (hs : w.cell? ⟨1, 0, none⟩ = some (.iface 294 (.pointer (some ay)))) :
    Calls Tryz.prog 10 #[v] w fun e w' => e = .returned (.tuple #[.string ⟨#[]⟩, .iface 294 (.pointer (some ay))]) ∧ Below w.heap.size w w' := by
  have HO : Hid (Calls Tryz.prog 9 #[v] w fun e w' => e = .returned (.bool true) ∧ Below w.heap.size w w') := by have := aok_any L.valid h hT; rw [hk] at this; exact this
  have HW : Hid (∀ w1, Below w.heap.size w w1 → Calls Tryz.prog 28 #[v, .int .i64 0] w1 fun e w' => e = .returned (.string (baLw (wrU t 0))) ∧ Below w.heap.size w w') := fun w1 hb => by
    unfold okX at hk
    rw [Bool.and_eq_true, decide_eq_true_eq] at hk
    obtain ⟨n, hn⟩ := h
    refine (written_any n (L.below hb) (hn.below hb) hk.1 hN hk.2 0 (by omega)).mono ?_
    rintro e w' ⟨q1, q2⟩
    exact ⟨q1, hb.trans (q2.mono hb.size)⟩
  have HES : Hid (∀ w', Below w.heap.size w w' → w'.cell? ⟨1, 0, none⟩ = some (.iface 294 (.pointer (some ay)))) := fun w' hb => (hb.cell (p := ⟨1, 0, none⟩) (lt_of_cellP hs)).trans hs
  have hsz : 65536 < (baLw (wrU t 0)).size := by show _ < (wrU t 0).toArray.size; rw [List.size_toArray]; exact hl
  generalize baLw (wrU t 0) = tx at *
  have hg : (65536 : Int) < (tx.size : Int) := by omega
  have hg2 : decide ((tx.size : Int) > 65536) = true := decide_eq_true (by omega)
  clear h L hT hN hk hl hs
  go_enter Tryz.func10, Tryz.ntmps10
  go_wp2_with fail
  go_at_call 9
  refine HO.out.mono ?_
  rintro e w2 ⟨rfl, hb2⟩
  have HW2 := HW.out w2 hb2
  clear HO HW hb2
  go_wp2_with fail
  go_at_call 28
  refine HW2.mono ?_
  rintro e w3 ⟨rfl, hb3⟩
  have HB3 : Hid (Below w.heap.size w w3) := hb3
  have hs := HES.out w3 hb3
  clear hb3 HES
  go_wp2_with fail
  go_quiet (fail)
  go_wp2_with fail
  go_ret2
  exact ⟨rfl, below_drewP HB3.out _⟩

end Go.Proofs.YthbglakncijahaaGreatDoor
