/- Texts of the proof, put together: LawPBack. -/
import Derived.Test.YtbjohedenfindaaGreatDoorPb42
import Derived.Test.YtbjohedenfindaaGreatDoorPb36
import Derived.Test.YtbjohedenfindaaGreatDoorPb43
namespace Go.Proofs.YtbjohedenfindaaGreatDoor
open Go.RowKit
set_option linter.unusedVariables false
set_option maxRecDepth 100000

theorem few_more {B C : Nat} (h : B ≤ C) : ∀ (n : Nat) {t : Re}, Few B n t → Few C n t
  | 0, _, _ => trivial
  | n + 1, t, ⟨h1, h2⟩ => ⟨Nat.le_trans h1 h, fun o ho k hk => few_more h n (h2 o ho k hk)⟩
theorem tree_both {ok ok' : Nat → Prop} {w : World} {v v' : Value} {t : Tm} (h : Tree ok w v (reOf t)) (h' : Tree ok' w v' (reOf t)) (hG : GoodT (reOf t)) : SamC w v v' := by
  obtain ⟨m, hm⟩ := h
  obtain ⟨m', hm'⟩ := h'
  exact same_all (max m m') t v v' (IsRe.more _ _ (Nat.le_max_left _ _) hm) (IsRe.more _ _ (Nat.le_max_right _ _) hm') hG

/-- what the law asks of a pattern that was read -/
structure BackT (mk : List Rg → Bool → List Rg) (w0 w : World) (b : Nat) (T : ByteArray) : Prop where
  bel : Below w0.heap.size w0 w
  ok : ∀ w', Below w.heap.size w w' → Calls Tryz.prog 14 #[.pointer (some ⟨b, 0, none⟩)] w' fun e w'' => e = .returned (.bool true) ∧ Below w'.heap.size w' w''
  wr : Calls Tryz.prog 15 #[.pointer (some ⟨b, 0, none⟩)] w fun e w' => e = .returned (.tuple #[.string T, .nilIface]) ∧ Below w.heap.size w w'
  rd : ∀ w', Below w.heap.size w w' → Calls Tryz.prog 7 #[.string T] w' fun e w'' => ∃ b2, e = .returned (.tuple #[.pointer (some ⟨b2, 0, none⟩), .nilIface]) ∧ Below w'.heap.size w' w'' ∧ SamC w'' (.pointer (some ⟨b, 0, none⟩)) (.pointer (some ⟨b2, 0, none⟩))

theorem SamC.below {W W' : World} {v v' : Value} (h : SamC W v v') (hb : Below W.heap.size W W') : ∀ w, Below W'.heap.size W' w → Calls Tryz.prog 10 #[v, v'] w fun e w' => e = .returned (.bool true) ∧ Below W.heap.size W w' := fun w hw => h w (hb.trans (hw.mono hb.size))

theorem backT_of {W0 w0 w : World} (L : LibC W0) (hE0 : Env W0 w0) {mk : List Rg → Bool → List Rg} (M : MkOk mk) {s : ByteArray} (hs : s.size ≤ 2000) {t : Re} {b : Nat} (hr : readS s mk = some t) (hb : Below w0.heap.size w0 w) {ok : Nat → Prop} (hTr : Tree ok w (.pointer (some ⟨b, 0, none⟩)) t) (hdb : w0.cell? ⟨13, 15, none⟩ = some (.int .u8 4)) (hbig : 16 ≤ w0.heap.size) : ∃ T, BackT mk w0 w b T := by
  have hwh : wholeS s mk = some t ∧ weighS 31 t ≤ 60 := by
    unfold readS at hr
    split at hr
    · cases hr
    · rename_i t' h'
      split at hr
      · cases hr; exact ⟨h', by assumption⟩
      · cases hr
  obtain ⟨hw, h60⟩ := hwh
  have hG : GoodT t := wholeS_good (by omega) (fun a b _ => ⟨(M a b).2.1, Nat.le_trans (M a b).2.2 (by omega)⟩) hw
  obtain ⟨tm, rfl, _, _, _⟩ := good_tm t hG
  obtain ⟨hC, hF⟩ := wholeS_cst M hw
  have hF9 : FewT 9000 (reOf tm) := fun n => few_more (by omega) n (hF n)
  have hlen : (wrT mk tm 0).length ≤ 50000 := by
    have h1 := wr_len (mk := mk) 31 tm hG h60 0
    have h2 := hC 31
    have h3 : sN mk 31 (reOf tm) ≤ 48000 := by omega
    omega
  have hby := wr_bytes (mk := mk) (hT tm) tm (Nat.le_refl _) hG 0
  have hread := written_read M hG h60 hby
  have hgoodT : ∀ t', wholeS (bytesB (wrT mk tm 0)) mk = some t' → AllOk 31 t' := fun t' h => wholeS_good (by rw [bytesB_size]; omega) (fun a b _ => ⟨(M a b).2.1, Nat.le_trans (M a b).2.2 (by omega)⟩) h 31
  have hbw : 16 ≤ w.heap.size := Nat.le_trans hbig hb.size
  refine ⟨bytesB (wrT mk tm 0), hb, fun w' hw' => ?_, ?_, fun w' hw' => ?_⟩
  · have := pok_any (hTr.moved hw'.size fun b hb hk => ⟨hk, hw'.block b hb⟩) (hG 31)
    rwa [show decide (weighS 31 (reOf tm) ≤ 60) = true by simp [h60]] at this
  · exact pwrite_any M hTr hG hF9 h60 (by omega) ((hb.cell (p := ⟨13, 15, none⟩) (by show 13 < _; omega)).trans hdb) hbw
  · refine (pread_any L ((hE0.below hb).below hw') (setc_of M) (by rw [bytesB_size]; omega) hgoodT).mono ?_
    rintro e w'' ⟨hb2, ⟨hx, _⟩ | ⟨t', v, hx, rfl, hT2⟩⟩
    · rw [hread] at hx; cases hx
    · rw [hread] at hx
      injection hx with hx
      subst hx
      obtain ⟨b2, rfl, _⟩ := hT2.ptr
      have h1 : Tree ok w'' (.pointer (some ⟨b, 0, none⟩)) (reOf tm) := (hTr.moved hw'.size fun b hb hk => ⟨hk, hw'.block b hb⟩).moved hb2.size fun b hb hk => ⟨hk, hb2.block b hb⟩
      exact ⟨b2, rfl, hb2, tree_both h1 hT2 hG⟩

set_option maxHeartbeats 8000000 in
theorem law_pback {W0 w : World} (L : LibC W0) (hE : Env W0 w) (s : ByteArray) (hs : s.size ≤ 2000) (hdb : w.cell? ⟨13, 15, none⟩ = some (.int .u8 4)) (hbig : 16 ≤ w.heap.size) :
    Calls Tryz.prog 6 #[.string s] w fun e w' => e = .returned (.bool true) ∧ Below w.heap.size w w' := by
  obtain ⟨mk, Mk⟩ := mk_exists
  have k1 : ¬ (2000 : Int) < (s.size : Int) := by omega
  have HR0 : Hid (Calls Tryz.prog 7 #[.string fixB] w fun e w' => ∃ q, e = .returned (.tuple #[.pointer (some ⟨q, 0, none⟩), .nilIface]) ∧ w'.cell? ⟨q, 0, none⟩ = some (.int .i64 4) ∧ Below w.heap.size w w') := by
    refine (pread_any L hE (setc_of Mk) (by decide) (fun t h => wholeS_good (by decide) (fun a b _ => ⟨(Mk a b).2.1, Nat.le_trans (Mk a b).2.2 (by omega)⟩) h 31)).mono ?_
    have hf := fix_read mk
    rintro e w' ⟨hb, ⟨hx, _⟩ | ⟨t, v, hx, rfl, hT⟩⟩
    · rw [hx] at hf; cases hf
    · rw [hx] at hf
      have hk : t.kind = 4 := by simpa using hf
      obtain ⟨m, hm⟩ := hT
      cases m with
      | zero => exact hm.elim
      | succ m =>
        obtain ⟨q, sv, kv, rfl, _, hn, _⟩ := hm
        exact ⟨q, rfl, by simp [World.cell?, hn, hk], hb⟩
  have HR : Hid (∀ w', Below w.heap.size w w' → Calls Tryz.prog 7 #[.string s] w' fun e w'' => (∃ f, e = .returned (.tuple #[.pointer none, .iface 49 (.pointer (some f))]) ∧ Below w.heap.size w w'') ∨ ∃ b T, e = .returned (.tuple #[.pointer (some ⟨b, 0, none⟩), .nilIface]) ∧ Hid (BackT mk w w'' b T)) := fun w' hb => by
    refine (pread_any L (hE.below hb) (setc_of Mk) (by omega) (fun t h => wholeS_good (by omega) (fun a b _ => ⟨(Mk a b).2.1, Nat.le_trans (Mk a b).2.2 (by omega)⟩) h 31)).mono ?_
    rintro e w'' ⟨hb2, ⟨hx, f, rfl⟩ | ⟨t, v, hx, rfl, hT⟩⟩
    · exact .inl ⟨f, rfl, hb.trans (hb2.mono hb.size)⟩
    · obtain ⟨b, rfl, _⟩ := hT.ptr
      obtain ⟨T, hB⟩ := backT_of L hE Mk hs hx (hb.trans (hb2.mono hb.size)) hT hdb hbig
      exact .inr ⟨b, T, rfl, hB⟩
  clear hE L hdb
  go_enter Tryz.func6, Tryz.ntmps6
  go_wp2_with fail
  go_at_call 7
  refine HR0.out.mono ?_
  rintro e w1 ⟨q, rfl, hq, hb1⟩
  clear HR0
  go_wp2_with fail
  go_at_call 7
  refine (HR.out _ hb1).mono ?_
  rintro e w3 (⟨f, rfl, hb3⟩ | ⟨b, T, rfl, HB⟩)
  · clear HR
    go_wp2
    go_ret
    exact ⟨by simp, hb3⟩
  · clear HR
    go_wp2_with fail
    go_at_call 15
    refine HB.out.wr.mono ?_
    rintro e w4 ⟨rfl, hb4⟩
    go_wp2_with fail
    go_at_call 7
    refine (HB.out.rd _ hb4).mono ?_
    rintro e w5 ⟨b2, rfl, hb5, hS5⟩
    have HS5 : Hid (SamC w5 (.pointer (some ⟨b, 0, none⟩)) (.pointer (some ⟨b2, 0, none⟩))) := hS5
    have hb45 := hb4.trans (hb5.mono hb4.size)
    clear hS5
    go_wp2_with fail
    go_at_call 14
    refine (HB.out.ok _ hb45).mono ?_
    rintro e w6 ⟨rfl, hb6⟩
    have HF : Hid (∀ w', Below w6.heap.size w6 w' → Calls Tryz.prog 10 #[.pointer (some ⟨b, 0, none⟩), .pointer (some ⟨b2, 0, none⟩)] w' fun e w'' => e = .returned (.bool true) ∧ Below w.heap.size w w'') := fun w' h => by
      refine (HS5.out.below hb6 w' h).mono ?_
      rintro e w'' ⟨rfl, hz⟩
      have h5 : Below w.heap.size w w5 := HB.out.bel.trans (hb45.mono HB.out.bel.size)
      exact ⟨rfl, h5.trans (hz.mono h5.size)⟩
    clear hb4 hb5 hb45 HS5
    go_wp2_with fail
    go_at_call 10
    refine (HF.out _ (Below.refl _ _)).mono ?_
    rintro e w7 ⟨rfl, hb7⟩
    go_wp2
    go_ret
    exact ⟨by simp, hb7⟩

set_option maxHeartbeats 2000000 in
theorem law_pback_long {W0 w : World} (L : LibC W0) (hE : Env W0 w) (s : ByteArray) (hs : 2000 < s.size) :
    Calls Tryz.prog 6 #[.string s] w fun e w' => e = .returned (.bool true) ∧ Below w.heap.size w w' := by
  obtain ⟨mk, Mk⟩ := mk_exists
  have k1 : (2000 : Int) < (s.size : Int) := by omega
  have HR0 : Hid (Calls Tryz.prog 7 #[.string fixB] w fun e w' => ∃ q, e = .returned (.tuple #[.pointer (some ⟨q, 0, none⟩), .nilIface]) ∧ w'.cell? ⟨q, 0, none⟩ = some (.int .i64 4) ∧ Below w.heap.size w w') := by
    refine (pread_any L hE (setc_of Mk) (by decide) (fun t h => wholeS_good (by decide) (fun a b _ => ⟨(Mk a b).2.1, Nat.le_trans (Mk a b).2.2 (by omega)⟩) h 31)).mono ?_
    have hf := fix_read mk
    rintro e w' ⟨hb, ⟨hx, _⟩ | ⟨t, v, hx, rfl, hT⟩⟩
    · rw [hx] at hf; cases hf
    · rw [hx] at hf
      have hk : t.kind = 4 := by simpa using hf
      obtain ⟨m, hm⟩ := hT
      cases m with
      | zero => exact hm.elim
      | succ m =>
        obtain ⟨q, sv, kv, rfl, _, hn, _⟩ := hm
        exact ⟨q, rfl, by simp [World.cell?, hn, hk], hb⟩
  clear hE L
  go_enter Tryz.func6, Tryz.ntmps6
  go_wp2_with fail
  go_at_call 7
  refine HR0.out.mono ?_
  rintro e w1 ⟨q, rfl, hq, hb1⟩
  clear HR0
  go_wp2
  go_ret
  exact ⟨rfl, hb1⟩

end Go.Proofs.YtbjohedenfindaaGreatDoor
