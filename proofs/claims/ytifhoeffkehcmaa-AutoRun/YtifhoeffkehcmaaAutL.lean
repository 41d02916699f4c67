/- The run of a text: the program's, and the document's, and the law that they are the same. -/
import Derived.Test.YtifhoeffkehcmaaAutW
import Derived.Deep.RegionHeld3
namespace Go.Proofs.Ytifhoeffkehcmaa
open Go.RowKit
set_option linter.unusedVariables false
set_option maxRecDepth 100000

def startL (l : List St) : Int := if l.length = 0 then -1 else 0
theorem runL_eq (l : List St) (zs : List Int) : runL l zs = ruleL l (goL l (startL l) zs) := by
  unfold runL startL
  by_cases h : l = []
  · subst h
    rw [if_pos rfl]
    simp only [List.length_nil, if_true]
    have := goL_neg [] zs (-1) (by omega)
    unfold ruleL
    rw [if_pos this]
  · rw [if_neg h, if_neg (by simpa using h)]
theorem startL_range (l : List St) : startL l = -1 ∨ (0 ≤ startL l ∧ startL l < l.length) := by
  unfold startL
  split
  · exact .inl rfl
  · exact .inr (by omega)

theorem next_any (a : Option Addr) (c : Nat) (z p : Int) (l : List St) (w : World) (hz : z = -1 ∨ (0 ≤ z ∧ z < l.length)) (hok : autoOk l = true) (hv : Sts w (.slice a l.length c) l) :
    Calls Try.prog 16 #[.agg #[.slice a l.length c], .int .i64 z, .int .i64 p] w fun e w' => e = .returned (.int .i64 (stL l z p)) ∧ Below w.heap.size w w' := by
  have hl5 : l.length ≤ 500 := by simp [autoOk] at hok; exact hok.1
  rcases hz with rfl | ⟨h0, h1⟩
  · exact next_no a c _ p w
  · obtain ⟨k, rfl⟩ : ∃ k : Nat, z = k := ⟨z.toNat, by omega⟩
    rw [stL_nat]
    exact next_at a c k p l w (by omega) hl5 (autoOk_st hok k (by omega)).2 hv

set_option maxHeartbeats 2000000 in
theorem arun_bad (a : Option Addr) (c : Nat) (s : ByteArray) (l : List St) (w : World) (hok : autoOk l = false) (hv : Sts w (.slice a l.length c) l) :
    Calls Try.prog 7 #[.agg #[.slice a l.length c], .string s] w fun e w' => e = .returned (.int .i64 (-1)) ∧ Below w.heap.size w w' := by
  have hB0 := box_below w (.slice a l.length c)
  have HV := hv.below hB0
  unfold boxA at hB0 HV
  have H1 : Hid (Sts (w.alloc (.cells #[.slice a l.length c] 24)) (.slice a l.length c) l) := HV
  clear hv HV
  go_enter Try.func7, Try.ntmps7
  go_wp2_with fail
  refine (aok_any _ l _ H1.out).mono ?_
  rw [hok]
  rintro e w1 ⟨rfl, hb1⟩
  have hb2 := hB0.trans (hb1.mono (by simp))
  clear hb1 hB0
  go_wp2
  go_ret
  exact ⟨rfl, hb2⟩

set_option maxHeartbeats 2000000 in
theorem arun_ok (a : Option Addr) (c : Nat) (s : ByteArray) (l : List St) (w : World) (hs : s.size ≤ 2000) (hok : autoOk l = true) (hv : Sts w (.slice a l.length c) l) :
    Calls Try.prog 7 #[.agg #[.slice a l.length c], .string s] w fun e w' => e = .returned (.int .i64 (runL l (pts s))) ∧ Below w.heap.size w w' := by
  have hB0 := box_below w (.slice a l.length c)
  have hB1 := box_size w (.slice a l.length c)
  have hB2 := box_cell w (.slice a l.length c)
  have HV0 : Hid (Sts w (.slice a l.length c) l) := hv
  have HO : Hid (autoOk l = true) := hok
  have hpl := (len_back s).1
  unfold boxA at hB0 hB1 hB2
  clear hv
  go_enter Try.func7, Try.ntmps7
  go_wp2_with fail
  refine (aok_any _ l _ (HV0.out.below hB0)).mono ?_
  rw [hok]
  clear hok
  generalize hw0 : w.alloc (.cells #[.slice a l.length c] 24) = w0 at *
  have HW0 : Hid (w.alloc (.cells #[.slice a l.length c] 24) = w0) := hw0
  clear hw0
  rintro e w1 ⟨rfl, hb1⟩
  have hbq1 : Below (w.heap.size + 1) w0 w1 := by rw [← hB1]; exact hb1
  have cB1 := (hbq1.cell (p := ⟨w.heap.size, 0, none⟩) (Nat.lt_succ_self _)).trans hB2
  have hs1 := hbq1.size
  have hlt1 : w.heap.size < w1.heap.size := by omega
  clear hb1
  go_wp2_with fail
  refine (start_any a c l.length _).mono ?_
  rintro e w2 ⟨rfl, hb2⟩
  have hbq2 := hbq1.trans (hb2.mono (by omega))
  have cB2 := (hbq2.cell (p := ⟨w.heap.size, 0, none⟩) (Nat.lt_succ_self _)).trans hB2
  have hs2 := hbq2.size
  have hlt2 : w.heap.size < w2.heap.size := by omega
  clear hb2 hbq1 cB1 hs1 hlt1
  have hst : (if l.length = 0 then (-1 : Int) else 0) = startL l := rfl
  rw [hst]
  clear hst
  go_wp2_with fail
  refine (ppoints_any s _ (by omega)).mono ?_
  rintro e w3 ⟨v, rfl, hown, hb3, _⟩
  have hbq3 := hbq2.trans (hb3.mono (by omega))
  have HP : Hid (Pts w3 v (pts s)) := pts_of_own hown
  obtain ⟨za, zc, rfl, _⟩ := HP.out
  clear hown hb3 hbq2 cB2 hs2 hlt2
  generalize hzs : pts s = zs at *
  have HZS : Hid (pts s = zs) := hzs
  clear hzs
  have hs3 := hbq3.size
  go_wp2
  go_loopw [5, 16] (fun x i wr => ∃ (k : Nat) (z : Int), k ≤ zs.length ∧ x = .int .i64 z ∧ i = .int .i64 k ∧ (z = -1 ∨ (0 ≤ z ∧ z < l.length)) ∧ Hid (goL l (startL l) (zs.take k) = z) ∧ Below w3.heap.size w3 wr) (fun _ i _ => zs.length - (intOf i).toNat)
  case atStart => exact ⟨0, startL l, Nat.zero_le _, rfl, rfl, startL_range l, (by show _ = _; simp [goL]), Below.refl _ _⟩
  case round =>
    obtain ⟨k, z, hk, rfl, rfl, hzz, HG, hbr⟩ := hrel
    have hbq := hbq3.trans (hbr.mono (by omega))
    have hbx := hB0.trans (hbq.mono (Nat.le_succ _))
    have hsz := hbq.size
    have hlt0 : w.heap.size < wr.heap.size := by omega
    have cB := (hbq.cell (p := ⟨w.heap.size, 0, none⟩) (Nat.lt_succ_self _)).trans hB2
    by_cases hkt : k < zs.length
    · obtain ⟨za', zc', e, hcs⟩ := HP.out.below hbr
      simp only [Value.slice.injEq, true_and] at e
      obtain ⟨rfl, rfl⟩ := e
      obtain ⟨g, o, rfl, hg, cz⟩ := hcs k hkt
      have HG2 : Hid (goL l (startL l) (zs.take (k + 1)) = stL l z (zs.getD k 0)) := by show _ = _; rw [goL_succ l _ zs k hkt, HG.out]
      clear hcs HP
      generalize zs.getD k 0 = p at *
      have HRg : Hid (stL l z p = -1 ∨ (0 ≤ stL l z p ∧ stL l z p < l.length)) := stL_range HO.out z p (by omega)
      go_wp2_with fail
      refine (next_any a c z p l _ hzz HO.out (HV0.out.below hbx)).mono ?_
      rintro e w5 ⟨rfl, h5⟩
      have hb5 := hbr.trans (h5.mono (by have := hbr.size; omega))
      clear h5
      generalize stL l z p = y at *
      go_wp2
      go_roundw
      case rel => exact ⟨k + 1, y, by omega, rfl, by go_num, HRg.out, HG2, hb5⟩
      case measure => simp [intOf]; omega
    · have HS : Hid (runL l zs = ruleL l z) := by show _ = _; rw [runL_eq, ← HG.out, List.take_of_length_le (by omega)]
      clear HP
      go_wp2_with fail
      refine (ruleof_any a c z l _ hzz (HV0.out.below hbx)).mono ?_
      rintro e w5 ⟨rfl, h5⟩
      have hb5 := hbx.trans (h5.mono (by have := hbx.size; omega))
      clear h5
      go_wp2
      go_ret
      exact ⟨by rw [HZS.out, HS.out]; rfl, hb5⟩

set_option maxHeartbeats 1000000 in
theorem runpoints_nil (a : Option Addr) (c : Nat) (v : Value) (w : World) :
    Calls Try.prog 19 #[.agg #[.slice a 0 c], v] w fun e w' => e = .returned (.int .i64 (-1)) ∧ Below w.heap.size w w' := by
  have hB0 := box_below w (.slice a 0 c)
  unfold boxA at hB0
  go_enter Try.func19, Try.ntmps19
  go_wp2
  go_ret
  exact ⟨rfl, hB0⟩

theorem runpoints_any (a : Option Addr) (c : Nat) (v : Value) (zs : List Int) (l : List St) (w : World) (hzl : zs.length ≤ 4398046511104) (hok : autoOk l = true) (hv : Sts w (.slice a l.length c) l) (hz : Pts w v zs) :
    Calls Try.prog 19 #[.agg #[.slice a l.length c], v] w fun e w' => e = .returned (.int .i64 (runL l zs)) ∧ Below w.heap.size w w' := by
  by_cases h : l = []
  · subst h
    exact runpoints_nil a c v w
  · have : runL l zs = ruleL l (goL l 0 zs) := by unfold runL; rw [if_neg h]
    rw [this]
    exact runpoints_row a c v zs l w h hzl hok hv hz

set_option maxHeartbeats 1000000 in
theorem rrun_any (a : Option Addr) (c : Nat) (s : ByteArray) (l : List St) (w : World) (hs : s.size ≤ 2000) (hok : autoOk l = true) (hv : Sts w (.slice a l.length c) l) :
    Calls Try.prog 8 #[.agg #[.slice a l.length c], .string s] w fun e w' => e = .returned (.int .i64 (runL l (pts s))) ∧ Below w.heap.size w w' := by
  have hB0 := box_below w (.slice a l.length c)
  have hB1 := box_size w (.slice a l.length c)
  have hB2 := box_cell w (.slice a l.length c)
  have HV0 : Hid (Sts w (.slice a l.length c) l) := hv
  have HO : Hid (autoOk l = true) := hok
  have hpl := (len_back s).1
  unfold boxA at hB0 hB1 hB2
  clear hv hok
  go_enter Try.func8, Try.ntmps8
  go_wp2_with fail
  refine (rpoints_any s _ (by omega)).mono ?_
  generalize hw0 : w.alloc (.cells #[.slice a l.length c] 24) = w0 at *
  have HW0 : Hid (w.alloc (.cells #[.slice a l.length c] 24) = w0) := hw0
  clear hw0
  rintro e w1 ⟨v, rfl, hown, hb1⟩
  have hbq1 : Below (w.heap.size + 1) w0 w1 := by rw [← hB1]; exact hb1
  have cB1 := (hbq1.cell (p := ⟨w.heap.size, 0, none⟩) (Nat.lt_succ_self _)).trans hB2
  have hs1 := hbq1.size
  have hlt1 : w.heap.size < w1.heap.size := by omega
  have HP : Hid (Pts w1 v (pts s)) := pts_of_own hown
  have hbx := hB0.trans (hbq1.mono (Nat.le_succ _))
  clear hb1 hown
  go_wp2_with fail
  refine (runpoints_any a c v (pts s) l _ (by omega) HO.out (HV0.out.below hbx) HP.out).mono ?_
  rintro e w2 ⟨rfl, hb2⟩
  have hb3 := hbx.trans (hb2.mono (by omega))
  clear hb2
  go_wp2
  go_ret
  exact ⟨rfl, hb3⟩

end Go.Proofs.Ytifhoeffkehcmaa
