/- Texts of the proof, put together: GRcN. -/
import Derived.Test.YtkdoghaoijdedaaGreatDoorGt15
namespace Go.Proofs.YtkdoghaoijdedaaGreatDoor
open Go.RowKit
set_option linter.unusedVariables false
set_option maxRecDepth 100000

theorem GOkM.whole {N : Nat} {ps : List PdR} (h : GOkM N ps) : GOkM N (wholeP N ps) := by
  refine ⟨h.n, Nat.le_trans (List.length_filter_le _ _) h.len, fun m hm => ?_⟩
  have e : (wholeP N ps).getD m noPd ∈ wholeP N ps := by simp [List.getD, hm]
  obtain ⟨h1, h2⟩ := h.mem (List.mem_filter.1 e).1
  exact ⟨h1, fun j hj => (h2.2 j hj).2⟩
/-- a name stands in a production -/
def inB (p : PdR) (n : Nat) : Bool := p.right.any fun x => decide (x < 0) && decide ((-1 - x).toNat = n)
theorem inB_iff (p : PdR) (n : Nat) : inB p n = true ↔ ∃ x ∈ p.right, x < 0 ∧ (-1 - x).toNat = n := by
  unfold inB
  rw [List.any_eq_true]
  simp only [Bool.and_eq_true, decide_eq_true_eq]
/-- what the hosts of a name say -/
def reachB (ps : List PdR) (s : Int) (f : Nat → Bool) (n : Nat) : Bool := (ps.any fun p => inB p n && f p.left.toNat) || decide ((n : Int) = s)
theorem reachB_iff (ps : List PdR) (s : Int) (f : Nat → Bool) (n : Nat) : reachB ps s f n = true ↔ (∃ p ∈ ps, inB p n = true ∧ f p.left.toNat = true) ∨ (n : Int) = s := by
  unfold reachB
  rw [Bool.or_eq_true, List.any_eq_true, decide_eq_true_eq]
  simp only [Bool.and_eq_true]
theorem reach_link {N : Nat} {ps : List PdR} (hG : GOkM N ps) (s : Int) (f : Nat → Bool) (n : Nat) : reachB ps s f n = true ↔ (∃ k, (k < N ∧ linkR ps ps.length k n) ∧ f k = true) ∨ (n : Int) = s := by
  rw [reachB_iff]
  refine or_congr_left ?_
  constructor
  · rintro ⟨p, hp, h1, h2⟩
    obtain ⟨x, hx, h3, h4⟩ := (inB_iff p n).1 h1
    have h5 := link_of ps (fun p hp => (hG.mem hp).1.1) p hp x hx h3
    rw [h4] at h5
    have h6 := (hG.mem hp).1
    exact ⟨p.left.toNat, ⟨by have := h6.1; have := h6.2.1; omega, h5⟩, h2⟩
  · rintro ⟨k, ⟨_, q, hq, hl, i, hi, h1, h2⟩, h3⟩
    refine ⟨ps.getD q noPd, by simp [List.getD, hq], (inB_iff _ _).2 ⟨(ps.getD q noPd).right.getD i 0, ?_, h1, by omega⟩, ?_⟩
    · have e : ∀ (l : List Int) (i : Nat), i < l.length → l.getD i 0 ∈ l := fun l i h => by simp [List.getD, h]
      exact e _ i hi
    · rw [hl, Int.toNat_natCast]; exact h3
/-- .. by so many steps -/
def reachH (ps : List PdR) (s : Int) : Nat → Nat → Bool
  | 0, _ => false
  | h + 1, n => reachB ps s (reachH ps s h) n
theorem reachB_mono {ps : List PdR} {s : Int} {f g : Nat → Bool} (h : ∀ n, f n = true → g n = true) (n : Nat) (hf : reachB ps s f n = true) : reachB ps s g n = true := by
  rw [reachB_iff] at *
  rcases hf with ⟨p, hp, h1, h2⟩ | h1
  · exact .inl ⟨p, hp, h1, h _ h2⟩
  · exact .inr h1
theorem reachB_ok {N : Nat} {ps : List PdR} (hG : GOkM N ps) (s : Int) : SayOk N (reachB ps s) (fun n k => k < N ∧ linkR ps ps.length k n) (fun n => ∃ h, reachH ps s h n = true) where
  mono f g h n hf := reachB_mono h n hf
  dep f g n hn h := by
    rw [Bool.eq_iff_iff, reach_link hG, reach_link hG]
    refine or_congr_left ?_
    constructor
    · rintro ⟨k, h1, h2⟩; exact ⟨k, h1, by rw [← h k h1]; exact h2⟩
    · rintro ⟨k, h1, h2⟩; exact ⟨k, h1, by rw [h k h1]; exact h2⟩
  sound f h n hn hs := by
    rcases (reachB_iff _ _ _ _).1 hs with ⟨p, hp, h1, h2⟩ | h1
    · obtain ⟨k, hk⟩ := h _ h2
      exact ⟨k + 1, (reachB_iff _ _ _ _).2 (.inl ⟨p, hp, h1, hk⟩)⟩
    · exact ⟨1, (reachB_iff _ _ _ _).2 (.inr h1)⟩
theorem WkB.reach {N : Nat} {ps : List PdR} {s : Int} {L : List Bool} (hG : GOkM N ps) (h : WkB (reachB ps s) (fun n => ∃ h, reachH ps s h n = true) N L (fun _ => False)) : ∀ n, n < N → (factB L n = true ↔ ∃ h, reachH ps s h n = true) := by
  have hup : ∀ k n, n < N → reachH ps s k n = true → factB L n = true := by
    intro k
    induction k with
    | zero => intro n _ h0; simp [reachH] at h0
    | succ k ih =>
      intro n hn h1
      rw [h.closed n hn (fun e => e), reachB_iff]
      rcases (reachB_iff _ _ _ _).1 (show reachB ps s (reachH ps s k) n = true from h1) with ⟨p, hp, h2, h3⟩ | h2
      · have h6 := (hG.mem hp).1
        exact .inl ⟨p, hp, h2, ih _ (by have := h6.1; have := h6.2.1; omega) h3⟩
      · exact .inr h2
  exact fun n hn => ⟨h.sound n, fun ⟨k, hk⟩ => hup k n hn hk⟩

set_option maxHeartbeats 4000000 in
theorem reachedNames_any (t s : Int) (N : Nat) (ps : List PdR) (ls ss : List Int) (pv lv sv : Value) (w : World) (hG : GOkM N ps) (h : PdsM w pv ps) (hlv : ∃ a n c, lv = .slice a n c) (hsv : ∃ a n c, sv = .slice a n c) :
    Calls Tryz.prog 49 #[gv ⟨t, N, s, ps, ls, ss⟩ pv lv sv] w fun e w' => ∃ B L, e = .returned (.slice (some ⟨B, 0, none⟩) N N) ∧ RowB w' B L ∧ L.length = N ∧ (∀ n, n < N → (factB L n = true ↔ ∃ h, reachH (wholeP N ps) s h n = true)) ∧ w.heap.size ≤ B ∧ Below w.heap.size w w' := by
  have hB0 := boxG_below w ⟨t, N, s, ps, ls, ss⟩ pv lv sv
  have hB1 := boxG_size w ⟨t, N, s, ps, ls, ss⟩ pv lv sv
  have hB2 := boxG_box w ⟨t, N, s, ps, ls, ss⟩ pv lv sv
  have hWh := whole_any t s N ps ls ss pv lv sv (boxG w ⟨t, N, s, ps, ls, ss⟩ pv lv sv) hG (h.below hB0) hlv hsv
  have hGw := hG.whole
  obtain ⟨pa, pc, rfl⟩ := h.slice
  have HBX : Hid (BoxG (boxG w ⟨t, N, s, ps, ls, ss⟩ (.slice pa ps.length pc) lv sv) w.heap.size ⟨t, N, s, ps, ls, ss⟩ (.slice pa ps.length pc) lv sv) := hB2
  clear h
  unfold boxG gv gvs at hWh
  unfold boxG gvs at hB0 hB1 hB2 HBX
  unfold gv gvs
  simp only at *
  obtain ⟨q0, q1, q2, q3, q4, q5, q6⟩ := hB2
  simp only at q0 q1 q2 q3 q4 q5 q6
  go_enter Tryz.func49, Tryz.ntmps49
  go_wp2_with fail
  refine hWh.mono ?_
  rintro e w2 ⟨pv', rfl, hpds, hb2⟩
  clear hWh q0 q1 q2 q3 q4 q5 q6
  generalize w.alloc (.cells #[.int .i64 t, .int .i64 N, .int .i64 s, .slice pa ps.length pc, lv, sv] 25) = w0 at *
  have hb2' : Below w.heap.size w w2 := hB0.trans (hb2.mono (by omega))
  have hWi := within_any t s N (wholeP N ps) ls ss pv' lv sv w2 hGw.n hGw.len hGw.pd hpds
  unfold gv gvs at hWi
  simp only at hWi
  clear hpds
  go_wp2_with fail
  refine hWi.mono ?_
  rintro e w3 ⟨rfl, ⟨cnt, hlnk, hcb⟩, hb3⟩
  clear hWi
  have hTr := turned_any hlnk hGw.n (fun n k _ hk => hGw.link n k hk) (K := 8000) (by omega) (fun n _ => hcb n)
  have hb3' : Below w.heap.size w w3 := hb2'.trans (hb3.mono hb2'.size)
  clear hlnk hcb
  generalize w2.heap.size + 1 = DW at *
  go_wp2_with fail
  refine hTr.mono ?_
  rintro e w4 ⟨rfl, ⟨cn, hln4, hc4⟩, hb4⟩
  clear hTr
  have hb4' : Below w.heap.size w w4 := hb3'.trans (hb4.mono hb3'.size)
  have hA := alloc_below w4 (.cells #[.slice (some ⟨w3.heap.size, 0, none⟩) N N] 56)
  have hAs := alloc_size w4 (.cells #[.slice (some ⟨w3.heap.size, 0, none⟩) N N] 56)
  have hAc : (w4.alloc (.cells #[.slice (some ⟨w3.heap.size, 0, none⟩) N N] 56)).cell? ⟨w4.heap.size, 0, none⟩ = some (.slice (some ⟨w3.heap.size, 0, none⟩) N N) := by
    have h : (w4.alloc (.cells #[.slice (some ⟨w3.heap.size, 0, none⟩) N N] 56)).heap[w4.heap.size]? = some (.cells #[.slice (some ⟨w3.heap.size, 0, none⟩) N N] 56) := by
      show (w4.heap.push _)[w4.heap.size]? = _
      exact Array.getElem?_push_size
    simp only [World.cell?, h]; rfl
  have hVL : VarL (w4.alloc (.cells #[.slice (some ⟨w3.heap.size, 0, none⟩) N N] 56)) w4.heap.size w3.heap.size N _ cn _ := ⟨by omega, hAc, hln4.below hA⟩
  have hbA : Below w.heap.size w (w4.alloc (.cells #[.slice (some ⟨w3.heap.size, 0, none⟩) N N] 56)) := hb4'.trans (hA.mono hb4'.size)
  have hbx : Below w0.heap.size w0 (w4.alloc (.cells #[.slice (some ⟨w3.heap.size, 0, none⟩) N N] 56)) := by
    have k3 := hb2.trans (hb3.mono hb2.size)
    have k4 := k3.trans (hb4.mono k3.size)
    exact k4.trans (hA.mono k4.size)
  obtain ⟨q0, q1, q2, q3, q4, q5, q6⟩ := HBX.out.below (show w.heap.size < w0.heap.size by omega) hbx
  simp only at q0 q1 q2 q3 q4 q5 q6
  have hen : ∀ args w, (callFunc 74 args).run Tryz.prog w = .ok (.enter 74 args) w := enters_of Tryz.func74 (by kernel_rfl) rfl
  have hSy : SaysG (w4.alloc (.cells #[.slice (some ⟨w3.heap.size, 0, none⟩) N N] 56)) 74 (.pointer (some ⟨w4.heap.size, 0, none⟩)) (.pointer (some ⟨w.heap.size, 0, none⟩)) N (reachB (wholeP N ps) s) := by
    intro w' L B n hn hL hv hb
    exact reachedC_any N hG.n _ _ cn L B n w4.heap.size w3.heap.size w.heap.size s hn w' hL hv (hVL.below hb) (fun k hk => hk.1) (Nat.lt_of_lt_of_le q0 hb.size) ((hb.cell (p := ⟨w.heap.size, 2, none⟩) q0).trans q3) _ (reach_link hGw s (factB L) n)
  have hLe := leastB_any N hG.n _ _ _ 2400000 (by omega) (reachB_ok hGw s) 74 hen (.pointer (some ⟨w4.heap.size, 0, none⟩)) (.pointer (some ⟨w.heap.size, 0, none⟩)) (w4.alloc (.cells #[.slice (some ⟨w3.heap.size, 0, none⟩) N N] 56)) w3.heap.size _ cn hVL.lnk (fun n _ => Nat.le_trans (hc4 n) (by omega)) (fun n k _ hk => hk.1) hSy
  have hlt4 : w4.heap.size < (w4.alloc (.cells #[.slice (some ⟨w3.heap.size, 0, none⟩) N N] 56)).heap.size := by omega
  clear hSy hVL hln4 hc4 hA hAs
  go_wp2_with fail
  refine hLe.mono ?_
  rintro e w5 ⟨B, L, rfl, hrow, hwk, hB, hb5⟩
  have HRw : Hid (RowB w5 B L) := hrow
  have HWk : Hid (∀ n, n < N → (factB L n = true ↔ ∃ h, reachH (wholeP N ps) s h n = true)) := hwk.reach hGw
  have HLn : Hid (L.length = N) := hwk.len
  have hb5' : Below w.heap.size w w5 := hbA.trans (hb5.mono hbA.size)
  have hBl : w.heap.size ≤ B := Nat.le_trans hbA.size hB
  clear hrow hwk hLe hAc q0 q1 q2 q3 q4 q5 q6
  go_wp2
  go_ret
  exact ⟨B, L, rfl, HRw.out, HLn.out, HWk.out, hBl, hb5'⟩

end Go.Proofs.YtkdoghaoijdedaaGreatDoor
