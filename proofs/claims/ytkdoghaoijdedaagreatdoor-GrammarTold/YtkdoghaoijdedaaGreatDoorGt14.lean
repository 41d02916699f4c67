/- Texts of the proof, put together: GHvT. -/
import Derived.Test.YtkdoghaoijdedaaGreatDoorGt07
import Derived.Test.YtkdoghaoijdedaaGreatDoorGt12
import Derived.Test.YtkdoghaoijdedaaGreatDoorGt13
namespace Go.Proofs.YtkdoghaoijdedaaGreatDoor
open Go.RowKit
set_option linter.unusedVariables false
set_option maxRecDepth 100000

theorem link_of (ps : List PdR) (hl : ∀ p ∈ ps, 0 ≤ p.left) (p : PdR) (hp : p ∈ ps) (s : Int) (hs : s ∈ p.right) (h0 : s < 0) : linkR ps ps.length p.left.toNat (-1 - s).toNat := by
  have h1 := hl _ hp
  obtain ⟨i, hi, rfl⟩ := List.mem_iff_getElem.1 hp
  obtain ⟨j, hj, rfl⟩ := List.mem_iff_getElem.1 hs
  have e : ps.getD i noPd = ps[i] := by simp [List.getD, hi]
  refine ⟨i, hi, ?_⟩
  rw [e]
  refine ⟨by omega, j, hj, ?_⟩
  have e2 : (ps[i]).right.getD j 0 = (ps[i]).right[j] := by simp [List.getD, hj]
  rw [e2]
  exact ⟨h0, by omega⟩
theorem hasB_same {leaf : Bool} {f g : Nat → Bool} (r : List Int) (h : ∀ s ∈ r, s < 0 → f (-1 - s).toNat = g (-1 - s).toNat) : hasB leaf f r = hasB leaf g r := by
  unfold hasB
  rw [Bool.eq_iff_iff, List.all_eq_true, List.all_eq_true]
  refine forall_congr' fun s => forall_congr' fun hs => ?_
  by_cases h0 : s < 0
  · rw [if_pos h0, if_pos h0, h s hs h0]
  · rw [if_neg h0, if_neg h0]
theorem saysB_ok (leaf : Bool) (N : Nat) (ps : List PdR) (hl : ∀ p ∈ ps, 0 ≤ p.left) : SayOk N (saysB leaf (prsS ps)) (linkR ps ps.length) (fun n => ∃ h, hgtB leaf (prsS ps) h n = true) where
  mono f g h n hf := saysB_mono h n hf
  dep f g n hn h := by
    have hp : ∀ p ∈ prsS ps, p.left = n → hasB leaf f p.right = hasB leaf g p.right := fun q hq e => by
      obtain ⟨p, hp, rfl⟩ := List.mem_map.1 hq
      refine hasB_same _ fun s hs h0 => h _ ?_
      have := link_of ps hl p hp s hs h0
      have e' : p.left.toNat = n := e
      rw [e'] at this
      exact this
    rw [Bool.eq_iff_iff, saysB_iff, saysB_iff]
    constructor
    · rintro ⟨p, hp1, h1, h2⟩; exact ⟨p, hp1, h1, by rw [← hp p hp1 h1]; exact h2⟩
    · rintro ⟨p, hp1, h1, h2⟩; exact ⟨p, hp1, h1, by rw [hp p hp1 h1]; exact h2⟩
  sound f h n hn hs := by
    obtain ⟨p, hp, rfl, h2⟩ := (saysB_iff _ _ _ _).1 hs
    exact SoundB.step h hp h2
theorem WkB.trees {leaf : Bool} {N : Nat} {ps : List PdR} {L : List Bool} (h : WkB (saysB leaf (prsS ps)) (fun n => ∃ h, hgtB leaf (prsS ps) h n = true) N L (fun _ => False)) (hN : ∀ p ∈ prsS ps, p.left < N) : ∀ n, factB L n = hgtB leaf (prsS ps) N n :=
  bools_unique (leaf := leaf) (ps := prsS ps) (fun p hp h2 => by rw [h.closed p.left (hN p hp) (fun e => e), saysB_iff]; exact ⟨p, hp, rfl, h2⟩) h.sound (hgtB_closed leaf (prsS ps) N hN) (fun n hn => ⟨N, hn⟩)

set_option maxHeartbeats 4000000 in
theorem haveTrees_any (leaf : Bool) (t s : Int) (N : Nat) (ps : List PdR) (ls ss : List Int) (pv lv sv : Value) (w : World) (hG : GOkM N ps) (h : PdsM w pv ps) :
    Calls Tryz.prog 24 #[gv ⟨t, N, s, ps, ls, ss⟩ pv lv sv, .bool leaf] w fun e w' => ∃ B L, e = .returned (.slice (some ⟨B, 0, none⟩) N N) ∧ RowB w' B L ∧ L.length = N ∧ (∀ n, factB L n = hgtB leaf (prsS ps) N n) ∧ w.heap.size ≤ B ∧ Below w.heap.size w w' := by
  have hB0 := boxG_below w ⟨t, N, s, ps, ls, ss⟩ pv lv sv
  have hB1 := boxG_size w ⟨t, N, s, ps, ls, ss⟩ pv lv sv
  have hB2 := boxG_box w ⟨t, N, s, ps, ls, ss⟩ pv lv sv
  have hmf : ∀ (fn : Fn) (first cap : Array Value) (w : World), (Instr.makeFunc fn first cap).run Tryz.prog w = .ok (.func fn first cap) w := fun _ _ _ _ => rfl
  have hF0 := alloc_below (boxG w ⟨t, N, s, ps, ls, ss⟩ pv lv sv) (.cells #[.bool leaf] 4)
  have hF1 := alloc_size (boxG w ⟨t, N, s, ps, ls, ss⟩ pv lv sv) (.cells #[.bool leaf] 4)
  have hFc : VarF ((boxG w ⟨t, N, s, ps, ls, ss⟩ pv lv sv).alloc (.cells #[.bool leaf] 4)) (boxG w ⟨t, N, s, ps, ls, ss⟩ pv lv sv).heap.size leaf := by
    have h : ((boxG w ⟨t, N, s, ps, ls, ss⟩ pv lv sv).alloc (.cells #[.bool leaf] 4)).heap[(boxG w ⟨t, N, s, ps, ls, ss⟩ pv lv sv).heap.size]? = some (.cells #[.bool leaf] 4) := by
      show ((boxG w ⟨t, N, s, ps, ls, ss⟩ pv lv sv).heap.push _)[_]? = _
      exact Array.getElem?_push_size
    refine ⟨by omega, ?_⟩
    simp only [World.cell?, h]; rfl
  have hOP := ownProds_any t s N ps ls ss pv lv sv ((boxG w ⟨t, N, s, ps, ls, ss⟩ pv lv sv).alloc (.cells #[.bool leaf] 4)) hG.n hG.len (fun m hm => ⟨(hG.pd m hm).1.1, (hG.pd m hm).1.2.1⟩) ((h.below hB0).below hF0)
  obtain ⟨pa, pc, rfl⟩ := h.slice
  have HP : Hid (PdsM w (.slice pa ps.length pc) ps) := h
  have hB3 := hB2.below (K := (boxG w ⟨t, N, s, ps, ls, ss⟩ (.slice pa ps.length pc) lv sv).heap.size) (by omega) hF0
  have HBX : Hid (BoxG ((boxG w ⟨t, N, s, ps, ls, ss⟩ (.slice pa ps.length pc) lv sv).alloc (.cells #[.bool leaf] 4)) w.heap.size ⟨t, N, s, ps, ls, ss⟩ (.slice pa ps.length pc) lv sv) := hB3
  have hB4 : Below w.heap.size w ((boxG w ⟨t, N, s, ps, ls, ss⟩ (.slice pa ps.length pc) lv sv).alloc (.cells #[.bool leaf] 4)) := hB0.trans (hF0.mono (by omega))
  rw [hB1] at hF1 hFc
  clear h hB0 hB2 hF0
  unfold boxG gv gvs at hOP
  unfold boxG gvs at hB1 hB3 hB4 HBX hF1 hFc
  unfold gv gvs
  simp only at *
  obtain ⟨q0, q1, q2, q3, q4, q5, q6⟩ := hB3
  simp only at q0 q1 q2 q3 q4 q5 q6
  go_enter Tryz.func24, Tryz.ntmps24
  go_wp2_with fail
  refine hOP.mono ?_
  rintro e w2 ⟨rfl, hown, hb2⟩
  clear hOP q0 q1 q2 q3 q4 q5 q6
  try rw [hB1]
  clear hB1
  generalize (w.alloc (.cells #[.int .i64 t, .int .i64 N, .int .i64 s, .slice pa ps.length pc, lv, sv] 25)).alloc (.cells #[.bool leaf] 4) = w0 at *
  generalize w0.heap.size + 1 = DD at *
  have hb2' : Below w.heap.size w w2 := hB4.trans (hb2.mono (by omega))
  have hAb := alloc_below w2 (.cells #[.slice (some ⟨DD, 0, none⟩) N N] 52)
  have hAs := alloc_size w2 (.cells #[.slice (some ⟨DD, 0, none⟩) N N] 52)
  have HOM : Hid (OwnM (w2.alloc (.cells #[.slice (some ⟨DD, 0, none⟩) N N] 52)) w2.heap.size N (ownL ps)) := by
    have hd := hown.below hAb
    have h : (w2.alloc (.cells #[.slice (some ⟨DD, 0, none⟩) N N] 52)).heap[w2.heap.size]? = some (.cells #[.slice (some ⟨DD, 0, none⟩) N N] 52) := by
      show (w2.heap.push _)[w2.heap.size]? = _
      exact Array.getElem?_push_size
    refine ⟨DD, by rw [hAs]; omega, hd.1, ?_, hd.2⟩
    simp only [World.cell?, h]; rfl
  have HFC : Hid (VarF (w2.alloc (.cells #[.slice (some ⟨DD, 0, none⟩) N N] 52)) (w.heap.size + 1) leaf) := (hFc.below hb2).below hAb
  have hbx2 : Below w0.heap.size w0 (w2.alloc (.cells #[.slice (some ⟨DD, 0, none⟩) N N] 52)) := hb2.trans (hAb.mono hb2.size)
  obtain ⟨q0, q1, q2, q3, q4, q5, q6⟩ := HBX.out.below (show w.heap.size < w0.heap.size by omega) hbx2
  simp only at q0 q1 q2 q3 q4 q5 q6
  have hb3 : Below w.heap.size w (w2.alloc (.cells #[.slice (some ⟨DD, 0, none⟩) N N] 52)) := hb2'.trans (hAb.mono hb2'.size)
  have hWi := within_any t s N ps ls ss (.slice pa ps.length pc) lv sv (w2.alloc (.cells #[.slice (some ⟨DD, 0, none⟩) N N] 52)) hG.n hG.len hG.pd (HP.out.below hb3)
  unfold gv gvs at hWi
  simp only at hWi
  clear hown hbx2 hAb hFc
  have hlt2 : w2.heap.size < (w2.alloc (.cells #[.slice (some ⟨DD, 0, none⟩) N N] 52)).heap.size := by omega
  clear hAs
  go_wp2_with fail
  refine hWi.mono ?_
  rintro e w4 ⟨rfl, ⟨cnt, hlnk, hcb⟩, hb4⟩
  clear hWi q0 q1 q2 q3 q4 q5 q6
  generalize w2.alloc (.cells #[.slice (some ⟨DD, 0, none⟩) N N] 52) = w3 at *
  have hb4' : Below w.heap.size w w4 := hb3.trans (hb4.mono hb3.size)
  have hOM4 := HOM.out.below hb4
  have hFC4 := HFC.out.below hb4
  have hen : ∀ args w, (callFunc 46 args).run Tryz.prog w = .ok (.enter 46 args) w := enters_of Tryz.func46 (by kernel_rfl) rfl
  have hl : ∀ p ∈ ps, 0 ≤ p.left := fun p hp => (hG.mem hp).1.1
  have hSy : SaysG w4 46 (.pointer (some ⟨w2.heap.size, 0, none⟩)) (.pointer (some ⟨w.heap.size + 1, 0, none⟩)) N (saysB leaf (prsS ps)) := by
    intro w' L B n hn hL hv hb
    have := haveC_any N hG.n (ownL ps) L leaf B n w2.heap.size (w.heap.size + 1) hn w' (Nat.le_trans (ownL_len ps n) hG.len) (fun p hp => (hG.mem (List.mem_filter.1 hp).1).2) hL hv (hOM4.below hb) (hFC4.below hb)
    rw [anyB_says _ _ ps hl n] at this
    exact this
  have hLe := leastB_any N hG.n _ _ _ 10000 (by omega) (saysB_ok leaf N ps hl) 46 hen (.pointer (some ⟨w2.heap.size, 0, none⟩)) (.pointer (some ⟨w.heap.size + 1, 0, none⟩)) w4 (w3.heap.size + 1) _ cnt hlnk (fun n _ => Nat.le_trans (hcb n) (by omega)) (fun n k _ hk => hG.link n k hk) hSy
  have HLT : Hid (∀ p ∈ prsS ps, p.left < N) := fun q hq => by
    obtain ⟨p, hp, rfl⟩ := List.mem_map.1 hq
    have h1 := (hG.mem hp).1
    show p.left.toNat < N
    have h2 := h1.1; have h3 := h1.2.1
    omega
  clear hSy hOM4 hFC4 HFC HOM hlnk hcb hl
  go_wp2_with fail
  refine hLe.mono ?_
  rintro e w5 ⟨B, L, rfl, hrow, hwk, hB, hb5⟩
  have HRw : Hid (RowB w5 B L) := hrow
  have HWk : Hid (∀ n, factB L n = hgtB leaf (prsS ps) N n) := hwk.trees HLT.out
  have HLn : Hid (L.length = N) := hwk.len
  have hb5' : Below w.heap.size w w5 := hb4'.trans (hb5.mono hb4'.size)
  have hBl : w.heap.size ≤ B := Nat.le_trans hb4'.size hB
  clear hrow hwk hLe HLT
  go_wp2
  go_ret
  exact ⟨B, L, rfl, HRw.out, HLn.out, HWk.out, hBl, hb5'⟩

end Go.Proofs.YtkdoghaoijdedaaGreatDoor
