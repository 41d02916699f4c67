/- The program: the first of the shortest sentences of each name. -/
import Derived.Test.YtbgnhegfabpjnaaGSnC
import Derived.Test.YtbgnhegfabpjnaaGLsW
namespace Go.Proofs.Ytbgnhegfabpjnaa
open Go.RowKit
set_option linter.unusedVariables false
set_option maxRecDepth 100000

set_option maxHeartbeats 4000000 in
theorem sentences_any (t s : Int) (N : Nat) (ps : List PdR) (ls ss : List Int) (pv lv sv : Value) (w : World) (hG : GOkM N ps) (hN1 : 1 ≤ N) (h3 : ∀ p ∈ ps, ∀ x ∈ p.right, x ≤ 300) (h : PdsM w pv ps) :
    Calls Try.prog 13 #[gv ⟨t, N, s, ps, ls, ss⟩ pv lv sv] w fun e w' => ∃ B L, e = .returned (.slice (some ⟨B, 0, none⟩) N N) ∧ RowS w' B L ∧ WkT ps N L (fun _ => False) ∧ w.heap.size ≤ B ∧ Below w.heap.size w w' := by
  have hB0 := boxG_below w ⟨t, N, s, ps, ls, ss⟩ pv lv sv
  have hB1 := boxG_size w ⟨t, N, s, ps, ls, ss⟩ pv lv sv
  have hB2 := boxG_box w ⟨t, N, s, ps, ls, ss⟩ pv lv sv
  have hmf : ∀ (fn : Fn) (first cap : Array Value) (w : World), (Instr.makeFunc fn first cap).run Try.prog w = .ok (.func fn first cap) w := fun _ _ _ _ => rfl
  have hOP := ownProds_any t s N ps ls ss pv lv sv (boxG w ⟨t, N, s, ps, ls, ss⟩ pv lv sv) hG.n hG.len (fun m hm => ⟨(hG.pd m hm).1.1, (hG.pd m hm).1.2.1⟩) (h.below hB0)
  obtain ⟨pa, pc, rfl⟩ := h.slice
  have HP : Hid (PdsM w (.slice pa ps.length pc) ps) := h
  have HBX : Hid (BoxG (boxG w ⟨t, N, s, ps, ls, ss⟩ (.slice pa ps.length pc) lv sv) w.heap.size ⟨t, N, s, ps, ls, ss⟩ (.slice pa ps.length pc) lv sv) := hB2
  clear h
  unfold boxG gv gvs at hOP
  unfold boxG gvs at hB0 hB1 hB2 HBX
  unfold gv gvs
  simp only at *
  obtain ⟨q0, q1, q2, q3, q4, q5, q6⟩ := hB2
  simp only at q0 q1 q2 q3 q4 q5 q6
  go_enter Try.func13, Try.ntmps13
  go_wp2_with fail
  refine hOP.mono ?_
  rintro e w2 ⟨rfl, hown, hb2⟩
  clear hOP q0 q1 q2 q3 q4 q5 q6
  generalize w.alloc (.cells #[.int .i64 t, .int .i64 N, .int .i64 s, .slice pa ps.length pc, lv, sv] 25) = w0 at *
  generalize w0.heap.size + 1 = DD at *
  have hb2' : Below w.heap.size w w2 := hB0.trans (hb2.mono (by omega))
  have hAb := alloc_below w2 (.cells #[.slice (some ⟨DD, 0, none⟩) N N] 41)
  have hAs := alloc_size w2 (.cells #[.slice (some ⟨DD, 0, none⟩) N N] 41)
  have HOM : Hid (OwnM (w2.alloc (.cells #[.slice (some ⟨DD, 0, none⟩) N N] 41)) w2.heap.size N (ownL ps)) := by
    have hd := hown.below hAb
    have h : (w2.alloc (.cells #[.slice (some ⟨DD, 0, none⟩) N N] 41)).heap[w2.heap.size]? = some (.cells #[.slice (some ⟨DD, 0, none⟩) N N] 41) := by
      show (w2.heap.push _)[w2.heap.size]? = _
      exact Array.getElem?_push_size
    refine ⟨DD, by rw [hAs]; omega, hd.1, ?_, hd.2⟩
    simp only [World.cell?, h]; rfl
  have hbx2 : Below (w.heap.size + 1) w0 (w2.alloc (.cells #[.slice (some ⟨DD, 0, none⟩) N N] 41)) := by
    have := hb2.trans (hAb.mono hb2.size)
    rw [hB1] at this
    exact this
  obtain ⟨q0, q1, q2, q3, q4, q5, q6⟩ := HBX.out.below (Nat.lt_succ_self _) hbx2
  simp only at q0 q1 q2 q3 q4 q5 q6
  have hb3 : Below w.heap.size w (w2.alloc (.cells #[.slice (some ⟨DD, 0, none⟩) N N] 41)) := hb2'.trans (hAb.mono hb2'.size)
  have hWi := within_any t s N ps ls ss (.slice pa ps.length pc) lv sv (w2.alloc (.cells #[.slice (some ⟨DD, 0, none⟩) N N] 41)) hG.n hG.len hG.pd (HP.out.below hb3)
  unfold gv gvs at hWi
  simp only at hWi
  clear hown hbx2 hAb
  have hlt2 : w2.heap.size < (w2.alloc (.cells #[.slice (some ⟨DD, 0, none⟩) N N] 41)).heap.size := by omega
  clear hAs
  go_wp2_with fail
  refine hWi.mono ?_
  rintro e w4 ⟨rfl, ⟨cnt, hlnk, hcb⟩, hb4⟩
  clear hWi q0 q1 q2 q3 q4 q5 q6
  generalize w2.alloc (.cells #[.slice (some ⟨DD, 0, none⟩) N N] 41) = w3 at *
  have hb4' : Below w.heap.size w w4 := hb3.trans (hb4.mono hb3.size)
  have hOM4 := HOM.out.below hb4
  have hen : ∀ args w, (callFunc 25 args).run Try.prog w = .ok (.enter 25 args) w := enters_of Try.func25 (by kernel_rfl) rfl
  have hSy : SaysT w4 25 (.pointer (some ⟨w2.heap.size, 0, none⟩)) N ps := by
    intro w' L v n hn hL hok hv hb
    exact sentencesC_any N hG.n (ownL ps) L v n w2.heap.size hn w' (Nat.le_trans (ownL_len ps n) hG.len) (fun p hp => ⟨(hG.mem (List.mem_filter.1 hp).1).2, h3 p (List.mem_filter.1 hp).1⟩) hL hok hv (hOM4.below hb)
  have hLe := leastS_any N hN1 hG.n ps (fun p hp => (hG.mem hp).1.1) h3 25 hen (.pointer (some ⟨w2.heap.size, 0, none⟩)) w4 (w3.heap.size + 1) _ cnt hlnk (fun n _ => Nat.le_trans (hcb n) (by omega)) (fun n k _ hk => hG.link n k hk) hSy ByteArray.empty rfl
  clear hSy hOM4 HOM hlnk hcb
  go_wp2_with fail
  refine hLe.mono ?_
  rintro e w5 ⟨B, L, rfl, hrow, hwk, hB, hb5⟩
  have HRw : Hid (RowS w5 B L) := hrow
  have HWk : Hid (WkT ps N L fun _ => False) := hwk
  have hb5' : Below w.heap.size w w5 := hb4'.trans (hb5.mono hb4'.size)
  have hBl : w.heap.size ≤ B := Nat.le_trans hb4'.size hB
  clear hrow hwk hLe
  go_wp2
  go_ret
  exact ⟨B, L, rfl, HRw.out, HWk.out, hBl, hb5'⟩

end Go.Proofs.Ytbgnhegfabpjnaa
