/- Texts of the proof, put together: GLsM1, GLpN. -/
import Derived.Test.YtmkimaceioacgaaDoorGk15
import Derived.Test.YtmkimaceioacgaaDoorGk16
import Derived.Deep.AppendLies
import Derived.Test.YtmkimaceioacgaaDoorGk12
namespace Go.Proofs.YtmkimaceioacgaaDoor
open Go.RowKit
open Go.Maps (Keyed)
set_option linter.unusedVariables false
set_option maxRecDepth 100000

set_option maxHeartbeats 8000000 in
theorem leastM1_any (N : Nat) (hN1 : 1 ≤ N) (hN : N ≤ 300) (say : SayM) (P : Nat → Nat → Prop) (R : Nat → Nat → Prop) (K : Nat) (hK : K ≤ 3000000) (hsk : SayOkM N say R P) (F : Nat) (hen : ∀ args w, (callFunc F args).run Tryd.prog w = .ok (.enter F args) w) (c1 : Value) (w : World) (D : Nat) (mp cnt : Nat → Nat) (hL : LinksM w D N mp cnt R) (hcn : ∀ n, n < N → cnt n ≤ K) (hlk : ∀ n k, n < N → R n k → k < N) (hS : SaysM1 w F c1 N say) :
    Calls Tryd.prog 44 #[mkV 0, .slice (some ⟨D, 0, none⟩) N N, .func (.func F) #[] #[c1]] w fun e w' => ∃ B L, e = .returned (.slice (some ⟨B, 0, none⟩) N N) ∧ RowM w' B L ∧ WkM say P N L (fun _ => False) ∧ w.heap.size ≤ B ∧ Below w.heap.size w w' := by
  obtain ⟨i0, hi0, hz0, hz1, hz2⟩ := infoParts Tryd.infoInt
  have HS : Hid (SaysM1 w F c1 N say) := hS
  have HPS : Hid (SayOkM N say R P) := hsk
  have hA0 := alloc_below w (.cells #[.int .u64 0, .int .u64 0, .int .u64 0, .int .u64 0, .int .u64 0] 76)
  have hA1 := alloc_size w (.cells #[.int .u64 0, .int .u64 0, .int .u64 0, .int .u64 0, .int .u64 0] 76)
  have HQ0 : Hid (BoxM (w.alloc (.cells #[.int .u64 0, .int .u64 0, .int .u64 0, .int .u64 0, .int .u64 0] 76)) w.heap.size 0) := alloc_at _ _
  have hA2 := alloc_below (w.alloc (.cells #[.int .u64 0, .int .u64 0, .int .u64 0, .int .u64 0, .int .u64 0] 76)) (.cells #[.int .u64 0, .int .u64 0, .int .u64 0, .int .u64 0, .int .u64 0] 76)
  have hA3 := alloc_size (w.alloc (.cells #[.int .u64 0, .int .u64 0, .int .u64 0, .int .u64 0, .int .u64 0] 76)) (.cells #[.int .u64 0, .int .u64 0, .int .u64 0, .int .u64 0, .int .u64 0] 76)
  have HQ1 : Hid (BoxM ((w.alloc (.cells #[.int .u64 0, .int .u64 0, .int .u64 0, .int .u64 0, .int .u64 0] 76)).alloc (.cells #[.int .u64 0, .int .u64 0, .int .u64 0, .int .u64 0, .int .u64 0] 76)) (w.heap.size + 1) 0) := by rw [← hA1]; exact alloc_at _ _
  have hRep := repeatM_any (w.heap.size + 1) 0 1 N hN1 hN ((w.alloc (.cells #[.int .u64 0, .int .u64 0, .int .u64 0, .int .u64 0, .int .u64 0] 76)).alloc (.cells #[.int .u64 0, .int .u64 0, .int .u64 0, .int .u64 0, .int .u64 0] 76)) (by omega) (fun j hj => by
    rw [Nat.zero_add]
    rcases j with _ | _ | _ | _ | _ | j
    · exact HQ1.out.c0
    · exact HQ1.out.c1
    · exact HQ1.out.c2
    · exact HQ1.out.c3
    · exact HQ1.out.c4
    · omega)
  have hb1 : Below w.heap.size w ((w.alloc (.cells #[.int .u64 0, .int .u64 0, .int .u64 0, .int .u64 0, .int .u64 0] 76)).alloc (.cells #[.int .u64 0, .int .u64 0, .int .u64 0, .int .u64 0, .int .u64 0] 76)) := hA0.trans (hA2.mono (by omega))
  have hF1' : w.heap.size ≤ ((w.alloc (.cells #[.int .u64 0, .int .u64 0, .int .u64 0, .int .u64 0, .int .u64 0] 76)).alloc (.cells #[.int .u64 0, .int .u64 0, .int .u64 0, .int .u64 0, .int .u64 0] 76)).heap.size := by omega
  have q0 := HQ0.out.c0
  have q1 := HQ0.out.c1
  have q2 := HQ0.out.c2
  have q3 := HQ0.out.c3
  have q4 := HQ0.out.c4
  have lq := HQ0.out.lt
  have HL : Hid (LinksM w D N mp cnt R) := hL
  have HCN : Hid (∀ n, n < N → cnt n ≤ K) := hcn
  have HLK : Hid (∀ n k, n < N → R n k → k < N) := hlk
  clear hS hL hcn hlk hsk
  unfold mkV mkA
  rw [show (((0 : Nat) : Int)) = 0 from rfl]
  go_enter Tryd.func44, Tryd.ntmps44
  go_wp2_with fail
  refine hRep.mono ?_
  rintro e w2 ⟨rfl, hrow2, hb2⟩
  clear hRep hA0 hA1 hA2 hA3 HQ0 HQ1 q0 q1 q2 q3 q4 lq
  generalize (w.alloc (.cells #[.int .u64 0, .int .u64 0, .int .u64 0, .int .u64 0, .int .u64 0] 76)).alloc (.cells #[.int .u64 0, .int .u64 0, .int .u64 0, .int .u64 0, .int .u64 0] 76) = w1 at *
  have hb2' : Below w.heap.size w w2 := hb1.trans (hb2.mono hF1')
  have hF1 : w.heap.size ≤ w1.heap.size := hF1'
  clear hF1' hb1
  have hTr := turned_any (HL.out.below hb2') hN HLK.out hK HCN.out
  generalize w1.heap.size = FB at *
  have HRw2 : Hid (RowM w2 FB (List.replicate N 0)) := hrow2
  clear hrow2 hb2 w1 HL HLK HCN
  go_wp2_with fail
  refine hTr.mono ?_
  rintro e w3 ⟨rfl, ⟨cn, hlnk, hcb⟩, hb3⟩
  clear hTr
  have hFT : FB < w2.heap.size := HRw2.out.lt
  have hb3' : Below w.heap.size w w3 := hb2'.trans (hb3.mono hb2'.size)
  have HRw3 : Hid (RowM w3 FB (List.replicate N 0)) := HRw2.out.grown (below_grownN hb3) (by simp)
  have hFN := firstNumbers_any N hN w3
  have HLn3 : Hid (LinksM w3 w2.heap.size N (fun n => w2.heap.size + 1 + n) cn (fun n k => k < N ∧ R k n)) := hlnk
  obtain ⟨K3, e3⟩ : ∃ k, k = 300 * K := ⟨_, rfl⟩
  have hK3 : K3 ≤ 900000000 := by omega
  have HCB : Hid (∀ n, cn n ≤ K3) := fun n => by have := hcb n; omega
  clear hcb e3 HRw2 hlnk hb2' hb3
  generalize w2.heap.size = TB at *
  go_wp2_with fail
  refine hFN.mono ?_
  rintro e w4 ⟨rfl, hrow4, hsz4, hb4⟩
  have hb4' : Below w.heap.size w w4 := hb3'.trans (hb4.mono hb3'.size)
  have HI0 : Hid (MsI w w4 FB TB N cn say P R K3 (.slice (some ⟨w3.heap.size, 0, none⟩) N N) (List.replicate N 0) (numsL N)) := by
    have hF3 := HRw3.out.lt
    refine ⟨HRw3.out.grown (below_grownN hb4) (by simp), WkM.start _ _ _ _ (fun n hn => ?_), ⟨_, N, by rw [numsL_len], .inr ⟨w3.heap.size, 0, rfl, hrow4.lt, by omega, fun j hj => by rw [Nat.zero_add]; exact hrow4.cell hj⟩⟩, fun x hx => ?_, HLn3.out.below hb4⟩
    · exact List.mem_map.2 ⟨n, List.mem_range.2 hn, rfl⟩
    · obtain ⟨n, hn, rfl⟩ := List.mem_map.1 hx
      have := List.mem_range.1 hn
      omega
  clear HRw3 HLn3 hrow4 hFN hb3' hb4 hsz4
  generalize w3.heap.size = AB at *
  go_wp2
  go_loopw [9] (fun av wr => ∃ (L : List Nat) (qs : List Int), Hid (MsI w wr FB TB N cn say P R K3 av L qs) ∧ qs.length ≤ N ∧ Below w.heap.size w wr) (fun av wr => 2 * rkM (rdM wr FB) + anyV av)
  case atStart => exact ⟨_, _, HI0, by rw [numsL_len]; exact Nat.le_refl _, hb4'⟩
  case round =>
    clear HI0 hb4'
    obtain ⟨L, qs, HI, hql, hbw⟩ := hrel
    obtain ⟨qa, qc, rfl⟩ := HI.out.ask.slice
    by_cases hq0 : qs.length = 0
    · have HE : Hid (WkM say P N L fun _ => False) := HI.out.wk.weaken fun n _ hn => by
        rw [List.eq_nil_of_length_eq_zero hq0] at hn
        simp at hn
      have HRow : Hid (RowM wr FB L) := HI.out.row
      rw [hq0] at *
      clear HI
      go_wp2
      go_ret
      exact ⟨FB, rfl, L, HRow.out, HE.out, hF1, hbw⟩
    · have HR0 : Hid (MrI wr wr FB N say P R K3 qs L 0 (.slice none 0 0) L []) := HI.out.start
      have HMS : Hid (2 * rkM (rdM wr FB) + anyV (.slice qa qs.length qc) = 2 * rkM L + 1) := by
        show _ = _
        rw [HI.out.row.rd, anyV_pos _ _ _ hq0]
      have hFl := HI.out.row.lt
      have hq1 : 0 < qs.length := by omega
      rename World => wo
      go_wp2
      go_loopw [10, 30] (fun gv jv wr => ∃ (j : Nat) (L' : List Nat) (zs : List Int), j ≤ qs.length ∧ jv = .int .i64 j ∧ Hid (MrI wo wr FB N say P R K3 qs L j gv L' zs)) (fun _ jv _ => qs.length - (intOf jv).toNat)
      case atStart => exact ⟨0, L, [], Nat.zero_le _, rfl, HR0⟩
      case round =>
        clear HR0
        obtain ⟨j, L', zs, hj, rfl, HR⟩ := hrel
        obtain ⟨ga, gc, rfl⟩ := HR.out.own.slice
        have hgr : Below w.heap.size w wr := hbw.trans (grown_below HR.out.gr hF1 hbw.size)
        by_cases hlt : j < qs.length
        · obtain ⟨b, off, rfl, hb, hc⟩ := (HI.out.ask.grown HR.out.gr).at hlt
          obtain ⟨hx0, hx1⟩ := HI.out.nms (qs.getD j 0) (by simp [List.getD, hlt])
          obtain ⟨n, hn⟩ : ∃ n : Nat, qs.getD j 0 = (n : Int) := ⟨(qs.getD j 0).toNat, by omega⟩
          have hnN : n < N := by omega
          rw [hn] at hc
          clear hx0 hx1
          have hlen := HR.out.wk.len
          have hCa := HS.out wr L' FB n hnN hlen HR.out.wk.lt HR.out.row hgr
          have HHN : Hid (qs.getD j 0 = (n : Int)) := hn
          have HLE : Hid (L'.length = N) := hlen
          clear hlen hn
          obtain ⟨z, hz⟩ : ∃ z, z = say (factM L') n := ⟨_, rfl⟩
          have HZ : Hid (z = say (factM L') n) := hz
          rw [← hz] at hCa
          clear hz
          unfold mkV mkA at hCa
          go_wp2_with fail
          refine hCa.mono ?_
          rintro e w5a ⟨rfl, hb5a⟩
          clear hCa hc
          have hA5 := alloc_below w5a (.cells #[.int .u64 z, .int .u64 0, .int .u64 0, .int .u64 0, .int .u64 0] 76)
          have hX : BoxM (w5a.alloc (.cells #[.int .u64 z, .int .u64 0, .int .u64 0, .int .u64 0, .int .u64 0] 76)) w5a.heap.size z := alloc_at _ _
          have x0 := hX.c0
          have x1 := hX.c1
          have x2 := hX.c2
          have x3 := hX.c3
          have x4 := hX.c4
          have x5 := hX.lt
          have hb5 : Below wr.heap.size wr (w5a.alloc (.cells #[.int .u64 z, .int .u64 0, .int .u64 0, .int .u64 0, .int .u64 0] 76)) := hb5a.trans (hA5.mono hb5a.size)
          have hrow5 : RowM (w5a.alloc (.cells #[.int .u64 z, .int .u64 0, .int .u64 0, .int .u64 0, .int .u64 0] 76)) FB L' := HR.out.row.grown (below_grownN hb5) (by simp)
          have cF0 := hrow5.c0 (j := n) (by rw [HLE.out]; exact hnN)
          have cF1 := hrow5.ck (j := n) (k := 1) (by rw [HLE.out]; exact hnN) (by omega) (by omega)
          have cF2 := hrow5.ck (j := n) (k := 2) (by rw [HLE.out]; exact hnN) (by omega) (by omega)
          have cF3 := hrow5.ck (j := n) (k := 3) (by rw [HLE.out]; exact hnN) (by omega) (by omega)
          have cF4 := hrow5.ck (j := n) (k := 4) (by rw [HLE.out]; exact hnN) (by omega) (by omega)
          have hF5 := hrow5.lt
          obtain ⟨y, hy⟩ : ∃ y, y = factM L' n := ⟨_, rfl⟩
          have HY : Hid (y = factM L' n) := hy
          rw [← hy] at cF0
          have HEQ : Hid (∀ W, (binOp .eql 76 (.agg #[.int .u64 z, .int .u64 0, .int .u64 0, .int .u64 0, .int .u64 0]) (.agg #[.int .u64 y, .int .u64 0, .int .u64 0, .int .u64 0, .int .u64 0])).run Tryd.prog W = .ok (.bool (z == y)) W) := fun W => eqM z y W
          clear hy hA5 hb5a hrow5 hX
          by_cases hzy : z = y
          · have HN2 : Hid (∀ w6, Below wr.heap.size wr w6 → MrI wo w6 FB N say P R K3 qs L (j + 1) (.slice ga zs.length gc) L' zs) := fun w6 h6 => HR.out.same hFl hlt hnN HHN.out h6 (by rw [← HZ.out, hzy, HY.out])
            have hzy2 : (z == y) = true := by rw [beq_iff_eq]; exact hzy
            have hEq := HEQ.out
            rw [hzy2] at hEq
            clear HR HZ HY hzy hzy2 HEQ
            go_wp2
            go_quiet (fail)
            go_wp2
            have HN3 := HN2.out _ (below_drewG hb5 nq)
            have HN4 : Hid (MrI wo _ FB N say P R K3 qs L (j + 1) (.slice ga zs.length gc) L' zs) := HN3
            go_roundw
            case rel => exact ⟨j + 1, _, _, by omega, by go_num, HN4⟩
            case measure => simp [intOf]; omega
          · have hzy2 : (z == y) = false := by rw [beq_eq_false_iff_ne]; exact hzy
            have hMl := (HI.out.lnk.keys n hnN).lt
            have HSet := fun (w6 : World) (hb6 : Below wr.heap.size wr w6) (left : Lit → Bool) (hl : ∀ k : Nat, k < N → R k n → left (.int .i64 (k : Int)) = true) (w7 : World) (hg7 : (fillO w6 FB (n * 5) (say (factM L') n)).grownBy w7 none) (rr : Nat) (hrr : wr.heap.size ≤ rr) => HR.out.set HPS.out hFl hlt hnN HHN.out hb6 (by rw [← HZ.out, ← HY.out]; exact hzy) left hl hg7 rr hrr
            rw [← HZ.out] at HSet
            have HSET : Hid (∀ (w6 : World), Below wr.heap.size wr w6 → ∀ (left : Lit → Bool) (hl : ∀ k : Nat, k < N → R k n → left (.int .i64 (k : Int)) = true) (w7 : World) (hg7 : (fillO w6 FB (n * 5) z).grownBy w7 none) (rr : Nat) (hrr : wr.heap.size ≤ rr), MmI wo w7 FB N say P R K3 qs j (.slice ga zs.length gc) (L'.set n z) zs left rr 0 ∧ rkM (L'.set n z) < rkM L) := HSet
            clear HSet
            have HG6 : Hid (∀ w6, Below wr.heap.size wr w6 → wo.grownBy (fillO w6 FB (n * 5) z) (some FB)) := fun w6 h6 => grown_more (grown_more HR.out.gr (below_grownN h6) (fun g e => by simp at e)) (fillO_grown w6 FB (n * 5) _) (fun g e => .inr (by simpa using e.symm))
            have HRW : Hid (∀ w6, Below wr.heap.size wr w6 → RowM w6 FB L') := fun w6 h6 => HR.out.row.grown (below_grownN h6) (by simp)
            have hwr : wo.heap.size ≤ wr.heap.size := HR.out.gr.size
            have hEq := HEQ.out
            rw [hzy2] at hEq
            clear HR HZ HY hzy hzy2 HEQ
            generalize L'.set n z = L2 at *
            go_wp2_with fail
            go_quiet (fail)
            have hb6 := below_drewG hb5 nq
            have x0' : ((w5a.alloc (.cells #[.int .u64 z, .int .u64 0, .int .u64 0, .int .u64 0, .int .u64 0] 76)).drewN nq).cell? ⟨w5a.heap.size, 0, none⟩ = some (.int .u64 z) := x0
            have x1' : ((w5a.alloc (.cells #[.int .u64 z, .int .u64 0, .int .u64 0, .int .u64 0, .int .u64 0] 76)).drewN nq).cell? ⟨w5a.heap.size, 1, none⟩ = some (.int .u64 0) := x1
            have x2' : ((w5a.alloc (.cells #[.int .u64 z, .int .u64 0, .int .u64 0, .int .u64 0, .int .u64 0] 76)).drewN nq).cell? ⟨w5a.heap.size, 2, none⟩ = some (.int .u64 0) := x2
            have x3' : ((w5a.alloc (.cells #[.int .u64 z, .int .u64 0, .int .u64 0, .int .u64 0, .int .u64 0] 76)).drewN nq).cell? ⟨w5a.heap.size, 3, none⟩ = some (.int .u64 0) := x3
            have x4' : ((w5a.alloc (.cells #[.int .u64 z, .int .u64 0, .int .u64 0, .int .u64 0, .int .u64 0] 76)).drewN nq).cell? ⟨w5a.heap.size, 4, none⟩ = some (.int .u64 0) := x4
            have x5' : w5a.heap.size < ((w5a.alloc (.cells #[.int .u64 z, .int .u64 0, .int .u64 0, .int .u64 0, .int .u64 0] 76)).drewN nq).heap.size := x5
            generalize (w5a.alloc (.cells #[.int .u64 z, .int .u64 0, .int .u64 0, .int .u64 0, .int .u64 0] 76)).drewN nq = w6 at *
            clear x0 x1 x2 x3 x4 x5 cF0 cF1 cF2 cF3 cF4 hF5 hb5 hEq
            have hrow6 := HRW.out w6 hb6
            have cF0 := hrow6.c0 (j := n) (by rw [HLE.out]; exact hnN)
            have cF1 := hrow6.ck (j := n) (k := 1) (by rw [HLE.out]; exact hnN) (by omega) (by omega)
            have cF2 := hrow6.ck (j := n) (k := 2) (by rw [HLE.out]; exact hnN) (by omega) (by omega)
            have cF3 := hrow6.ck (j := n) (k := 3) (by rw [HLE.out]; exact hnN) (by omega) (by omega)
            have cF4 := hrow6.ck (j := n) (k := 4) (by rw [HLE.out]; exact hnN) (by omega) (by omega)
            have fz0 := hrow6.fz (n * 5)
            have fz1 := hrow6.fz (n * 5 + 1)
            have fz2 := hrow6.fz (n * 5 + 2)
            have fz3 := hrow6.fz (n * 5 + 3)
            have fz4 := hrow6.fz (n * 5 + 4)
            have hF6 := hrow6.lt
            generalize factM L' n = y2 at cF0
            clear hrow6
            have hg6 := HG6.out w6 hb6
            have hO := HI.out.lnk.grown hg6 (by omega) (fun m hm => by show TB + 1 + m ≠ FB; omega)
            have hTl := hO.lt
            have cT := hO.cell n hnN
            obtain ⟨D0, hown, him, hkeys⟩ := hO.keys n hnN
            have HK : Hid (∀ kl, Maps.has D0 kl = true ↔ ∃ q : Nat, kl = .int .i64 q ∧ (q < N ∧ R q n)) := hkeys
            have HSZ : Hid (Maps.size D0 ≤ K3) := Nat.le_trans hown.size_le (HCB.out n)
            have hs5 : wr.heap.size ≤ w6.heap.size := hb6.size
            clear hO hkeys him
            unfold fillO at hown cT hTl
            go_wp2_with (first
              | (at_range; refine wpList_range_own _ rfl _ 92 rfl 3 3 Tryd.lawIntG Tryd.underlying92 _ (TB + 1 + n) (cn n) _ rfl hown ?_; intro w7 hrg0 hg0 hs0)
              | go_in)
            go_frame
            have e6 : (((((w6.setCell ⟨FB, n * 5, none⟩ (.int .u64 z)).setCell ⟨FB, n * 5 + 1, none⟩ (.int .u64 0)).setCell ⟨FB, n * 5 + 2, none⟩ (.int .u64 0)).setCell ⟨FB, n * 5 + 3, none⟩ (.int .u64 0)).setCell ⟨FB, n * 5 + 4, none⟩ (.int .u64 0)).heap.size = w6.heap.size := by simp
            rw [e6] at hrg0 hs0
            try rw [e6]
            obtain ⟨hm0, hrk⟩ := HSET.out w6 hb6 (Maps.has D0) (fun k hk h => (HK.out _).2 ⟨k, rfl, hk, h⟩) w7 hg0 w6.heap.size hs5
            have HM0 : Hid (MmI wo w7 FB N say P R K3 qs j (.slice ga zs.length gc) L2 zs (Maps.has D0) w6.heap.size (Maps.size D0 - Maps.size D0)) := by rw [Nat.sub_self]; exact hm0
            have HRK : Hid (rkM L2 < rkM L) := hrk
            clear hm0 hrk HSET HG6 HRW hg0 hown hg6 e6 cT hTl cF0 cF1 cF2 cF3 cF4 fz0 fz1 fz2 fz3 fz4 hF6 x0' x1' x2' x3' x4' x5'
            have hrr0 : wo.heap.size ≤ w6.heap.size := by omega
            have hmr : TB + 1 + n < w6.heap.size := by omega
            have hwo : TB + 1 + n < wo.heap.size := hMl
            clear hs5 hb6 hwr hMl
            generalize w6.heap.size = rr at *
            go_loopw [10] (fun gv wr => ∃ (left : Lit → Bool) (ct : Nat) (zs : List Int), wr.ranges Tryd.prog 3 (plainElem Tryd.prog 3) (TB + 1 + n) rr (cn n) D0 left ct ∧ ct ≤ Maps.size D0 ∧ Hid (MmI wo wr FB N say P R K3 qs j gv L2 zs left rr (Maps.size D0 - ct)) ∧ Hid (∀ kl, left kl = true → Maps.has D0 kl = true) ∧ rr < wr.heap.size) (fun _ wr => wr.rangeLeft (TB + 1 + n) rr)
            case atStart => exact ⟨_, _, zs, hrg0, Nat.le_refl _, HM0, (fun kl h => h), by omega⟩
            case round =>
              clear HM0 hrg0 hs0
              obtain ⟨left, ct, zs, hrg, hcs, HM, HF, hsz⟩ := hrel
              obtain ⟨ga, gc, rfl⟩ := HM.out.own.slice
              go_wp2_with (first
                | (at_next; refine wpList_next_ranges_ii _ rfl _ rfl 3 3 .i64 .i64 Tryd.lawIntG Tryd.underlying3 Tryd.underlying3 (TB + 1 + n) rr (cn n) _ _ _ rfl hrg ?_ ?_)
                | go_in)
              · intro hc0 hl0
                have HN2 : Hid (MrI wo wr FB N say P R K3 qs L (j + 1) (.slice ga zs.length gc) L2 zs) := HM.out.done hl0 (by have := HSZ.out; omega) HRK.out
                clear HM hl0
                go_wp2
                go_roundw
                case rel => exact ⟨j + 1, _, _, by omega, by go_num, HN2⟩
                case measure => simp [intOf]; omega
              · intro x p w8 ct1 hwx hwc hlx hat hrg1 hlt1 hg1 hs1 hen1
                obtain ⟨q, hq, hqN, hrq⟩ := (HK.out _).1 (HF.out _ hlx)
                obtain rfl : x = (q : Int) := by simpa using hq
                have hown8 : ∀ o, (w8.alloc o).ownsRow wo.heap.size 3 1 (.slice ga zs.length gc) zs.length (zs.map (Value.int .i64)) := fun o => World.ownsRow.alloc (HM.out.own.kept hg1 (.inr HM.out.ne)) o
                have hzl : zs.length ≤ 301 * 900000000 := by
                  have h1 := HM.out.len
                  have h2 := HSZ.out
                  have h3 : j * K3 ≤ 300 * 900000000 := Nat.mul_le_mul (by omega) hK3
                  omega
                have hw8 : wo.heap.size ≤ w8.heap.size := by omega
                have HSTP : Hid (∀ o w9 g9 cap9, w9.ownsRow wo.heap.size 3 1 (.slice (some ⟨g9, 0, none⟩) (zs.length + 1) cap9) (zs.length + 1) (zs.map (Value.int .i64) ++ [.int .i64 (q : Int)]) → (w8.alloc o).grownBy w9 (Value.slice ga zs.length gc).ownBlock → ((Value.slice ga zs.length gc).ownBlock = some g9 ∨ g9 = w8.heap.size + 1) →
                    MmI wo w9 FB N say P R K3 qs j (.slice (some ⟨g9, 0, none⟩) (zs.length + 1) cap9) L2 (zs ++ [(q : Int)]) (fun z => left z && !z.sameKey (.int .i64 (q : Int))) rr (Maps.size D0 - ct1) ∧ w9.ranges Tryd.prog 3 (plainElem Tryd.prog 3) (TB + 1 + n) rr (cn n) D0 (fun z => left z && !z.sameKey (.int .i64 (q : Int))) ct1 ∧ rr < w9.heap.size) := by
                  intro o w9 g9 cap9 h1 h2 h3
                  have hol : ∀ b, (Value.slice ga zs.length gc).ownBlock = some b → wo.heap.size ≤ b ∧ b < wr.heap.size := fun b hb => HM.out.own.lt b hb
                  refine ⟨?_, ?_, ?_⟩
                  · have := HM.out.step (o := o) hFl hrr0 hsz hqN hg1 h1 h2 h3
                    exact this.more (by omega)
                  · have hgA : w8.grownBy (w8.alloc o) none := World.grownBy_alloc w8 o none
                    refine (hrg1.kept hgA (by simp) (by simp)).kept h2 (fun e => ?_) (fun e => ?_)
                    · have := hol _ e.symm; omega
                    · exact HM.out.ne e.symm
                  · have := h2.size
                    simp at this
                    omega
                clear hq hrq HM hrg1 hs1
                go_wp2_with (at_builtin; refine wpList_append_lies _ rfl _ _ 23 rfl wo.heap.size 3 i0 (.int .i64 0) 1 8 Tryd.underlying23 hi0 hz0 hz1 hz2 rfl (by decide) (.slice ga zs.length gc) zs.length (zs.map (Value.int .i64)) rfl (hown8 _) ⟨w8.heap.size, 0, none⟩ 1 1 [.int .i64 (q : Int)] rfl rfl ?c1 ?c2 ?c3 ?c4 ?c5 ?c6 (w8.heap.size + 1) ?c7 ?_)
                case c1 => exact cell_one_new w8 _ _
                case c2 => intro x hx; simp at hx; subst hx; rfl
                case c3 => omega
                case c4 => unfold maxLen; omega
                case c5 => omega
                case c6 => simp; omega
                case c7 => simp
                intro g9 cap9 w9 hown9 hg9 hat9 hlt9
                obtain ⟨q1, q2, q3⟩ := HSTP.out _ w9 g9 cap9 hown9 hg9 hat9
                have Q1 : Hid (MmI wo w9 FB N say P R K3 qs j (.slice (some ⟨g9, 0, none⟩) (zs.length + 1) cap9) L2 (zs ++ [(q : Int)]) (fun z => left z && !z.sameKey (.int .i64 (q : Int))) rr (Maps.size D0 - ct1)) := q1
                clear q1 hown9 hg9 hat9 hlt9 HSTP hown8
                go_wp2
                go_roundw
                case rel => exact ⟨_, ct1, _, q2, by omega, Q1, (fun kl hkl => HF.out kl (by simp only [Bool.and_eq_true] at hkl; exact hkl.1)), q3⟩
                case measure => rw [q2.left_eq, hrg.left_eq]; exact hlt1
        · obtain rfl : j = qs.length := by omega
          have hzl : zs.length ≤ 1000000000000 := by
            have h1 := HR.out.len
            have h3 : qs.length * K3 ≤ 300 * 900000000 := Nat.mul_le_mul (by omega) hK3
            omega
          have hSo := sortI_any HR.out.own hzl
          go_wp2_with fail
          refine hSo.mono ?_
          rintro e w8 ⟨rfl, hown8, hg8⟩
          have hCo := compactI_any (F := FB) hown8 hFl (by rw [len_sortI]; exact hzl)
          clear hSo hown8
          go_wp2_with fail
          refine hCo.mono ?_
          rintro e w9 ⟨v', rfl, hask, hg9⟩
          clear hCo
          obtain ⟨h1, h2, h3, h4⟩ := HR.out.next HI.out hFT hg8 hg9 hask
          have HI9 : Hid (MsI w w9 FB TB N cn say P R K3 v' L' (Lib.compact (zs.mergeSort fun x y => decide (x ≤ y)))) := h1
          have hb9 : Below w.heap.size w w9 := hbw.trans (grown_below h3 hF1 hbw.size)
          have HMS2 : Hid (2 * rkM (rdM w9 FB) + anyV v' < 2 * rkM (rdM wo FB) + anyV (.slice qa qs.length qc)) := by
            show _ < _
            rw [HMS.out, h1.row.rd]
            exact h4
          obtain ⟨na, nc, rfl⟩ := hask.slice
          clear h1 h3 h4 hg8 hg9 hask HR
          go_wp2
          go_roundw
          case rel => exact ⟨_, _, HI9, h2, hb9⟩
          case measure => exact HMS2.out

end Go.Proofs.YtmkimaceioacgaaDoor

namespace Go.Proofs.YtmkimaceioacgaaDoor
open Go.RowKit
set_option linter.unusedVariables false
set_option maxRecDepth 100000

def alkB (e : Nat → Bool) (ps : List PdR) (n k : Nat) : Bool := ps.any fun p => decide (p.left = (n : Int)) && (List.range p.right.length).any fun i => alkAt e p.right i && decide (-1 - p.right.getD i 0 = (k : Int))
theorem alkB_iff (e : Nat → Bool) (ps : List PdR) (n k : Nat) : alkB e ps n k = true ↔ alkR e ps ps.length n k := by
  unfold alkB alkR PdAlk
  rw [List.any_eq_true]
  constructor
  · rintro ⟨p, hp, h⟩
    rw [Bool.and_eq_true, decide_eq_true_eq, List.any_eq_true] at h
    obtain ⟨h1, i, hi, h2⟩ := h
    rw [Bool.and_eq_true, decide_eq_true_eq] at h2
    obtain ⟨q, hq, e⟩ := List.mem_iff_getElem.1 hp
    have e2 : ps.getD q noPd = p := by simp [List.getD, hq, e]
    exact ⟨q, hq, by rw [e2]; exact ⟨h1, i, List.mem_range.1 hi, h2.1, h2.2⟩⟩
  · rintro ⟨q, hq, h1, i, hi, h2, h3⟩
    refine ⟨ps.getD q noPd, by simp [List.getD, hq], ?_⟩
    rw [Bool.and_eq_true, decide_eq_true_eq, List.any_eq_true]
    exact ⟨h1, i, List.mem_range.2 hi, by rw [Bool.and_eq_true, decide_eq_true_eq]; exact ⟨h2, h3⟩⟩
theorem alkB_lt {N : Nat} {ps : List PdR} (hG : GOkM N ps) (e : Nat → Bool) (n k : Nat) (h : alkB e ps n k = true) : k < N := by
  obtain ⟨q, hq, _, i, hi, h1, h2⟩ := (alkB_iff e ps n k).1 h
  have := (hG.pd q hq).1.2.2.2 i hi
  unfold alkAt at h1
  rw [Bool.and_eq_true, decide_eq_true_eq] at h1
  omega
/-- a name loops -/
def loopP (N : Nat) (ps : List PdR) (n : Nat) : Prop := pathP (fun a b => b < N ∧ alkB (hgtB false (prsS (wholeP N ps)) N) (wholeP N ps) a b = true) N n n

end Go.Proofs.YtmkimaceioacgaaDoor
