/- Texts of the proof, put together: GLsBW. -/
import Derived.Test.YtmkimaceioacgaaDoorGk09
import Derived.Deep.AppendLies
namespace Go.Proofs.YtmkimaceioacgaaDoor
open Go.RowKit
open Go.Maps (Keyed)
set_option linter.unusedVariables false
set_option maxRecDepth 100000

set_option maxHeartbeats 8000000 in
theorem leastB_any (N : Nat) (hN : N ≤ 300) (say : SayB) (P : Nat → Prop) (R : Nat → Nat → Prop) (K : Nat) (hK : K ≤ 3000000) (hsk : SayOk N say R P) (F : Nat) (hen : ∀ args w, (callFunc F args).run Tryd.prog w = .ok (.enter F args) w) (c1 c2 : Value) (w : World) (D : Nat) (mp cnt : Nat → Nat) (hL : LinksM w D N mp cnt R) (hcn : ∀ n, n < N → cnt n ≤ K) (hlk : ∀ n k, n < N → R n k → k < N) (hS : SaysG w F c1 c2 N say) :
    Calls Tryd.prog 39 #[.bool false, .slice (some ⟨D, 0, none⟩) N N, .func (.func F) #[] #[c1, c2]] w fun e w' => ∃ B L, e = .returned (.slice (some ⟨B, 0, none⟩) N N) ∧ RowB w' B L ∧ WkB say P N L (fun _ => False) ∧ w.heap.size ≤ B ∧ Below w.heap.size w w' := by
  obtain ⟨i0, hi0, hz0, hz1, hz2⟩ := infoParts Tryd.infoInt
  have HS : Hid (SaysG w F c1 c2 N say) := hS
  have HPS : Hid (SayOk N say R P) := hsk
  have hA := alloc_below w (.cells #[.bool false] 4)
  have hAs := alloc_size w (.cells #[.bool false] 4)
  have hAc : (w.alloc (.cells #[.bool false] 4)).cell? ⟨w.heap.size, 0, none⟩ = some (.bool false) := by
    have h : (w.alloc (.cells #[.bool false] 4)).heap[w.heap.size]? = some (.cells #[.bool false] 4) := by
      show (w.heap.push _)[w.heap.size]? = _
      exact Array.getElem?_push_size
    simp only [World.cell?, h]; rfl
  have HL : Hid (LinksM w D N mp cnt R) := hL
  have HCN : Hid (∀ n, n < N → cnt n ≤ K) := hcn
  have HLK : Hid (∀ n k, n < N → R n k → k < N) := hlk
  have HR : Hid (∀ w1 : World, w1.heap.size = w.heap.size + 1 → w1.cell? ⟨w.heap.size, 0, none⟩ = some (.bool false) → _) := fun w1 h1 h2 => repeatB_any false w.heap.size 0 1 N hN w1 (by omega) h2
  clear hS hL hcn hlk hsk
  have hRep := HR.out (w.alloc (.cells #[.bool false] 4)) hAs hAc
  go_enter Tryd.func39, Tryd.ntmps39
  go_wp2_with fail
  refine hRep.mono ?_
  rintro e w2 ⟨rfl, hrow2, hb2⟩
  clear HR hRep
  generalize w.alloc (.cells #[.bool false] 4) = w1 at *
  have hb2' : Below w.heap.size w w2 := hA.trans (hb2.mono (by omega))
  have hF1 : w.heap.size ≤ w1.heap.size := by omega
  have hTr := turned_any (HL.out.below hb2') hN HLK.out hK HCN.out
  generalize w1.heap.size = FB at *
  have HRw2 : Hid (RowB w2 FB (List.replicate N false)) := hrow2
  clear hrow2 hA hAs hAc hb2 w1 HL HLK HCN
  go_wp2_with fail
  refine hTr.mono ?_
  rintro e w3 ⟨rfl, ⟨cn, hlnk, hcb⟩, hb3⟩
  clear hTr
  have hFT : FB < w2.heap.size := HRw2.out.lt
  have hb3' : Below w.heap.size w w3 := hb2'.trans (hb3.mono hb2'.size)
  have HRw3 : Hid (RowB w3 FB (List.replicate N false)) := HRw2.out.grown (below_grownN hb3) (by simp)
  have hFN := firstNumbers_any N hN w3
  have HLn3 : Hid (LinksM w3 w2.heap.size N (fun n => w2.heap.size + 1 + n) cn (fun n k => k < N ∧ R k n)) := hlnk
  obtain ⟨K3, e3⟩ : ∃ k, k = 300 * K := ⟨_, rfl⟩
  have hK3 : K3 ≤ 900000000 := by omega
  have HCB : Hid (∀ n, cn n ≤ K3) := fun n => by have := hcb n; omega
  clear hcb e3 HRw2 hlnk hb2' hb3
  generalize w2.heap.size = TB at *
  go_wp2_with fail
  refine hFN.mono ?_
  rintro e w4 ⟨rfl, hrow4, hsz4, hb4⟩
  have hb4' : Below w.heap.size w w4 := hb3'.trans (hb4.mono hb3'.size)
  have HI0 : Hid (BsI w w4 FB TB N cn say P R K3 (.slice (some ⟨w3.heap.size, 0, none⟩) N N) (List.replicate N false) (numsL N)) := by
    have hF3 := HRw3.out.lt
    refine ⟨HRw3.out.grown (below_grownN hb4) (by simp), WkB.start _ _ _ _ (fun n hn => ?_), ⟨_, N, by rw [numsL_len], .inr ⟨w3.heap.size, 0, rfl, hrow4.lt, by omega, fun j hj => by rw [Nat.zero_add]; exact hrow4.cell hj⟩⟩, fun x hx => ?_, HLn3.out.below hb4⟩
    · exact List.mem_map.2 ⟨n, List.mem_range.2 hn, rfl⟩
    · obtain ⟨n, hn, rfl⟩ := List.mem_map.1 hx
      have := List.mem_range.1 hn
      omega
  clear HRw3 HLn3 hrow4 hFN hb3' hb4 hsz4
  generalize w3.heap.size = AB at *
  go_wp2
  go_loopw [9] (fun av wr => ∃ (L : List Bool) (qs : List Int), Hid (BsI w wr FB TB N cn say P R K3 av L qs) ∧ qs.length ≤ N ∧ Below w.heap.size w wr) (fun av wr => 2 * rkB (rdB wr FB) + anyV av)
  case atStart => exact ⟨_, _, HI0, by rw [numsL_len]; exact Nat.le_refl _, hb4'⟩
  case round =>
    clear HI0 hb4'
    obtain ⟨L, qs, HI, hql, hbw⟩ := hrel
    obtain ⟨qa, qc, rfl⟩ := HI.out.ask.slice
    by_cases hq0 : qs.length = 0
    · have HE : Hid (WkB say P N L fun _ => False) := HI.out.wk.weaken fun n _ hn => by
        rw [List.eq_nil_of_length_eq_zero hq0] at hn
        simp at hn
      have HRow : Hid (RowB wr FB L) := HI.out.row
      rw [hq0] at *
      clear HI
      go_wp2
      go_ret
      exact ⟨FB, rfl, L, HRow.out, HE.out, hF1, hbw⟩
    · have HR0 : Hid (BrI wr wr FB N say P R K3 qs L 0 (.slice none 0 0) L []) := HI.out.start
      have HMS : Hid (2 * rkB (rdB wr FB) + anyV (.slice qa qs.length qc) = 2 * rkB L + 1) := by
        show _ = _
        rw [HI.out.row.rd, anyV_pos _ _ _ hq0]
      have hFl := HI.out.row.lt
      have hq1 : 0 < qs.length := by omega
      rename World => wo
      go_wp2
      go_loopw [10, 30] (fun gv jv wr => ∃ (j : Nat) (L' : List Bool) (zs : List Int), j ≤ qs.length ∧ jv = .int .i64 j ∧ Hid (BrI wo wr FB N say P R K3 qs L j gv L' zs)) (fun _ jv _ => qs.length - (intOf jv).toNat)
      case atStart => exact ⟨0, L, [], Nat.zero_le _, rfl, HR0⟩
      case round =>
        clear HR0
        obtain ⟨j, L', zs, hj, rfl, HR⟩ := hrel
        obtain ⟨ga, gc, rfl⟩ := HR.out.own.slice
        have hgr : Below w.heap.size w wr := hbw.trans (grown_below HR.out.gr hF1 hbw.size)
        by_cases hlt : j < qs.length
        · obtain ⟨b, off, rfl, hb, hc⟩ := (HI.out.ask.grown HR.out.gr).at hlt
          obtain ⟨hx0, hx1⟩ := HI.out.nms (qs.getD j 0) (by simp [List.getD, hlt])
          obtain ⟨n, hn⟩ : ∃ n : Nat, qs.getD j 0 = (n : Int) := ⟨(qs.getD j 0).toNat, by omega⟩
          have hnN : n < N := by omega
          rw [hn] at hc
          clear hx0 hx1
          have hlen := HR.out.wk.len
          have hCa := HS.out wr L' FB n hnN hlen HR.out.row hgr
          have HHN : Hid (qs.getD j 0 = (n : Int)) := hn
          have HLE : Hid (L'.length = N) := hlen
          clear hlen hn
          go_wp2_with fail
          refine hCa.mono ?_
          rintro e w5 ⟨rfl, hb5⟩
          clear hCa hc
          have hrow5 : RowB w5 FB L' := HR.out.row.grown (below_grownN hb5) (by simp)
          have cF := hrow5.cell (j := n) (by rw [HLE.out]; exact hnN)
          have fzF := hrow5.fz n
          have hF5 := hrow5.lt
          obtain ⟨z, hz⟩ : ∃ z, z = say (factB L') n := ⟨_, rfl⟩
          have HZ : Hid (z = say (factB L') n) := hz
          rw [← hz]
          clear hz
          obtain ⟨y, hy⟩ : ∃ y, y = factB L' n := ⟨_, rfl⟩
          have HY : Hid (y = factB L' n) := hy
          rw [← hy] at cF
          clear hy
          by_cases hzy : z = y
          · have HN2 : Hid (BrI wo w5 FB N say P R K3 qs L (j + 1) (.slice ga zs.length gc) L' zs) := HR.out.same hFl hlt hnN HHN.out hb5 (by rw [← HZ.out, hzy, HY.out])
            have hzy2 : (z == y) = true := by rw [beq_iff_eq]; exact hzy
            clear HR hrow5 HZ HY
            go_wp2
            go_roundw
            case rel => exact ⟨j + 1, _, _, by omega, by go_num, HN2⟩
            case measure => simp [intOf]; omega
          · have hzy2 : (z == y) = false := by rw [beq_eq_false_iff_ne]; exact hzy
            have hMl := (HI.out.lnk.keys n hnN).lt
            have HSet := fun (left : Lit → Bool) (hl : ∀ k : Nat, k < N → R k n → left (.int .i64 (k : Int)) = true) (w7 : World) (hg7 : (w5.setCell ⟨FB, n, none⟩ (.bool (say (factB L') n))).grownBy w7 none) (rr : Nat) (hrr : wr.heap.size ≤ rr) => HR.out.set HPS.out hFl hlt hnN HHN.out hb5 (by rw [← HZ.out, ← HY.out]; exact hzy) left hl hg7 rr hrr
            rw [← HZ.out] at HSet
            have HSET : Hid (∀ (left : Lit → Bool) (hl : ∀ k : Nat, k < N → R k n → left (.int .i64 (k : Int)) = true) (w7 : World) (hg7 : (w5.setCell ⟨FB, n, none⟩ (.bool z)).grownBy w7 none) (rr : Nat) (hrr : wr.heap.size ≤ rr), BmI wo w7 FB N say P R K3 qs j (.slice ga zs.length gc) (L'.set n z) zs left rr 0 ∧ rkB (L'.set n z) < rkB L) := HSet
            clear HSet
            have hg6 : wo.grownBy (w5.setCell ⟨FB, n, none⟩ (.bool z)) (some FB) := grown_more (grown_more HR.out.gr (below_grownN hb5) (fun g e => by simp at e)) (set_grown w5 FB n _) (fun g e => .inr (by simpa using e.symm))
            have hO := HI.out.lnk.grown hg6 (by omega) (fun m hm => by show TB + 1 + m ≠ FB; omega)
            have hTl := hO.lt
            have cT := hO.cell n hnN
            obtain ⟨D0, hown, him, hkeys⟩ := hO.keys n hnN
            have HK : Hid (∀ kl, Maps.has D0 kl = true ↔ ∃ q : Nat, kl = .int .i64 q ∧ (q < N ∧ R q n)) := hkeys
            have HSZ : Hid (Maps.size D0 ≤ K3) := Nat.le_trans hown.size_le (HCB.out n)
            have hs5 : wr.heap.size ≤ w5.heap.size := hb5.size
            have hwr : wo.heap.size ≤ wr.heap.size := HR.out.gr.size
            clear hO hkeys him HR hrow5 HZ HY
            go_wp2_with (first
              | (at_range; refine wpList_range_own _ rfl _ 92 rfl 3 3 Tryd.lawIntG Tryd.underlying92 _ (TB + 1 + n) (cn n) _ rfl hown ?_; intro w7 hrg0 hg0 hs0)
              | go_in)
            go_frame
            have e6 : (w5.setCell ⟨FB, n, none⟩ (.bool z)).heap.size = w5.heap.size := by simp
            rw [e6] at hrg0 hs0
            try rw [e6]
            obtain ⟨hm0, hrk⟩ := HSET.out (Maps.has D0) (fun k hk h => (HK.out _).2 ⟨k, rfl, hk, h⟩) w7 hg0 w5.heap.size hs5
            have HM0 : Hid (BmI wo w7 FB N say P R K3 qs j (.slice ga zs.length gc) (L'.set n z) zs (Maps.has D0) w5.heap.size (Maps.size D0 - Maps.size D0)) := by rw [Nat.sub_self]; exact hm0
            have HRK : Hid (rkB (L'.set n z) < rkB L) := hrk
            clear hm0 hrk HSET hg0 hown hg6 e6 cT hTl cF fzF hF5 hzy hzy2
            have hrr0 : wo.heap.size ≤ w5.heap.size := by omega
            have hmr : TB + 1 + n < w5.heap.size := by omega
            have hwo : TB + 1 + n < wo.heap.size := hMl
            clear hs5 hb5 hwr hMl
            generalize w5.heap.size = rr at *
            generalize L'.set n z = L2 at *
            go_loopw [10] (fun gv wr => ∃ (left : Lit → Bool) (ct : Nat) (zs : List Int), wr.ranges Tryd.prog 3 (plainElem Tryd.prog 3) (TB + 1 + n) rr (cn n) D0 left ct ∧ ct ≤ Maps.size D0 ∧ Hid (BmI wo wr FB N say P R K3 qs j gv L2 zs left rr (Maps.size D0 - ct)) ∧ Hid (∀ kl, left kl = true → Maps.has D0 kl = true) ∧ rr < wr.heap.size) (fun _ wr => wr.rangeLeft (TB + 1 + n) rr)
            case atStart => exact ⟨_, _, zs, hrg0, Nat.le_refl _, HM0, (fun kl h => h), by omega⟩
            case round =>
              clear HM0 hrg0 hs0
              obtain ⟨left, ct, zs, hrg, hcs, HM, HF, hsz⟩ := hrel
              obtain ⟨ga, gc, rfl⟩ := HM.out.own.slice
              go_wp2_with (first
                | (at_next; refine wpList_next_ranges_ii _ rfl _ rfl 3 3 .i64 .i64 Tryd.lawIntG Tryd.underlying3 Tryd.underlying3 (TB + 1 + n) rr (cn n) _ _ _ rfl hrg ?_ ?_)
                | go_in)
              · intro hc0 hl0
                have HN2 : Hid (BrI wo wr FB N say P R K3 qs L (j + 1) (.slice ga zs.length gc) L2 zs) := HM.out.done hl0 (by have := HSZ.out; omega) HRK.out
                clear HM hl0
                go_wp2
                go_roundw
                case rel => exact ⟨j + 1, _, _, by omega, by go_num, HN2⟩
                case measure => simp [intOf]; omega
              · intro x p w8 ct1 hwx hwc hlx hat hrg1 hlt1 hg1 hs1 hen1
                obtain ⟨q, hq, hqN, hrq⟩ := (HK.out _).1 (HF.out _ hlx)
                obtain rfl : x = (q : Int) := by simpa using hq
                have hown8 : ∀ o, (w8.alloc o).ownsRow wo.heap.size 3 1 (.slice ga zs.length gc) zs.length (zs.map (Value.int .i64)) := fun o => World.ownsRow.alloc (HM.out.own.kept hg1 (.inr HM.out.ne)) o
                have hzl : zs.length ≤ 301 * 900000000 := by
                  have h1 := HM.out.len
                  have h2 := HSZ.out
                  have h3 : j * K3 ≤ 300 * 900000000 := Nat.mul_le_mul (by omega) hK3
                  omega
                have hw8 : wo.heap.size ≤ w8.heap.size := by omega
                have HSTP : Hid (∀ o w9 g9 cap9, w9.ownsRow wo.heap.size 3 1 (.slice (some ⟨g9, 0, none⟩) (zs.length + 1) cap9) (zs.length + 1) (zs.map (Value.int .i64) ++ [.int .i64 (q : Int)]) → (w8.alloc o).grownBy w9 (Value.slice ga zs.length gc).ownBlock → ((Value.slice ga zs.length gc).ownBlock = some g9 ∨ g9 = w8.heap.size + 1) →
                    BmI wo w9 FB N say P R K3 qs j (.slice (some ⟨g9, 0, none⟩) (zs.length + 1) cap9) L2 (zs ++ [(q : Int)]) (fun z => left z && !z.sameKey (.int .i64 (q : Int))) rr (Maps.size D0 - ct1) ∧ w9.ranges Tryd.prog 3 (plainElem Tryd.prog 3) (TB + 1 + n) rr (cn n) D0 (fun z => left z && !z.sameKey (.int .i64 (q : Int))) ct1 ∧ rr < w9.heap.size) := by
                  intro o w9 g9 cap9 h1 h2 h3
                  have hol : ∀ b, (Value.slice ga zs.length gc).ownBlock = some b → wo.heap.size ≤ b ∧ b < wr.heap.size := fun b hb => HM.out.own.lt b hb
                  refine ⟨?_, ?_, ?_⟩
                  · have := HM.out.step (o := o) hFl hrr0 hsz hqN hg1 h1 h2 h3
                    exact this.more (by omega)
                  · have hgA : w8.grownBy (w8.alloc o) none := World.grownBy_alloc w8 o none
                    refine (hrg1.kept hgA (by simp) (by simp)).kept h2 (fun e => ?_) (fun e => ?_)
                    · have := hol _ e.symm; omega
                    · exact HM.out.ne e.symm
                  · have := h2.size
                    simp at this
                    omega
                clear hq hrq HM hrg1 hs1
                go_wp2_with (at_builtin; refine wpList_append_lies _ rfl _ _ 23 rfl wo.heap.size 3 i0 (.int .i64 0) 1 8 Tryd.underlying23 hi0 hz0 hz1 hz2 rfl (by decide) (.slice ga zs.length gc) zs.length (zs.map (Value.int .i64)) rfl (hown8 _) ⟨w8.heap.size, 0, none⟩ 1 1 [.int .i64 (q : Int)] rfl rfl ?c1 ?c2 ?c3 ?c4 ?c5 ?c6 (w8.heap.size + 1) ?c7 ?_)
                case c1 => exact cell_one_new w8 _ _
                case c2 => intro x hx; simp at hx; subst hx; rfl
                case c3 => omega
                case c4 => unfold maxLen; omega
                case c5 => omega
                case c6 => simp; omega
                case c7 => simp
                intro g9 cap9 w9 hown9 hg9 hat9 hlt9
                obtain ⟨q1, q2, q3⟩ := HSTP.out _ w9 g9 cap9 hown9 hg9 hat9
                have Q1 : Hid (BmI wo w9 FB N say P R K3 qs j (.slice (some ⟨g9, 0, none⟩) (zs.length + 1) cap9) L2 (zs ++ [(q : Int)]) (fun z => left z && !z.sameKey (.int .i64 (q : Int))) rr (Maps.size D0 - ct1)) := q1
                clear q1 hown9 hg9 hat9 hlt9 HSTP hown8
                go_wp2
                go_roundw
                case rel => exact ⟨_, ct1, _, q2, by omega, Q1, (fun kl hkl => HF.out kl (by simp only [Bool.and_eq_true] at hkl; exact hkl.1)), q3⟩
                case measure => rw [q2.left_eq, hrg.left_eq]; exact hlt1
        · obtain rfl : j = qs.length := by omega
          have hzl : zs.length ≤ 1000000000000 := by
            have h1 := HR.out.len
            have h3 : qs.length * K3 ≤ 300 * 900000000 := Nat.mul_le_mul (by omega) hK3
            omega
          have hSo := sortI_any HR.out.own hzl
          go_wp2_with fail
          refine hSo.mono ?_
          rintro e w8 ⟨rfl, hown8, hg8⟩
          have hCo := compactI_any (F := FB) hown8 hFl (by rw [len_sortI]; exact hzl)
          clear hSo hown8
          go_wp2_with fail
          refine hCo.mono ?_
          rintro e w9 ⟨v', rfl, hask, hg9⟩
          clear hCo
          obtain ⟨h1, h2, h3, h4⟩ := HR.out.next HI.out hFT hg8 hg9 hask
          have HI9 : Hid (BsI w w9 FB TB N cn say P R K3 v' L' (Lib.compact (zs.mergeSort fun x y => decide (x ≤ y)))) := h1
          have hb9 : Below w.heap.size w w9 := hbw.trans (grown_below h3 hF1 hbw.size)
          have HMS2 : Hid (2 * rkB (rdB w9 FB) + anyV v' < 2 * rkB (rdB wo FB) + anyV (.slice qa qs.length qc)) := by
            show _ < _
            rw [HMS.out, h1.row.rd]
            exact h4
          obtain ⟨na, nc, rfl⟩ := hask.slice
          clear h1 h3 h4 hg8 hg9 hask HR
          go_wp2
          go_roundw
          case rel => exact ⟨_, _, HI9, h2, hb9⟩
          case measure => exact HMS2.out

end Go.Proofs.YtmkimaceioacgaaDoor
