/- Texts of the proof, put together: GLstW, GShW, GShX. -/
import Derived.Test.YtmkimaceioacgaaDoorGk24
import Derived.Test.YtmkimaceioacgaaDoorGk28
import Derived.Deep.AppendLies
import Derived.Test.YtmkimaceioacgaaDoorGk11
namespace Go.Proofs.YtmkimaceioacgaaDoor
open Go.RowKit
open Go.Maps (Keyed)
set_option linter.unusedVariables false
set_option maxRecDepth 100000

set_option maxHeartbeats 8000000 in
theorem leastI_any (N : Nat) (hN : N ≤ 300) (ps : List PdR) (hps : ∀ p ∈ ps, 0 ≤ p.left) (F : Nat) (hen : ∀ args w, (callFunc F args).run Tryd.prog w = .ok (.enter F args) w) (cap : Value) (w : World) (D : Nat) (mp cnt : Nat → Nat) (hL : LinksM w D N mp cnt (linkR ps ps.length)) (hcn : ∀ n, n < N → cnt n ≤ 10000) (hlk : ∀ n k, n < N → linkR ps ps.length n k → k < N) (hS : SaysI w F cap N (prsS ps)) :
    Calls Tryd.prog 36 #[.int .i64 (-1), .slice (some ⟨D, 0, none⟩) N N, .func (.func F) #[] #[cap]] w fun e w' => ∃ B L, e = .returned (.slice (some ⟨B, 0, none⟩) N N) ∧ Row w' B L ∧ WkI (prsS ps) N L (fun _ => False) ∧ w.heap.size ≤ B ∧ Below w.heap.size w w' := by
  obtain ⟨i0, hi0, hz0, hz1, hz2⟩ := infoParts Tryd.infoInt
  have HS : Hid (SaysI w F cap N (prsS ps)) := hS
  have HPS : Hid (∀ p ∈ ps, 0 ≤ p.left) := hps
  have hA := alloc_below w (.cells #[.int .i64 (-1)] 3)
  have hAs := alloc_size w (.cells #[.int .i64 (-1)] 3)
  have hAc : (w.alloc (.cells #[.int .i64 (-1)] 3)).cell? ⟨w.heap.size, 0, none⟩ = some (.int .i64 (-1)) := by
    have h : (w.alloc (.cells #[.int .i64 (-1)] 3)).heap[w.heap.size]? = some (.cells #[.int .i64 (-1)] 3) := by
      show (w.heap.push _)[w.heap.size]? = _
      exact Array.getElem?_push_size
    simp only [World.cell?, h]; rfl
  have HL : Hid (LinksM w D N mp cnt (linkR ps ps.length)) := hL
  have HCN : Hid (∀ n, n < N → cnt n ≤ 10000) := hcn
  have HLK : Hid (∀ n k, n < N → linkR ps ps.length n k → k < N) := hlk
  have HR : Hid (∀ w1 : World, w1.heap.size = w.heap.size + 1 → w1.cell? ⟨w.heap.size, 0, none⟩ = some (.int .i64 (-1)) → _) := fun w1 h1 h2 => repeatI_any (-1) w.heap.size 0 1 N hN w1 (by omega) h2
  clear hS hL hcn hlk hps
  have hRep := HR.out (w.alloc (.cells #[.int .i64 (-1)] 3)) hAs hAc
  go_enter Tryd.func36, Tryd.ntmps36
  go_wp2_with fail
  refine hRep.mono ?_
  rintro e w2 ⟨rfl, hrow2, hb2⟩
  clear HR hRep
  generalize w.alloc (.cells #[.int .i64 (-1)] 3) = w1 at *
  have hb2' : Below w.heap.size w w2 := hA.trans (hb2.mono (by omega))
  have hF1 : w.heap.size ≤ w1.heap.size := by omega
  have hTr := turned_any (HL.out.below hb2') hN HLK.out (K := 10000) (by omega) HCN.out
  generalize w1.heap.size = FB at *
  have HRw2 : Hid (Row w2 FB (List.replicate N (-1))) := hrow2
  clear hrow2 hA hAs hAc hb2 w1 HL HLK HCN
  go_wp2_with fail
  refine hTr.mono ?_
  rintro e w3 ⟨rfl, ⟨cn, hlnk, hcb⟩, hb3⟩
  clear hTr
  have hFT : FB < w2.heap.size := HRw2.out.lt
  have hb3' : Below w.heap.size w w3 := hb2'.trans (hb3.mono hb2'.size)
  have HRw3 : Hid (Row w3 FB (List.replicate N (-1))) := HRw2.out.grown (below_grownN hb3) (by simp)
  have hFN := firstNumbers_any N hN w3
  have HLn3 : Hid (LinksM w3 w2.heap.size N (fun n => w2.heap.size + 1 + n) cn (fun n k => k < N ∧ linkR ps ps.length k n)) := hlnk
  have HCB : Hid (∀ n, cn n ≤ 3000000) := hcb
  clear hcb HRw2 hlnk hb2' hb3
  generalize w2.heap.size = TB at *
  go_wp2_with fail
  refine hFN.mono ?_
  rintro e w4 ⟨rfl, hrow4, hsz4, hb4⟩
  have hb4' : Below w.heap.size w w4 := hb3'.trans (hb4.mono hb3'.size)
  have HI0 : Hid (LsI w w4 FB TB N cn ps (.slice (some ⟨w3.heap.size, 0, none⟩) N N) (List.replicate N (-1)) (numsL N)) := by
    have hF3 := HRw3.out.lt
    refine ⟨HRw3.out.grown (below_grownN hb4) (by simp), WkI.start _ _ _ (by simp) (fun j hj => by simp [List.getD, hj]) _ (fun n hn => ?_), ⟨_, N, by rw [numsL_len], .inr ⟨w3.heap.size, 0, rfl, hrow4.lt, by omega, fun j hj => by rw [Nat.zero_add]; exact hrow4.cell hj⟩⟩, fun x hx => ?_, HLn3.out.below hb4⟩
    · exact List.mem_map.2 ⟨n, List.mem_range.2 hn, rfl⟩
    · obtain ⟨n, hn, rfl⟩ := List.mem_map.1 hx
      have := List.mem_range.1 hn
      omega
  clear HRw3 HLn3 hrow4 hFN hb3' hb4 hsz4
  generalize w3.heap.size = AB at *
  go_wp2
  go_loopw [9] (fun av wr => ∃ (L qs : List Int), Hid (LsI w wr FB TB N cn ps av L qs) ∧ qs.length ≤ N ∧ Below w.heap.size w wr) (fun av wr => 2 * rkL (rdRow wr FB) + anyV av)
  case atStart => exact ⟨_, _, HI0, by rw [numsL_len]; exact Nat.le_refl _, hb4'⟩
  case round =>
    clear HI0 hb4'
    obtain ⟨L, qs, HI, hql, hbw⟩ := hrel
    obtain ⟨qa, qc, rfl⟩ := HI.out.ask.slice
    by_cases hq0 : qs.length = 0
    · have HE : Hid (WkI (prsS ps) N L fun _ => False) := HI.out.wk.weaken fun n _ hn => by
        rw [List.eq_nil_of_length_eq_zero hq0] at hn
        simp at hn
      have HRow : Hid (Row wr FB L) := HI.out.row
      rw [hq0] at *
      clear HI
      go_wp2
      go_ret
      exact ⟨FB, rfl, L, HRow.out, HE.out, hF1, hbw⟩
    · have HR0 : Hid (LrI wr wr FB N ps qs L 0 (.slice none 0 0) L []) := HI.out.start
      have HMS : Hid (2 * rkL (rdRow wr FB) + anyV (.slice qa qs.length qc) = 2 * rkL L + 1) := by
        show _ = _
        rw [HI.out.row.rd, anyV_pos _ _ _ hq0]
      have hFl := HI.out.row.lt
      have hq1 : 0 < qs.length := by omega
      rename World => wo
      go_wp2
      go_loopw [10, 30] (fun gv jv wr => ∃ (j : Nat) (L' zs : List Int), j ≤ qs.length ∧ jv = .int .i64 j ∧ Hid (LrI wo wr FB N ps qs L j gv L' zs)) (fun _ jv _ => qs.length - (intOf jv).toNat)
      case atStart => exact ⟨0, L, [], Nat.zero_le _, rfl, HR0⟩
      case round =>
        clear HR0
        obtain ⟨j, L', zs, hj, rfl, HR⟩ := hrel
        obtain ⟨ga, gc, rfl⟩ := HR.out.own.slice
        have hgr : Below w.heap.size w wr := hbw.trans (grown_below HR.out.gr hF1 hbw.size)
        by_cases hlt : j < qs.length
        · obtain ⟨b, off, rfl, hb, hc⟩ := (HI.out.ask.grown HR.out.gr).at hlt
          obtain ⟨hx0, hx1⟩ := HI.out.nms (qs.getD j 0) (by simp [List.getD, hlt])
          obtain ⟨n, hn⟩ : ∃ n : Nat, qs.getD j 0 = (n : Int) := ⟨(qs.getD j 0).toNat, by omega⟩
          have hnN : n < N := by omega
          rw [hn] at hc
          clear hx0 hx1
          have hlen := HR.out.wk.lens
          have hint : IntsR wr (.slice (some ⟨FB, 0, none⟩) N N) L' := by
            have := HR.out.row.ints
            rw [hlen.len] at this
            exact this
          have hCa := HS.out wr L' _ n hnN hlen hint hgr
          have HHN : Hid (qs.getD j 0 = (n : Int)) := hn
          clear hint hn
          have HLE : Hid (L'.length = N) := hlen.len
          clear hlen
          go_wp2_with fail
          refine hCa.mono ?_
          rintro e w5 ⟨rfl, hb5⟩
          clear hCa hc
          have hrow5 : Row w5 FB L' := HR.out.row.grown (below_grownN hb5) (by simp)
          have cF := hrow5.cell (j := n) (by rw [HLE.out]; exact hnN)
          have fzF := hrow5.fz n
          have hF5 := hrow5.lt
          obtain ⟨z, hz⟩ : ∃ z, z = codeO (saysL (prsS ps) (factO L') n) := ⟨_, rfl⟩
          have HZ : Hid (z = codeO (saysL (prsS ps) (factO L') n)) := hz
          rw [← hz]
          clear hz
          obtain ⟨y, hy⟩ : ∃ y, y = L'.getD n 0 := ⟨_, rfl⟩
          have HY : Hid (y = L'.getD n 0) := hy
          rw [← hy] at cF
          clear hy
          by_cases hzy : z = y
          · have HN2 : Hid (LrI wo w5 FB N ps qs L (j + 1) (.slice ga zs.length gc) L' zs) := HR.out.same hFl hlt hnN HHN.out hb5 (by rw [← HZ.out, hzy, HY.out])
            have hzy2 : (z == y) = true := by rw [beq_iff_eq]; exact hzy
            clear HR hrow5 HZ HY
            go_wp2
            go_roundw
            case rel => exact ⟨j + 1, _, _, by omega, by go_num, HN2⟩
            case measure => simp [intOf]; omega
          · have hzy2 : (z == y) = false := by rw [beq_eq_false_iff_ne]; exact hzy
            have hMl := (HI.out.lnk.keys n hnN).lt
            have HSet := fun (left : Lit → Bool) (hl : ∀ k : Nat, k < N → linkR ps ps.length k n → left (.int .i64 (k : Int)) = true) (w7 : World) (hg7 : (w5.setCell ⟨FB, n, none⟩ (.int .i64 (codeO (saysL (prsS ps) (factO L') n)))).grownBy w7 none) (rr : Nat) (hrr : wr.heap.size ≤ rr) => HR.out.set HPS.out hFl hlt hnN HHN.out hb5 (by rw [← HZ.out, ← HY.out]; exact hzy) left hl hg7 rr hrr
            rw [← HZ.out] at HSet
            have HSET : Hid (∀ (left : Lit → Bool) (hl : ∀ k : Nat, k < N → linkR ps ps.length k n → left (.int .i64 (k : Int)) = true) (w7 : World) (hg7 : (w5.setCell ⟨FB, n, none⟩ (.int .i64 z)).grownBy w7 none) (rr : Nat) (hrr : wr.heap.size ≤ rr), LmI wo w7 FB N ps qs j (.slice ga zs.length gc) (L'.set n z) zs left rr 0 ∧ rkL (L'.set n z) < rkL L) := HSet
            clear HSet
            have hg6 : wo.grownBy (w5.setCell ⟨FB, n, none⟩ (.int .i64 z)) (some FB) := grown_more (grown_more HR.out.gr (below_grownN hb5) (fun g e => by simp at e)) (set_grown w5 FB n _) (fun g e => .inr (by simpa using e.symm))
            have hO := HI.out.lnk.grown hg6 (by omega) (fun m hm => by show TB + 1 + m ≠ FB; omega)
            have hTl := hO.lt
            have cT := hO.cell n hnN
            obtain ⟨D0, hown, him, hkeys⟩ := hO.keys n hnN
            have HK : Hid (∀ kl, Maps.has D0 kl = true ↔ ∃ q : Nat, kl = .int .i64 q ∧ (q < N ∧ linkR ps ps.length q n)) := hkeys
            have HSZ : Hid (Maps.size D0 ≤ 3000000) := Nat.le_trans hown.size_le (HCB.out n)
            have hs5 : wr.heap.size ≤ w5.heap.size := hb5.size
            have hwr : wo.heap.size ≤ wr.heap.size := HR.out.gr.size
            clear hO hkeys him HR hrow5 HZ HY
            go_wp2_with (first
              | (at_range; refine wpList_range_own _ rfl _ 92 rfl 3 3 Tryd.lawIntG Tryd.underlying92 _ (TB + 1 + n) (cn n) _ rfl hown ?_; intro w7 hrg0 hg0 hs0)
              | go_in)
            go_frame
            have e6 : (w5.setCell ⟨FB, n, none⟩ (.int .i64 z)).heap.size = w5.heap.size := by simp
            rw [e6] at hrg0 hs0
            try rw [e6]
            obtain ⟨hm0, hrk⟩ := HSET.out (Maps.has D0) (fun k hk h => (HK.out _).2 ⟨k, rfl, hk, h⟩) w7 hg0 w5.heap.size hs5
            have HM0 : Hid (LmI wo w7 FB N ps qs j (.slice ga zs.length gc) (L'.set n z) zs (Maps.has D0) w5.heap.size (Maps.size D0 - Maps.size D0)) := by rw [Nat.sub_self]; exact hm0
            have HRK : Hid (rkL (L'.set n z) < rkL L) := hrk
            clear hm0 hrk HSET hg0 hown hg6 e6 cT hTl cF fzF hF5 hzy hzy2
            have hrr0 : wo.heap.size ≤ w5.heap.size := by omega
            have hmr : TB + 1 + n < w5.heap.size := by omega
            have hwo : TB + 1 + n < wo.heap.size := hMl
            clear hs5 hb5 hwr hMl
            generalize w5.heap.size = rr at *
            generalize L'.set n z = L2 at *
            go_loopw [10] (fun gv wr => ∃ (left : Lit → Bool) (ct : Nat) (zs : List Int), wr.ranges Tryd.prog 3 (plainElem Tryd.prog 3) (TB + 1 + n) rr (cn n) D0 left ct ∧ ct ≤ Maps.size D0 ∧ Hid (LmI wo wr FB N ps qs j gv L2 zs left rr (Maps.size D0 - ct)) ∧ Hid (∀ kl, left kl = true → Maps.has D0 kl = true) ∧ rr < wr.heap.size) (fun _ wr => wr.rangeLeft (TB + 1 + n) rr)
            case atStart => exact ⟨_, _, zs, hrg0, Nat.le_refl _, HM0, (fun kl h => h), by omega⟩
            case round =>
              clear HM0 hrg0 hs0
              obtain ⟨left, ct, zs, hrg, hcs, HM, HF, hsz⟩ := hrel
              obtain ⟨ga, gc, rfl⟩ := HM.out.own.slice
              go_wp2_with (first
                | (at_next; refine wpList_next_ranges_ii _ rfl _ rfl 3 3 .i64 .i64 Tryd.lawIntG Tryd.underlying3 Tryd.underlying3 (TB + 1 + n) rr (cn n) _ _ _ rfl hrg ?_ ?_)
                | go_in)
              · intro hc0 hl0
                have HN2 : Hid (LrI wo wr FB N ps qs L (j + 1) (.slice ga zs.length gc) L2 zs) := HM.out.done hl0 (by have := HSZ.out; omega) HRK.out
                clear HM hl0
                go_wp2
                go_roundw
                case rel => exact ⟨j + 1, _, _, by omega, by go_num, HN2⟩
                case measure => simp [intOf]; omega
              · intro x p w8 ct1 hwx hwc hlx hat hrg1 hlt1 hg1 hs1 hen1
                obtain ⟨q, hq, hqN, hrq⟩ := (HK.out _).1 (HF.out _ hlx)
                obtain rfl : x = (q : Int) := by simpa using hq
                have hown8 : ∀ o, (w8.alloc o).ownsRow wo.heap.size 3 1 (.slice ga zs.length gc) zs.length (zs.map (Value.int .i64)) := fun o => World.ownsRow.alloc (HM.out.own.kept hg1 (.inr HM.out.ne)) o
                have hzl : zs.length ≤ 301 * 3000000 := by
                  have h1 := HM.out.len
                  have h2 := HSZ.out
                  have h3 : j * 3000000 ≤ 300 * 3000000 := Nat.mul_le_mul_right _ (by omega)
                  omega
                have hw8 : wo.heap.size ≤ w8.heap.size := by omega
                have HSTP : Hid (∀ o w9 g9 cap9, w9.ownsRow wo.heap.size 3 1 (.slice (some ⟨g9, 0, none⟩) (zs.length + 1) cap9) (zs.length + 1) (zs.map (Value.int .i64) ++ [.int .i64 (q : Int)]) → (w8.alloc o).grownBy w9 (Value.slice ga zs.length gc).ownBlock → ((Value.slice ga zs.length gc).ownBlock = some g9 ∨ g9 = w8.heap.size + 1) →
                    LmI wo w9 FB N ps qs j (.slice (some ⟨g9, 0, none⟩) (zs.length + 1) cap9) L2 (zs ++ [(q : Int)]) (fun z => left z && !z.sameKey (.int .i64 (q : Int))) rr (Maps.size D0 - ct1) ∧ w9.ranges Tryd.prog 3 (plainElem Tryd.prog 3) (TB + 1 + n) rr (cn n) D0 (fun z => left z && !z.sameKey (.int .i64 (q : Int))) ct1 ∧ rr < w9.heap.size) := by
                  intro o w9 g9 cap9 h1 h2 h3
                  have hol : ∀ b, (Value.slice ga zs.length gc).ownBlock = some b → wo.heap.size ≤ b ∧ b < wr.heap.size := fun b hb => HM.out.own.lt b hb
                  refine ⟨?_, ?_, ?_⟩
                  · have := HM.out.step (o := o) hFl hrr0 hsz hqN hg1 h1 h2 h3
                    exact this.more (by omega)
                  · have hgA : w8.grownBy (w8.alloc o) none := World.grownBy_alloc w8 o none
                    refine (hrg1.kept hgA (by simp) (by simp)).kept h2 (fun e => ?_) (fun e => ?_)
                    · have := hol _ e.symm; omega
                    · exact HM.out.ne e.symm
                  · have := h2.size
                    simp at this
                    omega
                clear hq hrq HM hrg1 hs1
                go_wp2_with (at_builtin; refine wpList_append_lies _ rfl _ _ 23 rfl wo.heap.size 3 i0 (.int .i64 0) 1 8 Tryd.underlying23 hi0 hz0 hz1 hz2 rfl (by decide) (.slice ga zs.length gc) zs.length (zs.map (Value.int .i64)) rfl (hown8 _) ⟨w8.heap.size, 0, none⟩ 1 1 [.int .i64 (q : Int)] rfl rfl ?c1 ?c2 ?c3 ?c4 ?c5 ?c6 (w8.heap.size + 1) ?c7 ?_)
                case c1 => exact cell_one_new w8 _ _
                case c2 => intro x hx; simp at hx; subst hx; rfl
                case c3 => omega
                case c4 => unfold maxLen; omega
                case c5 => omega
                case c6 => simp; omega
                case c7 => simp
                intro g9 cap9 w9 hown9 hg9 hat9 hlt9
                obtain ⟨q1, q2, q3⟩ := HSTP.out _ w9 g9 cap9 hown9 hg9 hat9
                have Q1 : Hid (LmI wo w9 FB N ps qs j (.slice (some ⟨g9, 0, none⟩) (zs.length + 1) cap9) L2 (zs ++ [(q : Int)]) (fun z => left z && !z.sameKey (.int .i64 (q : Int))) rr (Maps.size D0 - ct1)) := q1
                clear q1 hown9 hg9 hat9 hlt9 HSTP hown8
                go_wp2
                go_roundw
                case rel => exact ⟨_, ct1, _, q2, by omega, Q1, (fun kl hkl => HF.out kl (by simp only [Bool.and_eq_true] at hkl; exact hkl.1)), q3⟩
                case measure => rw [q2.left_eq, hrg.left_eq]; exact hlt1
        · obtain rfl : j = qs.length := by omega
          have hzl : zs.length ≤ 1000000000000 := by
            have h1 := HR.out.len
            have h3 : qs.length * 3000000 ≤ 300 * 3000000 := Nat.mul_le_mul_right _ (by omega)
            omega
          have hSo := sortI_any HR.out.own hzl
          go_wp2_with fail
          refine hSo.mono ?_
          rintro e w8 ⟨rfl, hown8, hg8⟩
          have hCo := compactI_any (F := FB) hown8 hFl (by rw [len_sortI]; exact hzl)
          clear hSo hown8
          go_wp2_with fail
          refine hCo.mono ?_
          rintro e w9 ⟨v', rfl, hask, hg9⟩
          clear hCo
          obtain ⟨h1, h2, h3, h4⟩ := HR.out.next HI.out hFT hg8 hg9 hask
          have HI9 : Hid (LsI w w9 FB TB N cn ps v' L' (Lib.compact (zs.mergeSort fun x y => decide (x ≤ y)))) := h1
          have hb9 : Below w.heap.size w w9 := hbw.trans (grown_below h3 hF1 hbw.size)
          have HMS2 : Hid (2 * rkL (rdRow w9 FB) + anyV v' < 2 * rkL (rdRow wo FB) + anyV (.slice qa qs.length qc)) := by
            show _ < _
            rw [HMS.out, h1.row.rd]
            exact h4
          obtain ⟨na, nc, rfl⟩ := hask.slice
          clear h1 h3 h4 hg8 hg9 hask HR
          go_wp2
          go_roundw
          case rel => exact ⟨_, _, HI9, h2, hb9⟩
          case measure => exact HMS2.out

end Go.Proofs.YtmkimaceioacgaaDoor

namespace Go.Proofs.YtmkimaceioacgaaDoor
open Go.RowKit
set_option linter.unusedVariables false
set_option maxRecDepth 100000

set_option maxHeartbeats 4000000 in
theorem lengths_any (t s : Int) (N : Nat) (ps : List PdR) (ls ss : List Int) (pv lv sv : Value) (w : World) (hG : GOkM N ps) (h : PdsM w pv ps) :
    Calls Tryd.prog 18 #[gv ⟨t, N, s, ps, ls, ss⟩ pv lv sv] w fun e w' => ∃ B L, e = .returned (.slice (some ⟨B, 0, none⟩) N N) ∧ Row w' B L ∧ WkI (prsS ps) N L (fun _ => False) ∧ w.heap.size ≤ B ∧ Below w.heap.size w w' := by
  have hB0 := boxG_below w ⟨t, N, s, ps, ls, ss⟩ pv lv sv
  have hB1 := boxG_size w ⟨t, N, s, ps, ls, ss⟩ pv lv sv
  have hB2 := boxG_box w ⟨t, N, s, ps, ls, ss⟩ pv lv sv
  have hmf : ∀ (fn : Fn) (first cap : Array Value) (w : World), (Instr.makeFunc fn first cap).run Tryd.prog w = .ok (.func fn first cap) w := fun _ _ _ _ => rfl
  have hOP := ownProds_any t s N ps ls ss pv lv sv (boxG w ⟨t, N, s, ps, ls, ss⟩ pv lv sv) hG.n hG.len (fun m hm => ⟨(hG.pd m hm).1.1, (hG.pd m hm).1.2.1⟩) (h.below hB0)
  obtain ⟨pa, pc, rfl⟩ := h.slice
  have HP : Hid (PdsM w (.slice pa ps.length pc) ps) := h
  have HBX : Hid (BoxG (boxG w ⟨t, N, s, ps, ls, ss⟩ (.slice pa ps.length pc) lv sv) w.heap.size ⟨t, N, s, ps, ls, ss⟩ (.slice pa ps.length pc) lv sv) := hB2
  clear h
  unfold boxG gv gvs at hOP
  unfold boxG gvs at hB0 hB1 hB2 HBX
  unfold gv gvs
  simp only at *
  obtain ⟨q0, q1, q2, q3, q4, q5, q6⟩ := hB2
  simp only at q0 q1 q2 q3 q4 q5 q6
  go_enter Tryd.func18, Tryd.ntmps18
  go_wp2_with fail
  refine hOP.mono ?_
  rintro e w2 ⟨rfl, hown, hb2⟩
  clear hOP q0 q1 q2 q3 q4 q5 q6
  generalize w.alloc (.cells #[.int .i64 t, .int .i64 N, .int .i64 s, .slice pa ps.length pc, lv, sv] 25) = w0 at *
  generalize w0.heap.size + 1 = DD at *
  have hb2' : Below w.heap.size w w2 := hB0.trans (hb2.mono (by omega))
  have hAb := alloc_below w2 (.cells #[.slice (some ⟨DD, 0, none⟩) N N] 58)
  have hAs := alloc_size w2 (.cells #[.slice (some ⟨DD, 0, none⟩) N N] 58)
  have HOM : Hid (OwnM (w2.alloc (.cells #[.slice (some ⟨DD, 0, none⟩) N N] 58)) w2.heap.size N (ownL ps)) := by
    have hd := hown.below hAb
    have h : (w2.alloc (.cells #[.slice (some ⟨DD, 0, none⟩) N N] 58)).heap[w2.heap.size]? = some (.cells #[.slice (some ⟨DD, 0, none⟩) N N] 58) := by
      show (w2.heap.push _)[w2.heap.size]? = _
      exact Array.getElem?_push_size
    refine ⟨DD, by rw [hAs]; omega, hd.1, ?_, hd.2⟩
    simp only [World.cell?, h]; rfl
  have hbx2 : Below (w.heap.size + 1) w0 (w2.alloc (.cells #[.slice (some ⟨DD, 0, none⟩) N N] 58)) := by
    have := hb2.trans (hAb.mono hb2.size)
    rw [hB1] at this
    exact this
  obtain ⟨q0, q1, q2, q3, q4, q5, q6⟩ := HBX.out.below (Nat.lt_succ_self _) hbx2
  simp only at q0 q1 q2 q3 q4 q5 q6
  have hb3 : Below w.heap.size w (w2.alloc (.cells #[.slice (some ⟨DD, 0, none⟩) N N] 58)) := hb2'.trans (hAb.mono hb2'.size)
  have hWi := within_any t s N ps ls ss (.slice pa ps.length pc) lv sv (w2.alloc (.cells #[.slice (some ⟨DD, 0, none⟩) N N] 58)) hG.n hG.len hG.pd (HP.out.below hb3)
  unfold gv gvs at hWi
  simp only at hWi
  clear hown hbx2 hAb
  have hlt2 : w2.heap.size < (w2.alloc (.cells #[.slice (some ⟨DD, 0, none⟩) N N] 58)).heap.size := by omega
  clear hAs
  go_wp2_with fail
  refine hWi.mono ?_
  rintro e w4 ⟨rfl, ⟨cnt, hlnk, hcb⟩, hb4⟩
  clear hWi q0 q1 q2 q3 q4 q5 q6
  generalize w2.alloc (.cells #[.slice (some ⟨DD, 0, none⟩) N N] 58) = w3 at *
  have hb4' : Below w.heap.size w w4 := hb3.trans (hb4.mono hb3.size)
  have hOM4 := HOM.out.below hb4
  have hen : ∀ args w, (callFunc 37 args).run Tryd.prog w = .ok (.enter 37 args) w := enters_of Tryd.func37 (by kernel_rfl) rfl
  have hSy : SaysI w4 37 (.pointer (some ⟨w2.heap.size, 0, none⟩)) N (prsS ps) := by
    intro w' L v n hn hL hv hb
    have hl : ∀ p ∈ ps, 0 ≤ p.left := fun p hp => (hG.mem hp).1.1
    have := lengthsC_any N hG.n (ownL ps) L v n w2.heap.size hn w' (Nat.le_trans (ownL_len ps n) hG.len) (fun p hp => (hG.mem (List.mem_filter.1 hp).1).2) hL hv (hOM4.below hb)
    rw [bestL_says _ ps hl n] at this
    exact this
  have hLe := leastI_any N hG.n ps (fun p hp => (hG.mem hp).1.1) 37 hen (.pointer (some ⟨w2.heap.size, 0, none⟩)) w4 (w3.heap.size + 1) _ cnt hlnk (fun n _ => Nat.le_trans (hcb n) (by omega)) (fun n k _ hk => hG.link n k hk) hSy
  clear hSy hOM4 HOM hlnk hcb
  go_wp2_with fail
  refine hLe.mono ?_
  rintro e w5 ⟨B, L, rfl, hrow, hwk, hB, hb5⟩
  have HRw : Hid (Row w5 B L) := hrow
  have HWk : Hid (WkI (prsS ps) N L fun _ => False) := hwk
  have hb5' : Below w.heap.size w w5 := hb4'.trans (hb5.mono hb4'.size)
  have hBl : w.heap.size ≤ B := Nat.le_trans hb4'.size hB
  clear hrow hwk hLe
  go_wp2
  go_ret
  exact ⟨B, L, rfl, HRw.out, HWk.out, hBl, hb5'⟩

end Go.Proofs.YtmkimaceioacgaaDoor

namespace Go.Proofs.YtmkimaceioacgaaDoor
open Go.RowKit
set_option linter.unusedVariables false
set_option maxRecDepth 100000

set_option maxHeartbeats 2000000 in
theorem pshort_no (g : Gm) (pv lv sv : Value) (w : World) (h : GrM w g pv lv sv) (hwf : WfG g) (hno : gOkB g = false) :
    Calls Tryd.prog 8 #[gv g pv lv sv] w fun e w' => e = .returned (.slice none 0 0) ∧ Below w.heap.size w w' := by
  have hB0 := boxG_below w g pv lv sv
  have hB2 := boxG_box w g pv lv sv
  have hC := pok_any g pv lv sv (boxG w g pv lv sv) (h.below hB0) hwf
  rw [hno] at hC
  obtain ⟨q0, q1, q2, q3, q4, q5, q6⟩ := hB2
  unfold boxG gv gvs at hC
  unfold boxG gvs at hB0 q0 q1 q2 q3 q4 q5 q6
  unfold gv gvs
  go_enter Tryd.func8, Tryd.ntmps8
  go_wp2_with fail
  refine hC.mono ?_
  rintro e w2 ⟨rfl, hb2⟩
  have hb := hB0.trans (hb2.mono hB0.size)
  clear hC q0 q1 q2 q3 q4 q5 q6
  go_wp2
  go_ret
  exact ⟨rfl, hb⟩

set_option maxHeartbeats 2000000 in
theorem pshort_yes (t s : Int) (N : Nat) (ps : List PdR) (ls ss : List Int) (pv lv sv : Value) (w : World) (hG : GOkM N ps) (h : GrM w ⟨t, N, s, ps, ls, ss⟩ pv lv sv) (hwf : WfG ⟨t, N, s, ps, ls, ss⟩) (hyes : gOkB ⟨t, N, s, ps, ls, ss⟩ = true) :
    Calls Tryd.prog 8 #[gv ⟨t, N, s, ps, ls, ss⟩ pv lv sv] w fun e w' => ∃ B L, e = .returned (.slice (some ⟨B, 0, none⟩) N N) ∧ Row w' B L ∧ WkI (prsS ps) N L (fun _ => False) ∧ Below w.heap.size w w' := by
  have hB0 := boxG_below w ⟨t, N, s, ps, ls, ss⟩ pv lv sv
  have hB1 := boxG_size w ⟨t, N, s, ps, ls, ss⟩ pv lv sv
  have hB2 := boxG_box w ⟨t, N, s, ps, ls, ss⟩ pv lv sv
  have hC := pok_any ⟨t, N, s, ps, ls, ss⟩ pv lv sv (boxG w ⟨t, N, s, ps, ls, ss⟩ pv lv sv) (h.below hB0) hwf
  rw [hyes] at hC
  have HL : Hid (∀ w', Below w.heap.size w w' → _) := fun w' hb => lengths_any t s N ps ls ss pv lv sv w' hG (h.prods.below hb)
  have HBX : Hid (BoxG (boxG w ⟨t, N, s, ps, ls, ss⟩ pv lv sv) w.heap.size ⟨t, N, s, ps, ls, ss⟩ pv lv sv) := hB2
  obtain ⟨q0, q1, q2, q3, q4, q5, q6⟩ := hB2
  unfold boxG gv gvs at hC
  unfold boxG gvs at hB0 hB1 q0 q1 q2 q3 q4 q5 q6 HBX
  unfold gv gvs at HL ⊢
  simp only at *
  go_enter Tryd.func8, Tryd.ntmps8
  go_wp2_with fail
  refine hC.mono ?_
  rintro e w2 ⟨rfl, hb2⟩
  have hb := hB0.trans (hb2.mono hB0.size)
  rw [hB1] at hb2
  clear hC q0 q1 q2 q3 q4 q5 q6
  obtain ⟨q0, q1, q2, q3, q4, q5, q6⟩ := HBX.out.below (Nat.lt_succ_self _) hb2
  simp only at q0 q1 q2 q3 q4 q5 q6
  have hLe := HL.out w2 hb
  go_wp2_with fail
  refine hLe.mono ?_
  rintro e w3 ⟨B, L, rfl, hrow, hwk, hBl, hb3⟩
  have HRw : Hid (Row w3 B L) := hrow
  have HWk : Hid (WkI (prsS ps) N L fun _ => False) := hwk
  have hb4 := hb.trans (hb3.mono hb.size)
  clear hrow hwk hLe q0 q1 q2 q3 q4 q5 q6
  go_wp2
  go_ret
  exact ⟨B, L, rfl, HRw.out, HWk.out, hb4⟩

end Go.Proofs.YtmkimaceioacgaaDoor
