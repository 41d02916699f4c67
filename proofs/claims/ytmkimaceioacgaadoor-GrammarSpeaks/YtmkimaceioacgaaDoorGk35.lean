/- Texts of the proof, put together: GChS. -/
import Derived.Test.YtmkimaceioacgaaDoorGk26
import Derived.Test.YtmkimaceioacgaaDoorGk05
import Derived.Laws.MakeOwn
namespace Go.Proofs.YtmkimaceioacgaaDoor
open Go.RowKit
set_option linter.unusedVariables false
set_option maxRecDepth 100000

theorem allocAtS (w : World) (o : Obj) : (w.alloc o).heap[w.heap.size]? = some o := by
  show (w.heap.push o)[w.heap.size]? = some o
  simp

set_option maxHeartbeats 8000000 in
theorem rstands_any (g : Gm) (pv lv sv : Value) (CD cc N : Nat) (D cp : Nat → Nat) (bl : Nat → Nat → Nat) (C : Nat → Nat → List Bool) (inp : List Int) (iv : Value) (R : List Int) (rv : Value) (fr to : Nat) (w : World) (hN : N ≤ 1000) (hSy : ∀ k, k < R.length → -(N : Int) ≤ R.getD k 0 ∧ R.getD k 0 ≤ 1000) (hRl : R.length ≤ 1000) (hij : fr ≤ to) (hj : to ≤ inp.length) (hl : inp.length ≤ 1000) (hC : ChM w CD N (inp.length + 1) D cp bl C) (hi : IntsR w iv inp) (hr : IntsR w rv R) :
    Calls Tryd.prog 49 #[gv g pv lv sv, .slice (some ⟨CD, 0, none⟩) N cc, iv, rv, .int .i64 fr, .int .i64 to] w fun e w' => SaysP e (rowP inp (chB C) R fr to) ∧ Below w.heap.size w w' := by
  have hB0 := boxG_below w g pv lv sv
  have hB1 := boxG_size w g pv lv sv
  obtain ⟨M, hM⟩ : ∃ M, M = inp.length + 1 := ⟨_, rfl⟩
  have hmk := makeBoolsT M (by omega) (boxG w g pv lv sv)
  have hA := alloc_below (boxG w g pv lv sv) (.cells (boolsA (List.replicate M false)) 4)
  have hA2 := hB0.trans (hA.mono hB0.size)
  have hR0 : RowB ((boxG w g pv lv sv).alloc (.cells (boolsA (List.replicate M false)) 4)) (boxG w g pv lv sv).heap.size (List.replicate M false) := allocAtS _ _
  have hw1 : IntKind.i64.wrap ((inp.length : Int) + 1) = (M : Int) := by rw [IntKind.wrap_i64, hM]; omega
  have hfz := hR0.fz fr
  have c0 := hR0.cell (j := fr) (by rw [List.length_replicate]; omega)
  have l0 := hR0.lt
  have hbs := hB0.trans ((alloc_below (boxG w g pv lv sv) (.cells ((boolsA (List.replicate M false)).setIfInBounds fr (.bool true)) 4)).mono hB0.size)
  obtain ⟨ia, ic, rfl⟩ := hi.slice
  obtain ⟨ra, rc, rfl⟩ := hr.slice
  have HSYM : Hid (∀ W (k i j : Nat), Below w.heap.size w W → k < R.length → i ≤ j → j ≤ to → _) := fun W k i j (hb : Below w.heap.size w W) (hk : k < R.length) (h1 : i ≤ j) (h2 : j ≤ to) => rsym_any CD cc N D cp bl C inp (.slice ia inp.length ic) (R.getD k 0) i j W hN (hSy k hk).1 (hSy k hk).2 h1 (by omega) hl (hC.below hb) (hi.below hb)
  have HRI : Hid (∀ W, Below w.heap.size w W → IntsR W (.slice ra R.length rc) R) := fun W hb => hr.below hb
  have HS0 : Hid (StA inp (chB C) R fr to 0 ((List.replicate M false).set fr true)) := StA.start hij (by omega)
  have htM : to < M := by omega
  have hto : to ≤ 1000 := by omega
  have HR1 : Hid (RowB ((boxG w g pv lv sv).alloc (.cells ((boolsA (List.replicate M false)).setIfInBounds fr (.bool true)) 4)) (boxG w g pv lv sv).heap.size ((List.replicate M false).set fr true)) := by
    show _ = _
    rw [allocAtS]
    unfold boolsA
    rw [List.setIfInBounds_toArray, List.map_set]
  have hM2 : M ≤ 1001 := by omega
  have hfM : fr < M := by omega
  have HA0 : Hid (((List.replicate M false).set fr true).length = M) := by show _ = _; simp
  clear hR0 hA hA2 hSy hC hi hr hl hj hM
  rw [hB1] at hmk hfz c0 l0 HR1
  unfold boxG gvs at *
  unfold gv gvs
  generalize (List.replicate M false).set fr true = A0 at *
  go_enter Tryd.func49, Tryd.ntmps49
  go_wp2
  clear hmk hfz c0 l0 hB0 hB1
  go_loopw [13, 14] (fun av kv wr => ∃ (k B : Nat) (A : List Bool), k ≤ R.length ∧ kv = .int .i64 k ∧ av = .slice (some ⟨B, 0, none⟩) M M ∧ Hid (RowB wr B A) ∧ Hid (A.length = M) ∧ Hid (StA inp (chB C) R fr to k A) ∧ Below w.heap.size w wr) (fun _ kv _ => R.length - (intOf kv).toNat)
  case atStart => exact ⟨0, _, A0, Nat.zero_le _, rfl, rfl, HR1, HA0, HS0, hbs⟩
  case round =>
    clear HR1 HA0 HS0 hbs
    obtain ⟨k, B, A, hk, rfl, rfl, HB, HAl, HSA, hbw⟩ := hrel
    by_cases hkl : k < R.length
    · have hmk := makeBoolsT M (by omega) wr
      have hA := alloc_below wr (.cells (boolsA (List.replicate M false)) 4)
      have hA2 := hbw.trans (hA.mono hbw.size)
      have HN0 : Hid (RowB (wr.alloc (.cells (boolsA (List.replicate M false)) 4)) wr.heap.size (List.replicate M false)) := allocAtS _ _
      have HB1 : Hid (RowB (wr.alloc (.cells (boolsA (List.replicate M false)) 4)) B A) := (hA.block _ HB.out.lt).trans HB.out
      have HI0 : Hid (StN inp (chB C) (R.getD k 0) fr to A fr fr (List.replicate M false)) := StN.start
      have HL0 : Hid ((List.replicate M false).length = M) := by show _ = _; simp
      have hBN : B < wr.heap.size := HB.out.lt
      have hwl : w.heap.size ≤ wr.heap.size := hbw.size
      clear HB hA
      generalize List.replicate M false = L0 at *
      go_wp2
      clear hmk
      generalize wr.alloc (.cells (boolsA L0) 4) = w1 at *
      generalize wr.heap.size = NB at *
      go_loopw [16] (fun iv wr => ∃ (i : Nat) (Bl : List Bool), fr ≤ i ∧ i ≤ to + 1 ∧ iv = .int .i64 i ∧ Hid (RowB wr NB Bl) ∧ Hid (Bl.length = M) ∧ Hid (RowB wr B A) ∧ Hid (StN inp (chB C) (R.getD k 0) fr to A i i Bl) ∧ Below w.heap.size w wr) (fun iv _ => to + 1 - (intOf iv).toNat)
      case atStart => exact ⟨fr, L0, Nat.le_refl _, by omega, rfl, HN0, HL0, HB1, HI0, hA2⟩
      case round =>
        clear HN0 HL0 HB1 HI0 hA2
        obtain ⟨i, Bl, hfi, hit, rfl, HN, HL, HB, HI, hbw⟩ := hrel
        by_cases hil : i ≤ to
        · have cA := HB.out.cell (j := i) (by rw [HAl.out]; omega)
          have lA := HB.out.lt
          have hiM : i < M := by omega
          obtain ⟨fa, hfa⟩ : ∃ fa, factB A i = fa := ⟨_, rfl⟩
          rw [hfa] at cA
          have HFA : Hid (factB A i = fa) := hfa
          clear hfa
          cases fa with
          | false =>
            have HS : Hid (StN inp (chB C) (R.getD k 0) fr to A (i + 1) (i + 1) Bl) := HI.out.skip HFA.out
            clear HI
            go_wp2
            go_roundw
            case rel => exact ⟨i + 1, Bl, by omega, by omega, by go_num, HN, HL, HB, HS, hbw⟩
            case measure => simp [intOf]; omega
          | true =>
            go_wp2
            clear cA lA
            go_loopw [17] (fun jv wr => ∃ (j : Nat) (Bl : List Bool), i ≤ j ∧ j ≤ to + 1 ∧ jv = .int .i64 j ∧ Hid (RowB wr NB Bl) ∧ Hid (Bl.length = M) ∧ Hid (RowB wr B A) ∧ Hid (StN inp (chB C) (R.getD k 0) fr to A i j Bl) ∧ Below w.heap.size w wr) (fun jv _ => to + 1 - (intOf jv).toNat)
            case atStart => exact ⟨i, Bl, Nat.le_refl _, by omega, rfl, HN, HL, HB, HI, hbw⟩
            case round =>
              clear HN HL HB HI hbw Bl
              obtain ⟨j, Bl, hij2, hjt, rfl, HN, HL, HB, HI, hbw⟩ := hrel
              by_cases hjl : j ≤ to
              · have cN := HN.out.cell (j := j) (by rw [HL.out]; omega)
                have lN := HN.out.lt
                have fN := HN.out.fz j
                have hjM : j < M := by omega
                have hNB : NB ≠ B := by omega
                have HST : Hid (∀ b, (b = true ↔ factB Bl j = true ∨ symP inp (chB C) (R.getD k 0) i j) → StN inp (chB C) (R.getD k 0) fr to A i (j + 1) (Bl.set j b)) := fun b hb => HI.out.step HL.out hfi hij2 hjl htM HFA.out b hb
                have HLs : Hid (∀ b, (Bl.set j b).length = M) := fun b => by rw [List.length_set]; exact HL.out
                clear HI
                obtain ⟨fb, hfb⟩ : ∃ fb, factB Bl j = fb := ⟨_, rfl⟩
                rw [hfb] at cN
                have HFB : Hid (factB Bl j = fb) := hfb
                clear hfb
                cases fb with
                | true =>
                  have HSn : Hid (StN inp (chB C) (R.getD k 0) fr to A i (j + 1) (Bl.set j true)) := HST.out true ⟨fun _ => .inl HFB.out, fun _ => rfl⟩
                  have HNn : Hid (RowB (wr.setCell ⟨NB, j, none⟩ (.bool true)) NB (Bl.set j true)) := HN.out.set j true
                  have HBn : Hid (RowB (wr.setCell ⟨NB, j, none⟩ (.bool true)) B A) := HB.out.other (fun e => hNB e.symm)
                  have Hbn : Hid (Below w.heap.size w (wr.setCell ⟨NB, j, none⟩ (.bool true))) := below_set hbw hwl _ _
                  clear HST HN HB hbw
                  go_wp2
                  go_roundw
                  case rel => exact ⟨j + 1, _, by omega, by omega, by go_num, HNn, HLs.out _, HBn, HSn, Hbn.out⟩
                  case measure => simp [intOf]; omega
                | false =>
                  have hCs := HSYM.out wr k i j hbw hkl hij2 hjl
                  obtain ⟨b3, off3, hra, hb3, hc3⟩ := (HRI.out wr hbw).at hkl
                  subst hra
                  have HSY2 : Hid (R.getD k 0 = R.getD k 0) := rfl
                  generalize R.getD k 0 = sy at *
                  go_wp2_with fail
                  refine hCs.mono ?_
                  rintro e w6 ⟨⟨b, rfl, hb⟩, hb6⟩
                  have HSn : Hid (StN inp (chB C) sy fr to A i (j + 1) (Bl.set j b)) := HST.out b ⟨fun h => .inr (hb.1 h), fun h => h.elim (fun h => by rw [HFB.out] at h; cases h) hb.2⟩
                  have hN6 : RowB w6 NB Bl := (hb6.block _ lN).trans HN.out
                  have hB6 : RowB w6 B A := (hb6.block _ HB.out.lt).trans HB.out
                  have hbw6 := hbw.trans (hb6.mono hbw.size)
                  have f6 := hN6.fz j
                  have c6 := hN6.cell (j := j) (by rw [HL.out]; exact hjM)
                  have l6 := hN6.lt
                  have HNn : Hid (RowB (w6.setCell ⟨NB, j, none⟩ (.bool b)) NB (Bl.set j b)) := hN6.set j b
                  have HBn : Hid (RowB (w6.setCell ⟨NB, j, none⟩ (.bool b)) B A) := hB6.other (fun e => hNB e.symm)
                  have Hbn : Hid (Below w.heap.size w (w6.setCell ⟨NB, j, none⟩ (.bool b))) := below_set hbw6 hwl _ _
                  clear HST HN HB hbw hCs cN lN fN hb3 hc3 hb6 hN6 hB6 hbw6 hb
                  generalize factB Bl j = ff at *
                  go_wp2
                  go_roundw
                  case rel => exact ⟨j + 1, _, by omega, by omega, by go_num, HNn, HLs.out _, HBn, HSn, Hbn.out⟩
                  case measure => simp [intOf]; omega
              · have HS : Hid (StN inp (chB C) (R.getD k 0) fr to A (i + 1) (i + 1) Bl) := HI.out.row (by omega)
                clear HI
                go_wp2
                go_roundw
                case rel => exact ⟨i + 1, Bl, by omega, by omega, by go_num, HN, HL, HB, HS, hbw⟩
                case measure => simp [intOf]; omega
        · have HS : Hid (StA inp (chB C) R fr to (k + 1) Bl) := HI.out.done HSA.out hkl (by omega)
          clear HI
          go_wp2
          go_roundw
          case rel => exact ⟨k + 1, NB, Bl, by omega, by go_num, rfl, HN, HL, HS, hbw⟩
          case measure => simp [intOf]; omega
    · obtain rfl : k = R.length := by omega
      have c := HB.out.cell (j := to) (by rw [HAl.out]; exact htM)
      have l := HB.out.lt
      have HE : Hid (factB A to = true ↔ rowP inp (chB C) R fr to) := by
        show _ ↔ _
        rw [HSA.out to, List.take_length]
        exact ⟨fun h => h.2, fun h => ⟨Nat.le_refl _, h⟩⟩
      clear HSA
      generalize factB A to = fa at *
      go_wp2
      go_ret
      exact ⟨⟨fa, rfl, HE.out⟩, hbw⟩

end Go.Proofs.YtmkimaceioacgaaDoor
