/- The program: what the productions of a name say of its sentences. -/
import Derived.Test.YtbgnhegfabpjnaaGCmpW
namespace Go.Proofs.Ytbgnhegfabpjnaa
open Go.RowKit
set_option linter.unusedVariables false
set_option maxRecDepth 100000

/-- a sentence that fills a block -/
def BoxS (w : World) (B : Nat) (a : SF) : Prop := w.heap[B]? = some (.cells #[.int .i64 (knF a), .string (encB a)] 35 (0, 0))
theorem BoxS.lt {w : World} {B : Nat} {a : SF} (h : BoxS w B a) : B < w.heap.size := (Array.getElem?_eq_some_iff.1 h).1
theorem BoxS.c0 {w : World} {B : Nat} {a : SF} (h : BoxS w B a) : w.cell? ⟨B, 0, none⟩ = some (.int .i64 (knF a)) := by unfold BoxS at h; simp only [World.cell?, h]; rfl
theorem BoxS.c1 {w : World} {B : Nat} {a : SF} (h : BoxS w B a) : w.cell? ⟨B, 1, none⟩ = some (.string (encB a)) := by unfold BoxS at h; simp only [World.cell?, h]; rfl
theorem BoxS.fz {w : World} {B : Nat} {a : SF} (h : BoxS w B a) (j : Nat) : w.frozen? ⟨B, j, none⟩ = false := by unfold BoxS at h; simp [World.frozen?, h]
theorem BoxS.set {w : World} {B : Nat} {a : SF} (h : BoxS w B a) (b : SF) : BoxS ((w.setCell ⟨B, 0, none⟩ (.int .i64 (knF b))).setCell ⟨B, 1, none⟩ (.string (encB b))) B b := by
  unfold BoxS at *
  rw [heap_setC _ _ _ _ _ _ (heap_setC _ _ _ _ _ _ h)]
  rfl
theorem BoxS.below {w w' : World} {B K : Nat} {a : SF} (h : BoxS w B a) (hb : Below K w w') (hB : B < K) : BoxS w' B a := (hb.block B hB).trans h
theorem BoxS.new (w : World) (a : SF) : BoxS (w.alloc (.cells #[.int .i64 (knF a), .string (encB a)] 35)) w.heap.size a := by
  show (w.heap.push _)[w.heap.size]? = _
  exact Array.getElem?_push_size
theorem encB_non : encB .non = ByteArray.empty := rfl

set_option maxHeartbeats 8000000 in
theorem sentencesC_any (N : Nat) (hN : N ≤ 300) (own : Nat → List PdR) (L : List SF) (v : Value) (n O : Nat) (hn : n < N) (w : World) (hol : (own n).length ≤ 400) (hsy : ∀ p ∈ own n, SymsL N p.right ∧ ∀ s ∈ p.right, s ≤ 300) (hL : L.length = N) (hok : ∀ n, OkS (factF L n)) (hv : SntR w v L) (hO : OwnM w O N own) :
    Calls Try.prog 25 #[v, .int .i64 n, .pointer (some ⟨O, 0, none⟩)] w fun e w' => e = .returned (sfV (bestF (factF L) (own n))) ∧ Below w.heap.size w w' := by
  obtain ⟨D, hOl, hDl, cO, hown⟩ := hO
  obtain ⟨ov, cD, hov⟩ := hown n hn
  clear hown
  generalize own n = l at *
  obtain ⟨oa, oc, rfl⟩ := hov.slice
  have HOV : Hid (PdsM w (.slice oa l.length oc) l) := hov
  clear hov
  have HV : Hid (SntR w v L) := hv
  obtain ⟨vD, vc, rfl, _, _⟩ := hv
  have HSY : Hid (∀ p ∈ l, SymsL N p.right ∧ ∀ s ∈ p.right, s ≤ 300) := hsy
  have HOK : Hid (∀ n, OkS (factF L n)) := hok
  have HLE : Hid (L.length = N) := hL
  rw [hL] at HV ⊢
  clear hsy hok hL
  have hb1 := alloc_below w (.cells #[.int .i64 0, .string ByteArray.empty] 35)
  have hs1 := alloc_size w (.cells #[.int .i64 0, .string ByteArray.empty] 35)
  have hb2 := alloc_below (w.alloc (.cells #[.int .i64 0, .string ByteArray.empty] 35)) (.cells #[.int .i64 0, .string ByteArray.empty] 35)
  have hB1 : BoxS (w.alloc (.cells #[.int .i64 0, .string ByteArray.empty] 35)) w.heap.size .non := BoxS.new w .non
  have hB2 : BoxS ((w.alloc (.cells #[.int .i64 0, .string ByteArray.empty] 35)).alloc (.cells #[.int .i64 0, .string ByteArray.empty] 35)) (w.alloc (.cells #[.int .i64 0, .string ByteArray.empty] 35)).heap.size .non := BoxS.new _ .non
  rw [hs1] at hB2 hb2
  have HB1 : Hid (BoxS ((w.alloc (.cells #[.int .i64 0, .string ByteArray.empty] 35)).alloc (.cells #[.int .i64 0, .string ByteArray.empty] 35)) w.heap.size .non) := hB1.below hb2 (Nat.lt_succ_self _)
  have HB2 : Hid (BoxS ((w.alloc (.cells #[.int .i64 0, .string ByteArray.empty] 35)).alloc (.cells #[.int .i64 0, .string ByteArray.empty] 35)) (w.heap.size + 1) .non) := hB2
  have hbb : Below w.heap.size w ((w.alloc (.cells #[.int .i64 0, .string ByteArray.empty] 35)).alloc (.cells #[.int .i64 0, .string ByteArray.empty] 35)) := hb1.trans (hb2.mono (Nat.le_succ _))
  have cO2 := (hbb.cell (p := ⟨O, 0, none⟩) hOl).trans cO
  have cD2 := (hbb.cell (p := ⟨D, n, none⟩) hDl).trans cD
  have hO2 : O < ((w.alloc (.cells #[.int .i64 0, .string ByteArray.empty] 35)).alloc (.cells #[.int .i64 0, .string ByteArray.empty] 35)).heap.size := Nat.lt_of_lt_of_le hOl hbb.size
  have hD2 : D < ((w.alloc (.cells #[.int .i64 0, .string ByteArray.empty] 35)).alloc (.cells #[.int .i64 0, .string ByteArray.empty] 35)).heap.size := Nat.lt_of_lt_of_le hDl hbb.size
  clear hb1 hs1 hb2 hB1 hB2
  go_enter Try.func25, Try.ntmps25
  go_wp2
  clear cO2 cD2 hO2 hD2
  go_loopw [15] (fun jv wr => ∃ (k : Nat) (acc : SF), k ≤ l.length ∧ jv = .int .i64 k ∧ Hid (bestF (factF L) (l.take k) = acc) ∧ Hid (OkS acc) ∧ Hid (BoxS wr w.heap.size .non) ∧ Hid (BoxS wr (w.heap.size + 1) acc) ∧ Below w.heap.size w wr) (fun jv _ => l.length - (intOf jv).toNat)
  case atStart => exact ⟨0, .non, Nat.zero_le _, rfl, rfl, (fun l hl => by simp at hl), HB1, HB2, hbb⟩
  case round =>
    clear HB1 HB2 hbb
    obtain ⟨k, acc, hk, rfl, HBE, HOA, HB1, HB2, hbw⟩ := hrel
    have hR1 := HB1.out.lt
    have hR2 := HB2.out.lt
    by_cases hlt : k < l.length
    · obtain ⟨b, off, rv, rfl, hb, hpd⟩ := (HOV.out.below hbw).at hlt
      have HT : Hid (bestF (factF L) (l.take (k + 1)) = stepF (factF L) acc (l.getD k noPd)) := by show _ = _; rw [bestF_take _ _ _ hlt, HBE.out]
      have hSy := HSY.out (l.getD k noPd) (by simp [List.getD, hlt])
      generalize l.getD k noPd = p at *
      obtain ⟨left, right, level⟩ := p
      obtain ⟨c0, c1, c2, hr⟩ := hpd
      simp only at c0 c1 c2 hr hSy
      have hA := alloc_below wr (.cells #[.int .i64 left, rv, .int .i64 level] 33)
      have hAs := alloc_size wr (.cells #[.int .i64 left, rv, .int .i64 level] 33)
      have hCa := rowSentence_any N hN L right rv (.slice (some ⟨vD, 0, none⟩) N vc) (wr.alloc (.cells #[.int .i64 left, rv, .int .i64 level] 33)) hSy.1 hSy.2 HLE.out HOK.out (hr.below hA) ((HV.out.below hbw).below hA)
      have HOZ : Hid (OkS (rowF (factF L) right)) := rowF_ok HOK.out right hSy.2
      have HT2 : Hid (bestF (factF L) (l.take (k + 1)) = if betB (rowF (factF L) right) acc then rowF (factF L) right else acc) := HT.out
      obtain ⟨p0, p1, p2⟩ := box3_cells wr (.int .i64 left) rv (.int .i64 level) 33
      obtain ⟨ra, rc, rfl⟩ := hr.slice
      generalize rowF (factF L) right = z at *
      clear hr hSy HT
      have hB1' := HB1.out.below hA hR1
      have hB2' := HB2.out.below hA hR2
      have hbA := hbw.trans (hA.mono hbw.size)
      have hlt9 : wr.heap.size < (wr.alloc (.cells #[.int .i64 left, .slice ra right.length rc, .int .i64 level] 33)).heap.size := by rw [hAs]; exact Nat.lt_succ_self _
      have hle9 := hA.size
      unfold sfV at hCa
      go_wp2_with fail
      refine hCa.mono ?_
      rintro e w3 ⟨rfl, hb3⟩
      clear hCa p0 p1 p2 c0 c1 c2 hAs
      generalize wr.alloc (.cells #[.int .i64 left, .slice ra right.length rc, .int .i64 level] 33) = w1 at *
      have hA4 := alloc_below w3 (.cells #[.int .i64 (knF z), .string (encB z)] 35)
      have hBz := BoxS.new w3 z
      have hb4 := hb3.trans (hA4.mono hb3.size)
      have hB1'' := hB1'.below hb4 (by omega)
      have hB2'' := hB2'.below hb4 (by omega)
      have hbw4 := hbA.trans (hb4.mono hbA.size)
      have hbz0 := hBz.c0
      have hbz1 := hBz.c1
      have hbzl := hBz.lt
      have hac0 := hB2''.c0
      have hac1 := hB2''.c1
      have hacl := hB2''.lt
      have hCm := compare_any z acc (w3.alloc (.cells #[.int .i64 (knF z), .string (encB z)] 35))
      have hbt := cmpF_bet z acc HOZ.out HOA.out
      unfold sfV at hCm
      go_wp2_with fail
      refine hCm.mono ?_
      rintro e w5 ⟨rfl, hb5⟩
      clear hCm
      have hBz5 := hBz.below hb5 hbzl
      have hB15 := hB1''.below hb5 hB1''.lt
      have hB25 := hB2''.below hb5 hB2''.lt
      have hbw5 := hbw4.trans (hb5.mono hbw4.size)
      clear hbz0 hbz1 hbzl hac0 hac1 hacl hBz hB1'' hB2'' hB1' hB2' hb4 hbw4 hb5 hA4
      have hz0 := hBz5.c0
      have hz1 := hBz5.c1
      have hzl := hBz5.lt
      cases hq : betB z acc
      · have HN : Hid (bestF (factF L) (l.take (k + 1)) = acc) := by show _ = _; rw [HT2.out, hq]; rfl
        rw [hq] at hbt
        have hge : ¬ cmpF z acc < 0 := of_decide_eq_false hbt
        have HB15 : Hid (BoxS w5 w.heap.size .non) := hB15
        have HB25 : Hid (BoxS w5 (w.heap.size + 1) acc) := hB25
        clear hB15 hB25 HT2
        generalize cmpF z acc = cz at *
        go_wp2
        go_roundw
        case rel => exact ⟨k + 1, acc, by omega, by go_num, HN, HOA, HB15, HB25, hbw5⟩
        case measure => simp [intOf]; omega
      · have HN : Hid (bestF (factF L) (l.take (k + 1)) = z) := by show _ = _; rw [HT2.out, hq]; rfl
        rw [hq] at hbt
        have hge : cmpF z acc < 0 := of_decide_eq_true hbt
        have hz2 : w.heap.size + 1 < w5.heap.size := hB25.lt
        have ha0 := hB25.c0
        have ha1 := hB25.c1
        have hf0 := hB25.fz 0
        have hf1 := hB25.fz 1
        have HB25 : Hid (BoxS ((w5.setCell ⟨w.heap.size + 1, 0, none⟩ (.int .i64 (knF z))).setCell ⟨w.heap.size + 1, 1, none⟩ (.string (encB z))) (w.heap.size + 1) z) := hB25.set z
        have HB15 : Hid (BoxS ((w5.setCell ⟨w.heap.size + 1, 0, none⟩ (.int .i64 (knF z))).setCell ⟨w.heap.size + 1, 1, none⟩ (.string (encB z))) w.heap.size .non) := by
          show _ = _
          rw [Below.heap_setCell _ _ _ _ (by simp), Below.heap_setCell _ _ _ _ (by simp)]
          exact hB15
        have hbw6 : Below w.heap.size w ((w5.setCell ⟨w.heap.size + 1, 0, none⟩ (.int .i64 (knF z))).setCell ⟨w.heap.size + 1, 1, none⟩ (.string (encB z))) := below_set (below_set hbw5 (Nat.le_succ _) 0 _) (Nat.le_succ _) 1 _
        clear hB15 hB25 HT2
        generalize cmpF z acc = cz at *
        go_wp2
        go_roundw
        case rel => exact ⟨k + 1, z, by omega, by go_num, HN, HOZ, HB15, HB25, hbw6⟩
        case measure => simp [intOf]; omega
    · have HE : Hid (bestF (factF L) l = acc) := by
        have := HBE.out
        rw [List.take_of_length_le (by omega)] at this
        exact this
      have e0 := HB2.out.c0
      have e1 := HB2.out.c1
      have r0 := HB1.out.c0
      have r1 := HB1.out.c1
      have f0 := HB1.out.fz 0
      have f1 := HB1.out.fz 1
      have HR : Hid (BoxS ((wr.setCell ⟨w.heap.size, 0, none⟩ (.int .i64 (knF acc))).setCell ⟨w.heap.size, 1, none⟩ (.string (encB acc))) w.heap.size acc) := HB1.out.set acc
      have hbw6 : Below w.heap.size w ((wr.setCell ⟨w.heap.size, 0, none⟩ (.int .i64 (knF acc))).setCell ⟨w.heap.size, 1, none⟩ (.string (encB acc))) := below_set (below_set hbw (Nat.le_refl _) 0 _) (Nat.le_refl _) 1 _
      clear HB1 HB2
      go_wp2
      have hres0 := HR.out.c0
      have hres1 := HR.out.c1
      refine bodyPost_ret (v := .agg #[.int .i64 (knF acc), .string (encB acc)]) ?_ rfl ?_
      · generalize (wr.setCell ⟨w.heap.size, 0, none⟩ (.int .i64 (knF acc))).setCell ⟨w.heap.size, 1, none⟩ (.string (encB acc)) = W at *
        simp [results, go_sem, hres0, hres1]
      · exact ⟨by rw [HE.out]; rfl, hbw6⟩

end Go.Proofs.Ytbgnhegfabpjnaa
