/- Texts of the proof, put together: GCmp, GCmpW, GSnC. -/
import Derived.Test.YtmkimaceioacgaaDoorGk30
import Derived.Laws.Cover1
import Derived.StillTailTactics
namespace Go.Proofs.YtmkimaceioacgaaDoor
open Go.RowKit
set_option linter.unusedVariables false
set_option maxRecDepth 100000

def cmpY (s t : List UInt8) : Int := if Op.bytesLess s t = true then -1 else if (Op.bytesLess s t || s == t) = true then 0 else 1
set_option maxHeartbeats 2000000 in
theorem isNaNS_any (s : ByteArray) (w : World) : Calls Tryd.prog 75 #[.string s] w fun e w' => e = .returned (.bool false) ∧ w' = w := by
  have h1 : (s.toList == s.toList) = true := by simp
  go_enter Tryd.func75, Tryd.ntmps75
  go_wp2
  go_ret
  exact ⟨by simp, rfl⟩
set_option maxHeartbeats 2000000 in
theorem compareS_any (s t : ByteArray) (w : World) : Calls Tryd.prog 64 #[.string s, .string t] w fun e w' => e = .returned (.int .i64 (cmpY s.toList t.toList)) ∧ w' = w := by
  have hN1 := isNaNS_any s w
  have hN2 := isNaNS_any t w
  cases q1 : Op.bytesLess s.toList t.toList
  · cases q2 : s.toList == t.toList
    · have HE : Hid (cmpY s.toList t.toList = 1) := by show _ = _; unfold cmpY; simp only [q1, q2]; rfl
      go_enter Tryd.func64, Tryd.ntmps64
      go_wp2_with (first | (go_at_call 75; first | (refine hN1.mono ?_; rintro e w1 ⟨rfl, hw⟩; rw [hw]) | (refine hN2.mono ?_; rintro e w1 ⟨rfl, hw⟩; rw [hw])))
      go_ret
      exact ⟨by rw [HE.out]; rfl, rfl⟩
    · have HE : Hid (cmpY s.toList t.toList = 0) := by show _ = _; unfold cmpY; simp only [q1, q2]; rfl
      go_enter Tryd.func64, Tryd.ntmps64
      go_wp2_with (first | (go_at_call 75; first | (refine hN1.mono ?_; rintro e w1 ⟨rfl, hw⟩; rw [hw]) | (refine hN2.mono ?_; rintro e w1 ⟨rfl, hw⟩; rw [hw])))
      go_ret
      exact ⟨by rw [HE.out]; rfl, rfl⟩
  · have HE : Hid (cmpY s.toList t.toList = -1) := by show _ = _; unfold cmpY; simp only [q1]; rfl
    go_enter Tryd.func64, Tryd.ntmps64
    go_wp2_with (first | (go_at_call 75; first | (refine hN1.mono ?_; rintro e w1 ⟨rfl, hw⟩; rw [hw]) | (refine hN2.mono ?_; rintro e w1 ⟨rfl, hw⟩; rw [hw])))
    go_ret
    exact ⟨by rw [HE.out]; rfl, rfl⟩
def orZ : List Int → Int
  | [] => 0
  | x :: l => if x = 0 then orZ l else x
set_option maxHeartbeats 2000000 in
theorem or_any (x y z : Int) (B : Nat) (w : World) (hB : B < w.heap.size) (c0 : w.cell? ⟨B, 0, none⟩ = some (.int .i64 x)) (c1 : w.cell? ⟨B, 1, none⟩ = some (.int .i64 y)) (c2 : w.cell? ⟨B, 2, none⟩ = some (.int .i64 z)) :
    Calls Tryd.prog 62 #[.slice (some ⟨B, 0, none⟩) 3 3] w fun e w' => e = .returned (.int .i64 (orZ [x, y, z])) ∧ w' = w := by
  go_enter Tryd.func62, Tryd.ntmps62
  go_wp2
  go_loopw [8] (fun i wr => ∃ k : Nat, k ≤ 3 ∧ i = .int .i64 k ∧ Hid (orZ [x, y, z] = orZ ([x, y, z].drop k)) ∧ wr = w) (fun i _ => 3 - (intOf i).toNat)
  case atStart => exact ⟨0, by omega, rfl, rfl, rfl⟩
  case round =>
    obtain ⟨k, hk, rfl, HO, rfl⟩ := hrel
    by_cases hlt : k < 3
    · have hcell : wr.cell? ⟨B, k, none⟩ = some (.int .i64 ([x, y, z].getD k 0)) := by
        match k, hlt with
        | 0, _ => exact c0
        | 1, _ => exact c1
        | 2, _ => exact c2
      have HD : Hid ([x, y, z].drop k = [x, y, z].getD k 0 :: [x, y, z].drop (k + 1)) := by
        show _ = _
        match k, hlt with
        | 0, _ => rfl
        | 1, _ => rfl
        | 2, _ => rfl
      generalize [x, y, z].getD k 0 = v at *
      clear c0 c1 c2
      by_cases hv : v = 0
      · have HN : Hid (orZ [x, y, z] = orZ ([x, y, z].drop (k + 1))) := by
          show _ = _
          rw [HO.out, HD.out]
          show (if v = 0 then _ else v) = _
          rw [if_pos hv]
        subst hv
        clear HO HD
        go_wp2
        go_roundw
        case rel => exact ⟨k + 1, by omega, by go_num, HN, trivial⟩
        case measure => simp [intOf]; omega
      · have HN : Hid (orZ [x, y, z] = v) := by
          show _ = _
          rw [HO.out, HD.out]
          show (if v = 0 then _ else v) = _
          rw [if_neg hv]
        have hv2 : (v != 0) = true := by rw [bne_iff_ne]; exact hv
        clear HO HD
        go_wp2
        go_ret
        exact ⟨by rw [HN.out]; rfl, rfl⟩
    · obtain rfl : k = 3 := by omega
      have HN : Hid (orZ [x, y, z] = 0) := HO.out
      clear HO c0 c1 c2
      go_wp2
      go_ret
      exact ⟨by rw [HN.out]; rfl, rfl⟩

theorem byteU_lt (x y : Int) (hx : 0 ≤ x ∧ x < 256) (hy : 0 ≤ y ∧ y < 256) : (byteU x < byteU y) ↔ x < y := by
  rw [UInt8.lt_iff_toNat_lt, byteU_nat _ hx.1 hx.2, byteU_nat _ hy.1 hy.2]
  omega
theorem byteU_eq (x y : Int) (hx : 0 ≤ x ∧ x < 256) (hy : 0 ≤ y ∧ y < 256) : (byteU x == byteU y) = decide (x = y) := by
  by_cases e : x = y
  · subst e; simp
  · rw [decide_eq_false e, beq_eq_false_iff_ne]
    intro h
    have := congrArg UInt8.toNat h
    rw [byteU_nat _ hx.1 hx.2, byteU_nat _ hy.1 hy.2] at this
    omega
theorem bytesLess_enc : ∀ (a b : List Int), a.length = b.length → (∀ x ∈ a, 0 ≤ x ∧ x ≤ 300) → (∀ x ∈ b, 0 ≤ x ∧ x ≤ 300) → Op.bytesLess (encL a) (encL b) = lexLt a b
  | [], [], _, _, _ => rfl
  | [], _ :: _, h, _, _ => by simp at h
  | _ :: _, [], h, _, _ => by simp at h
  | x :: a, y :: b, h, ha, hb => by
    have hx := ha x (by simp)
    have hy := hb y (by simp)
    have ih := bytesLess_enc a b (by simpa using h) (fun z hz => ha z (by simp [hz])) (fun z hz => hb z (by simp [hz]))
    have ea : encL (x :: a) = byteU (x / 256) :: byteU (x % 256) :: encL a := by simp [encL]
    have eb : encL (y :: b) = byteU (y / 256) :: byteU (y % 256) :: encL b := by simp [encL]
    rw [ea, eb]
    show (decide (byteU (x / 256) < byteU (y / 256)) || (byteU (x / 256) == byteU (y / 256) && (decide (byteU (x % 256) < byteU (y % 256)) || (byteU (x % 256) == byteU (y % 256) && Op.bytesLess (encL a) (encL b))))) = if x = y then lexLt a b else decide (x < y)
    rw [ih, byteU_eq _ _ (by omega) (by omega), byteU_eq _ _ (by omega) (by omega)]
    have e1 : decide (byteU (x / 256) < byteU (y / 256)) = decide (x / 256 < y / 256) := decide_eq_decide.2 (byteU_lt _ _ (by omega) (by omega))
    have e2 : decide (byteU (x % 256) < byteU (y % 256)) = decide (x % 256 < y % 256) := decide_eq_decide.2 (byteU_lt _ _ (by omega) (by omega))
    rw [e1, e2]
    by_cases e : x = y
    · subst e
      rw [if_pos rfl]
      simp
    · rw [if_neg e]
      rcases Int.lt_trichotomy (x / 256) (y / 256) with h1 | h1 | h1
      · rw [decide_eq_true h1, decide_eq_true (show x < y by omega)]; rfl
      · rw [decide_eq_false (show ¬ x / 256 < y / 256 by omega), decide_eq_true h1, decide_eq_false (show ¬ x % 256 = y % 256 by omega)]
        simp only [Bool.false_or, Bool.true_and, Bool.false_and, Bool.or_false]
        exact decide_eq_decide.2 (by omega)
      · rw [decide_eq_false (show ¬ x / 256 < y / 256 by omega), decide_eq_false (show ¬ x / 256 = y / 256 by omega), decide_eq_false (show ¬ x < y by omega)]; rfl
/-- what compare answers -/
def cmpF (a b : SF) : Int := orZ [Lib.compareInt (knF b) (knF a), Lib.compareInt ((encL (txF a)).length : Int) ((encL (txF b)).length : Int), cmpY (encL (txF a)) (encL (txF b))]
theorem orZ3 (x y z : Int) : orZ [x, y, z] = if x = 0 then (if y = 0 then z else y) else x := by
  unfold orZ; split
  · unfold orZ; split
    · unfold orZ; split
      · rename_i h; rw [h]; rfl
      · rfl
    · rfl
  · rfl
theorem cmpF_bet (a b : SF) (ha : OkS a) (hb : OkS b) : decide (cmpF a b < 0) = betB a b := by
  unfold cmpF
  rw [orZ3]
  cases a using SF.cs with
  | non => cases b using SF.cs <;> simp [knF, txF, Lib.compareInt, encL, cmpY, betB, Op.bytesLess]
  | long => cases b using SF.cs <;> simp [knF, txF, Lib.compareInt, encL, cmpY, betB, Op.bytesLess]
  | told x =>
    cases b using SF.cs with
    | non => simp [knF, Lib.compareInt, betB]
    | long => simp [knF, Lib.compareInt, betB]
    | told y =>
      have h0 : Lib.compareInt (knF (.told y)) (knF (.told x)) = 0 := by show Lib.compareInt 2 2 = 0; rfl
      rw [h0, if_pos rfl]
      show decide ((if Lib.compareInt ((encL x).length : Int) ((encL y).length : Int) = 0 then cmpY (encL x) (encL y) else Lib.compareInt ((encL x).length : Int) ((encL y).length : Int)) < 0) = earB x y
      rw [encL_len, encL_len]
      unfold earB
      by_cases e : x.length = y.length
      · have hc : Lib.compareInt ((x.length * 2 : Nat) : Int) ((y.length * 2 : Nat) : Int) = 0 := by
          unfold Lib.compareInt
          rw [if_neg (by omega), if_neg (by omega)]
        rw [if_pos e, hc, if_pos rfl]
        unfold cmpY
        rw [bytesLess_enc x y e (ha x rfl).2 (hb y rfl).2]
        cases h : lexLt x y
        · simp only [Bool.false_eq_true, if_false]
          split <;> rfl
        · rfl
      · rw [if_neg e]
        by_cases h : x.length < y.length
        · have hc : Lib.compareInt ((x.length * 2 : Nat) : Int) ((y.length * 2 : Nat) : Int) = -1 := by
            unfold Lib.compareInt
            rw [if_pos (by omega)]
          rw [hc, decide_eq_true h]; rfl
        · have hc : Lib.compareInt ((x.length * 2 : Nat) : Int) ((y.length * 2 : Nat) : Int) = 1 := by
            unfold Lib.compareInt
            rw [if_neg (by omega), if_pos (by omega)]
          rw [hc, decide_eq_false h]; rfl

end Go.Proofs.YtmkimaceioacgaaDoor

namespace Go.Proofs.YtmkimaceioacgaaDoor
open Go.RowKit
set_option linter.unusedVariables false
set_option maxRecDepth 100000

set_option maxHeartbeats 4000000 in
theorem compare_any (a b : SF) (w : World) : Calls Tryd.prog 35 #[sfV a, sfV b] w fun e w' => e = .returned (.int .i64 (cmpF a b)) ∧ Below w.heap.size w w' := by
  have hC1 := Tryd.cmp_Compare_int (knF b) (knF a)
  have hC2 := Tryd.cmp_Compare_int ((encL (txF a)).length : Int) ((encL (txF b)).length : Int)
  have hC3 := compareS_any (encB a) (encB b)
  rw [encB_list, encB_list] at hC3
  have hOr := or_any (Lib.compareInt (knF b) (knF a)) (Lib.compareInt ((encL (txF a)).length : Int) ((encL (txF b)).length : Int)) (cmpY (encL (txF a)) (encL (txF b)))
  have hs1 : (encB a).size = (encL (txF a)).length := encB_size a
  have hs2 : (encB b).size = (encL (txF b)).length := encB_size b
  have HE : Hid (cmpF a b = orZ [Lib.compareInt (knF b) (knF a), Lib.compareInt ((encL (txF a)).length : Int) ((encL (txF b)).length : Int), cmpY (encL (txF a)) (encL (txF b))]) := rfl
  unfold sfV
  generalize Lib.compareInt (knF b) (knF a) = z1 at *
  generalize cmpY (encL (txF a)) (encL (txF b)) = z3 at *
  generalize knF a = ka at *
  generalize knF b = kb at *
  rw [← hs1, ← hs2] at hC2 hOr HE
  generalize Lib.compareInt ((encB a).size : Int) ((encB b).size : Int) = z2 at *
  generalize encB a = sa at *
  generalize encB b = sb at *
  clear hs1 hs2
  go_enter Tryd.func35, Tryd.ntmps35
  go_wp2_with fail
  have two : ∀ (W : World) (x y : Value), Below W.heap.size W (W.alloc (.cells #[x, y] 40)) ∧ W.heap.size < (W.alloc (.cells #[x, y] 40)).heap.size ∧ (W.alloc (.cells #[x, y] 40)).cell? ⟨W.heap.size, 0, none⟩ = some x ∧ (W.alloc (.cells #[x, y] 40)).cell? ⟨W.heap.size, 1, none⟩ = some y := fun W x y => by
    have h : (W.alloc (.cells #[x, y] 40)).heap[W.heap.size]? = some (.cells #[x, y] 40) := by
      show (W.heap.push _)[W.heap.size]? = _
      exact Array.getElem?_push_size
    refine ⟨alloc_below _ _, by rw [alloc_size]; omega, ?_, ?_⟩ <;> · simp only [World.cell?, h]; rfl
  obtain ⟨p1, p2, p3, p4⟩ := two w (.int .i64 ka) (.string sa)
  have hsz1 := alloc_size w (.cells #[.int .i64 ka, .string sa] 40)
  obtain ⟨r1, r2, r3, r4⟩ := two (w.alloc (.cells #[.int .i64 ka, .string sa] 40)) (.int .i64 kb) (.string sb)
  rw [hsz1] at r1 r2 r3 r4
  have p3' := (r1.cell (p := ⟨w.heap.size, 0, none⟩) (by show w.heap.size < _; omega)).trans p3
  have p4' := (r1.cell (p := ⟨w.heap.size, 1, none⟩) (by show w.heap.size < _; omega)).trans p4
  have hbb : Below w.heap.size w ((w.alloc (.cells #[.int .i64 ka, .string sa] 40)).alloc (.cells #[.int .i64 kb, .string sb] 40)) := p1.trans (r1.mono (by omega))
  generalize (w.alloc (.cells #[.int .i64 ka, .string sa] 40)).alloc (.cells #[.int .i64 kb, .string sb] 40) = W at *
  have hWl : w.heap.size < W.heap.size := by omega
  clear p1 p2 p3 p4 r1 hsz1 two
  go_still_tail 17, (show Tryd.prog.follows .mixedOrders = true by kernel_rfl)
  still_call (hC1 _)
  repeat still_step
  still_call (hC2 _)
  repeat still_step
  still_call (hC3 _)
  repeat still_step
  refine wpStill_nil ?_
  have hb9 : Below w.heap.size w (W.alloc (.cells #[.int .i64 z1, .int .i64 z2, .int .i64 z3] 3)).drew := (hbb.trans ((alloc_below W _).mono (show w.heap.size ≤ W.heap.size by omega))).trans ⟨rfl, rfl, rfl, Nat.le_refl _, fun _ _ => rfl⟩
  obtain ⟨o0, o1, o2⟩ := box3_cells W (.int .i64 z1) (.int .i64 z2) (.int .i64 z3) 3
  have hO9 := hOr W.heap.size (W.alloc (.cells #[.int .i64 z1, .int .i64 z2, .int .i64 z3] 3)).drew (by show _ < (W.alloc _).heap.size; rw [alloc_size]; exact Nat.lt_succ_self _) o0 o1 o2
  clear o0 o1 o2
  go_wp2_with fail
  refine hO9.mono ?_
  rintro e w1 ⟨rfl, hw1⟩
  rw [hw1]
  clear hw1
  go_wp2
  go_ret
  exact ⟨by rw [HE.out]; rfl, hb9⟩

end Go.Proofs.YtmkimaceioacgaaDoor

namespace Go.Proofs.YtmkimaceioacgaaDoor
open Go.RowKit
set_option linter.unusedVariables false
set_option maxRecDepth 100000

/-- a sentence that fills a block -/
def BoxS (w : World) (B : Nat) (a : SF) : Prop := w.heap[B]? = some (.cells #[.int .i64 (knF a), .string (encB a)] 40 (0, 0))
theorem BoxS.lt {w : World} {B : Nat} {a : SF} (h : BoxS w B a) : B < w.heap.size := (Array.getElem?_eq_some_iff.1 h).1
theorem BoxS.c0 {w : World} {B : Nat} {a : SF} (h : BoxS w B a) : w.cell? ⟨B, 0, none⟩ = some (.int .i64 (knF a)) := by unfold BoxS at h; simp only [World.cell?, h]; rfl
theorem BoxS.c1 {w : World} {B : Nat} {a : SF} (h : BoxS w B a) : w.cell? ⟨B, 1, none⟩ = some (.string (encB a)) := by unfold BoxS at h; simp only [World.cell?, h]; rfl
theorem BoxS.fz {w : World} {B : Nat} {a : SF} (h : BoxS w B a) (j : Nat) : w.frozen? ⟨B, j, none⟩ = false := by unfold BoxS at h; simp [World.frozen?, h]
theorem BoxS.set {w : World} {B : Nat} {a : SF} (h : BoxS w B a) (b : SF) : BoxS ((w.setCell ⟨B, 0, none⟩ (.int .i64 (knF b))).setCell ⟨B, 1, none⟩ (.string (encB b))) B b := by
  unfold BoxS at *
  rw [heap_setC _ _ _ _ _ _ (heap_setC _ _ _ _ _ _ h)]
  rfl
theorem BoxS.below {w w' : World} {B K : Nat} {a : SF} (h : BoxS w B a) (hb : Below K w w') (hB : B < K) : BoxS w' B a := (hb.block B hB).trans h
theorem BoxS.new (w : World) (a : SF) : BoxS (w.alloc (.cells #[.int .i64 (knF a), .string (encB a)] 40)) w.heap.size a := by
  show (w.heap.push _)[w.heap.size]? = _
  exact Array.getElem?_push_size
theorem encB_non : encB .non = ByteArray.empty := rfl

set_option maxHeartbeats 8000000 in
theorem sentencesC_any (N : Nat) (hN : N ≤ 300) (own : Nat → List PdR) (L : List SF) (v : Value) (n O : Nat) (hn : n < N) (w : World) (hol : (own n).length ≤ 400) (hsy : ∀ p ∈ own n, SymsL N p.right ∧ ∀ s ∈ p.right, s ≤ 300) (hL : L.length = N) (hok : ∀ n, OkS (factF L n)) (hv : SntR w v L) (hO : OwnM w O N own) :
    Calls Tryd.prog 33 #[v, .int .i64 n, .pointer (some ⟨O, 0, none⟩)] w fun e w' => e = .returned (sfV (bestF (factF L) (own n))) ∧ Below w.heap.size w w' := by
  obtain ⟨D, hOl, hDl, cO, hown⟩ := hO
  obtain ⟨ov, cD, hov⟩ := hown n hn
  clear hown
  generalize own n = l at *
  obtain ⟨oa, oc, rfl⟩ := hov.slice
  have HOV : Hid (PdsM w (.slice oa l.length oc) l) := hov
  clear hov
  have HV : Hid (SntR w v L) := hv
  obtain ⟨vD, vc, rfl, _, _⟩ := hv
  have HSY : Hid (∀ p ∈ l, SymsL N p.right ∧ ∀ s ∈ p.right, s ≤ 300) := hsy
  have HOK : Hid (∀ n, OkS (factF L n)) := hok
  have HLE : Hid (L.length = N) := hL
  rw [hL] at HV ⊢
  clear hsy hok hL
  have hb1 := alloc_below w (.cells #[.int .i64 0, .string ByteArray.empty] 40)
  have hs1 := alloc_size w (.cells #[.int .i64 0, .string ByteArray.empty] 40)
  have hb2 := alloc_below (w.alloc (.cells #[.int .i64 0, .string ByteArray.empty] 40)) (.cells #[.int .i64 0, .string ByteArray.empty] 40)
  have hB1 : BoxS (w.alloc (.cells #[.int .i64 0, .string ByteArray.empty] 40)) w.heap.size .non := BoxS.new w .non
  have hB2 : BoxS ((w.alloc (.cells #[.int .i64 0, .string ByteArray.empty] 40)).alloc (.cells #[.int .i64 0, .string ByteArray.empty] 40)) (w.alloc (.cells #[.int .i64 0, .string ByteArray.empty] 40)).heap.size .non := BoxS.new _ .non
  rw [hs1] at hB2 hb2
  have HB1 : Hid (BoxS ((w.alloc (.cells #[.int .i64 0, .string ByteArray.empty] 40)).alloc (.cells #[.int .i64 0, .string ByteArray.empty] 40)) w.heap.size .non) := hB1.below hb2 (Nat.lt_succ_self _)
  have HB2 : Hid (BoxS ((w.alloc (.cells #[.int .i64 0, .string ByteArray.empty] 40)).alloc (.cells #[.int .i64 0, .string ByteArray.empty] 40)) (w.heap.size + 1) .non) := hB2
  have hbb : Below w.heap.size w ((w.alloc (.cells #[.int .i64 0, .string ByteArray.empty] 40)).alloc (.cells #[.int .i64 0, .string ByteArray.empty] 40)) := hb1.trans (hb2.mono (Nat.le_succ _))
  have cO2 := (hbb.cell (p := ⟨O, 0, none⟩) hOl).trans cO
  have cD2 := (hbb.cell (p := ⟨D, n, none⟩) hDl).trans cD
  have hO2 : O < ((w.alloc (.cells #[.int .i64 0, .string ByteArray.empty] 40)).alloc (.cells #[.int .i64 0, .string ByteArray.empty] 40)).heap.size := Nat.lt_of_lt_of_le hOl hbb.size
  have hD2 : D < ((w.alloc (.cells #[.int .i64 0, .string ByteArray.empty] 40)).alloc (.cells #[.int .i64 0, .string ByteArray.empty] 40)).heap.size := Nat.lt_of_lt_of_le hDl hbb.size
  clear hb1 hs1 hb2 hB1 hB2
  go_enter Tryd.func33, Tryd.ntmps33
  go_wp2
  clear cO2 cD2 hO2 hD2
  go_loopw [15] (fun jv wr => ∃ (k : Nat) (acc : SF), k ≤ l.length ∧ jv = .int .i64 k ∧ Hid (bestF (factF L) (l.take k) = acc) ∧ Hid (OkS acc) ∧ Hid (BoxS wr w.heap.size .non) ∧ Hid (BoxS wr (w.heap.size + 1) acc) ∧ Below w.heap.size w wr) (fun jv _ => l.length - (intOf jv).toNat)
  case atStart => exact ⟨0, .non, Nat.zero_le _, rfl, rfl, (fun l hl => by simp at hl), HB1, HB2, hbb⟩
  case round =>
    clear HB1 HB2 hbb
    obtain ⟨k, acc, hk, rfl, HBE, HOA, HB1, HB2, hbw⟩ := hrel
    have hR1 := HB1.out.lt
    have hR2 := HB2.out.lt
    by_cases hlt : k < l.length
    · obtain ⟨b, off, rv, rfl, hb, hpd⟩ := (HOV.out.below hbw).at hlt
      have HT : Hid (bestF (factF L) (l.take (k + 1)) = stepF (factF L) acc (l.getD k noPd)) := by show _ = _; rw [bestF_take _ _ _ hlt, HBE.out]
      have hSy := HSY.out (l.getD k noPd) (by simp [List.getD, hlt])
      generalize l.getD k noPd = p at *
      obtain ⟨left, right, level⟩ := p
      obtain ⟨c0, c1, c2, hr⟩ := hpd
      simp only at c0 c1 c2 hr hSy
      have hA := alloc_below wr (.cells #[.int .i64 left, rv, .int .i64 level] 38)
      have hAs := alloc_size wr (.cells #[.int .i64 left, rv, .int .i64 level] 38)
      have hCa := rowSentence_any N hN L right rv (.slice (some ⟨vD, 0, none⟩) N vc) (wr.alloc (.cells #[.int .i64 left, rv, .int .i64 level] 38)) hSy.1 hSy.2 HLE.out HOK.out (hr.below hA) ((HV.out.below hbw).below hA)
      have HOZ : Hid (OkS (rowF (factF L) right)) := rowF_ok HOK.out right hSy.2
      have HT2 : Hid (bestF (factF L) (l.take (k + 1)) = if betB (rowF (factF L) right) acc then rowF (factF L) right else acc) := HT.out
      obtain ⟨p0, p1, p2⟩ := box3_cells wr (.int .i64 left) rv (.int .i64 level) 38
      obtain ⟨ra, rc, rfl⟩ := hr.slice
      generalize rowF (factF L) right = z at *
      clear hr hSy HT
      have hB1' := HB1.out.below hA hR1
      have hB2' := HB2.out.below hA hR2
      have hbA := hbw.trans (hA.mono hbw.size)
      have hlt9 : wr.heap.size < (wr.alloc (.cells #[.int .i64 left, .slice ra right.length rc, .int .i64 level] 38)).heap.size := by rw [hAs]; exact Nat.lt_succ_self _
      have hle9 := hA.size
      unfold sfV at hCa
      go_wp2_with fail
      refine hCa.mono ?_
      rintro e w3 ⟨rfl, hb3⟩
      clear hCa p0 p1 p2 c0 c1 c2 hAs
      generalize wr.alloc (.cells #[.int .i64 left, .slice ra right.length rc, .int .i64 level] 38) = w1 at *
      have hA4 := alloc_below w3 (.cells #[.int .i64 (knF z), .string (encB z)] 40)
      have hBz := BoxS.new w3 z
      have hb4 := hb3.trans (hA4.mono hb3.size)
      have hB1'' := hB1'.below hb4 (by omega)
      have hB2'' := hB2'.below hb4 (by omega)
      have hbw4 := hbA.trans (hb4.mono hbA.size)
      have hbz0 := hBz.c0
      have hbz1 := hBz.c1
      have hbzl := hBz.lt
      have hac0 := hB2''.c0
      have hac1 := hB2''.c1
      have hacl := hB2''.lt
      have hCm := compare_any z acc (w3.alloc (.cells #[.int .i64 (knF z), .string (encB z)] 40))
      have hbt := cmpF_bet z acc HOZ.out HOA.out
      unfold sfV at hCm
      go_wp2_with fail
      refine hCm.mono ?_
      rintro e w5 ⟨rfl, hb5⟩
      clear hCm
      have hBz5 := hBz.below hb5 hbzl
      have hB15 := hB1''.below hb5 hB1''.lt
      have hB25 := hB2''.below hb5 hB2''.lt
      have hbw5 := hbw4.trans (hb5.mono hbw4.size)
      clear hbz0 hbz1 hbzl hac0 hac1 hacl hBz hB1'' hB2'' hB1' hB2' hb4 hbw4 hb5 hA4
      have hz0 := hBz5.c0
      have hz1 := hBz5.c1
      have hzl := hBz5.lt
      cases hq : betB z acc
      · have HN : Hid (bestF (factF L) (l.take (k + 1)) = acc) := by show _ = _; rw [HT2.out, hq]; rfl
        rw [hq] at hbt
        have hge : ¬ cmpF z acc < 0 := of_decide_eq_false hbt
        have HB15 : Hid (BoxS w5 w.heap.size .non) := hB15
        have HB25 : Hid (BoxS w5 (w.heap.size + 1) acc) := hB25
        clear hB15 hB25 HT2
        generalize cmpF z acc = cz at *
        go_wp2
        go_roundw
        case rel => exact ⟨k + 1, acc, by omega, by go_num, HN, HOA, HB15, HB25, hbw5⟩
        case measure => simp [intOf]; omega
      · have HN : Hid (bestF (factF L) (l.take (k + 1)) = z) := by show _ = _; rw [HT2.out, hq]; rfl
        rw [hq] at hbt
        have hge : cmpF z acc < 0 := of_decide_eq_true hbt
        have hz2 : w.heap.size + 1 < w5.heap.size := hB25.lt
        have ha0 := hB25.c0
        have ha1 := hB25.c1
        have hf0 := hB25.fz 0
        have hf1 := hB25.fz 1
        have HB25 : Hid (BoxS ((w5.setCell ⟨w.heap.size + 1, 0, none⟩ (.int .i64 (knF z))).setCell ⟨w.heap.size + 1, 1, none⟩ (.string (encB z))) (w.heap.size + 1) z) := hB25.set z
        have HB15 : Hid (BoxS ((w5.setCell ⟨w.heap.size + 1, 0, none⟩ (.int .i64 (knF z))).setCell ⟨w.heap.size + 1, 1, none⟩ (.string (encB z))) w.heap.size .non) := by
          show _ = _
          rw [Below.heap_setCell _ _ _ _ (by simp), Below.heap_setCell _ _ _ _ (by simp)]
          exact hB15
        have hbw6 : Below w.heap.size w ((w5.setCell ⟨w.heap.size + 1, 0, none⟩ (.int .i64 (knF z))).setCell ⟨w.heap.size + 1, 1, none⟩ (.string (encB z))) := below_set (below_set hbw5 (Nat.le_succ _) 0 _) (Nat.le_succ _) 1 _
        clear hB15 hB25 HT2
        generalize cmpF z acc = cz at *
        go_wp2
        go_roundw
        case rel => exact ⟨k + 1, z, by omega, by go_num, HN, HOZ, HB15, HB25, hbw6⟩
        case measure => simp [intOf]; omega
    · have HE : Hid (bestF (factF L) l = acc) := by
        have := HBE.out
        rw [List.take_of_length_le (by omega)] at this
        exact this
      have e0 := HB2.out.c0
      have e1 := HB2.out.c1
      have r0 := HB1.out.c0
      have r1 := HB1.out.c1
      have f0 := HB1.out.fz 0
      have f1 := HB1.out.fz 1
      have HR : Hid (BoxS ((wr.setCell ⟨w.heap.size, 0, none⟩ (.int .i64 (knF acc))).setCell ⟨w.heap.size, 1, none⟩ (.string (encB acc))) w.heap.size acc) := HB1.out.set acc
      have hbw6 : Below w.heap.size w ((wr.setCell ⟨w.heap.size, 0, none⟩ (.int .i64 (knF acc))).setCell ⟨w.heap.size, 1, none⟩ (.string (encB acc))) := below_set (below_set hbw (Nat.le_refl _) 0 _) (Nat.le_refl _) 1 _
      clear HB1 HB2
      go_wp2
      have hres0 := HR.out.c0
      have hres1 := HR.out.c1
      refine bodyPost_ret (v := .agg #[.int .i64 (knF acc), .string (encB acc)]) ?_ rfl ?_
      · generalize (wr.setCell ⟨w.heap.size, 0, none⟩ (.int .i64 (knF acc))).setCell ⟨w.heap.size, 1, none⟩ (.string (encB acc)) = W at *
        simp [results, go_sem, hres0, hres1]
      · exact ⟨by rw [HE.out]; rfl, hbw6⟩

end Go.Proofs.YtmkimaceioacgaaDoor
