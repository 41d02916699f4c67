/- Texts of the proof, put together: GOkQ, GOkS. -/
import Derived.Test.YtmkimaceioacgaaDoorGk01
import Derived.Shelf.Abstract
namespace Go.Proofs.YtmkimaceioacgaaDoor
open Go.RowKit
set_option linter.unusedVariables false
set_option maxRecDepth 100000

set_option maxHeartbeats 1000000 in
theorem levelsC_any (g : Gm) (pv lv : Value) (sa : Option Addr) (m sc B : Nat) (x : Int) (w : World) (hbx : BoxG w B g pv lv (.slice sa m sc)) :
    Calls Tryd.prog 25 #[.int .i64 x, .pointer (some ⟨B, 0, none⟩)] w fun e w' => e = .returned (.bool (!lvlB m x)) ∧ Below w.heap.size w w' := by
  obtain ⟨q0, q1, q2, q3, q4, q5, q6⟩ := hbx
  have HL : Hid (Calls Tryd.prog 26 #[gv g pv lv (.slice sa m sc), .int .i64 x] w fun e w' => e = .returned (.bool (lvlB m x)) ∧ Below w.heap.size w w') := isLevel_any g pv lv sa m sc x w
  unfold gv gvs at HL
  obtain ⟨t, nm, s, ps, ls, ss⟩ := g
  simp only at *
  generalize lvlB m x = bb at *
  go_enter Tryd.func25, Tryd.ntmps25
  go_wp2_with fail
  refine HL.out.mono ?_
  rintro e w1 ⟨rfl, hb⟩
  go_wp2
  go_ret
  exact ⟨rfl, hb⟩

set_option maxHeartbeats 1000000 in
theorem prodC_any (g : Gm) (pv lv sv : Value) (B : Nat) (x : Int) (hx : I64 x) (ht : 0 ≤ g.terms) (hn : 0 ≤ g.names) (w : World) (hbx : BoxG w B g pv lv sv) :
    Calls Tryd.prog 52 #[.int .i64 x, .pointer (some ⟨B, 0, none⟩)] w fun e w' => e = .returned (.bool (!symB g.terms g.names x)) ∧ Below w.heap.size w w' := by
  obtain ⟨q0, q1, q2, q3, q4, q5, q6⟩ := hbx
  have HL : Hid (Calls Tryd.prog 53 #[gv g pv lv sv, .int .i64 x] w fun e w' => e = .returned (.bool (symB g.terms g.names x)) ∧ Below w.heap.size w w') := isSymbol_any g pv lv sv x hx ht hn w
  unfold gv gvs at HL
  obtain ⟨t, nm, s, ps, ls, ss⟩ := g
  simp only at *
  clear hx ht hn
  generalize symB t nm x = bb at *
  go_enter Tryd.func52, Tryd.ntmps52
  go_wp2_with fail
  refine HL.out.mono ?_
  rintro e w1 ⟨rfl, hb⟩
  go_wp2
  go_ret
  exact ⟨rfl, hb⟩

/-- a production's values -/
def pdv (p : PdR) (rv : Value) : Value := .agg #[.int .i64 p.left, rv, .int .i64 p.level]
theorem not_any_not (l : List Int) (f : Int → Bool) : (!l.any fun x => !f x) = l.all f := by
  induction l with
  | nil => rfl
  | cons x l ih => simp only [List.any_cons, List.all_cons, Bool.not_or, Bool.not_not, ih]

set_option maxHeartbeats 2000000 in
theorem prodHolds_any (g : Gm) (pv lv : Value) (sa : Option Addr) (m sc : Nat) (p : PdR) (rv : Value) (hx : ∀ x ∈ p.right, I64 x) (ht : 0 ≤ g.terms) (hn : 0 ≤ g.names) (w : World) (hr : IntsR w rv p.right) :
    Calls Tryd.prog 29 #[gv g pv lv (.slice sa m sc), pdv p rv] w fun e w' => e = .returned (.bool (pdB g.terms g.names m p)) ∧ Below w.heap.size w w' := by
  have hen : ∀ args w, (callFunc 52 args).run Tryd.prog w = .ok (.enter 52 args) w := enters_of Tryd.func52 (by kernel_rfl) rfl
  have hmf : ∀ (fn : Fn) (first cap : Array Value) (w : World), (Instr.makeFunc fn first cap).run Tryd.prog w = .ok (.func fn first cap) w := fun _ _ _ _ => rfl
  have hB0 := boxG_below w g pv lv (.slice sa m sc)
  have hB2 := boxG_box w g pv lv (.slice sa m sc)
  have hP0 := alloc_below (boxG w g pv lv (.slice sa m sc)) (.cells #[.int .i64 p.left, rv, .int .i64 p.level] 38)
  have hP1 := box3_cells (boxG w g pv lv (.slice sa m sc)) (.int .i64 p.left) rv (.int .i64 p.level) 38
  have hP2 := alloc_size (boxG w g pv lv (.slice sa m sc)) (.cells #[.int .i64 p.left, rv, .int .i64 p.level] 38)
  have hB1 := boxG_size w g pv lv (.slice sa m sc)
  have hBX := hB2.below hB2.lt hP0
  have hW := hB0.trans (hP0.mono (by omega))
  have HR : Hid (IntsR ((boxG w g pv lv (.slice sa m sc)).alloc (.cells #[.int .i64 p.left, rv, .int .i64 p.level] 38)) rv p.right) := hr.below hW
  obtain ⟨ra, rc, rfl⟩ := hr.slice
  clear hr hP0 hB2
  have HN : Hid (∀ w', Calls Tryd.prog 23 #[gv g pv lv (.slice sa m sc), .int .i64 p.left] w' fun e w'' => e = .returned (.bool (decide (0 ≤ p.left) && decide (p.left < g.names))) ∧ Below w'.heap.size w' w'') := fun w' => isName_any g pv lv _ _ w'
  have HL : Hid (∀ w', Calls Tryd.prog 26 #[gv g pv lv (.slice sa m sc), .int .i64 p.level] w' fun e w'' => e = .returned (.bool (lvlB m p.level)) ∧ Below w'.heap.size w' w'') := fun w' => isLevel_any g pv lv sa m sc _ w'
  have HC : Hid (∀ w', BoxG w' w.heap.size g pv lv (.slice sa m sc) → IntsR w' (.slice ra p.right.length rc) p.right → p.right.length ≤ 20 → Calls Tryd.prog 24 #[.slice ra p.right.length rc, .func (.func 52) #[] #[.pointer (some ⟨w.heap.size, 0, none⟩)]] w' fun e w'' => e = .returned (.bool (p.right.any fun x => !symB g.terms g.names x)) ∧ Below w'.heap.size w' w'') := fun w' hb hi hl =>
    containsI_any 52 hen _ _ (fun x => !symB g.terms g.names x) p.right w' (by omega) hi (fun w2 x hxm hb2 => prodC_any g pv lv _ _ x (hx x hxm) ht hn w2 (hb.below hb.lt hb2))
  have HE : Hid (pdB g.terms g.names m p = ((decide (0 ≤ p.left) && decide (p.left < g.names)) && (decide (p.right.length ≤ 20) && (lvlB m p.level && !(p.right.any fun x => !symB g.terms g.names x))))) := by
    show _ = _
    rw [not_any_not]
    unfold pdB lvlB
    cases decide (0 ≤ p.left) <;> cases decide (p.left < g.names) <;> cases decide (0 ≤ p.level) <;> cases decide (p.level ≤ (m : Int)) <;> cases decide (p.right.length ≤ 20) <;> rfl
  rw [HE.out]
  clear HE hx ht hn hen
  generalize (decide (0 ≤ p.left) && decide (p.left < g.names)) = b1 at *
  generalize lvlB m p.level = b2 at *
  generalize (p.right.any fun x => !symB g.terms g.names x) = b3 at *
  generalize hb4 : decide (p.right.length ≤ 20) = b4 at *
  have HB4 : Hid (decide (p.right.length ≤ 20) = b4) := hb4
  clear hb4
  obtain ⟨p0, p1, p2⟩ := hP1
  rw [hB1] at p0 p1 p2 hP2
  clear hB1
  have HBX : Hid (BoxG ((boxG w g pv lv (.slice sa m sc)).alloc (.cells #[.int .i64 p.left, .slice ra p.right.length rc, .int .i64 p.level] 38)) w.heap.size g pv lv (.slice sa m sc)) := hBX
  clear hBX
  obtain ⟨left, right, level⟩ := p
  obtain ⟨t, nm, s, ps, ls, ss⟩ := g
  unfold boxG at *
  unfold pdv
  unfold gv gvs at *
  simp only at *
  go_enter Tryd.func29, Tryd.ntmps29
  go_wp2_with fail
  generalize hw0 : (w.alloc (.cells #[.int .i64 t, .int .i64 nm, .int .i64 s, pv, lv, .slice sa m sc] 25)).alloc (.cells #[.int .i64 left, .slice ra right.length rc, .int .i64 level] 38) = w0 at *
  have HW0 : Hid ((w.alloc (.cells #[.int .i64 t, .int .i64 nm, .int .i64 s, pv, lv, .slice sa m sc] 25)).alloc (.cells #[.int .i64 left, .slice ra right.length rc, .int .i64 level] 38) = w0) := hw0
  clear hw0
  have hPl : w.heap.size + 1 < w0.heap.size := by omega
  have HP2 : Hid (w0.heap.size = w.heap.size + 1 + 1) := hP2
  clear hP2 hB0
  refine (HN.out _).mono ?_
  rintro e w1 ⟨rfl, hb1⟩
  have hW1 := hW.trans (hb1.mono hW.size)
  have hl1 : w.heap.size + 1 < w1.heap.size := Nat.lt_of_lt_of_le hPl hb1.size
  have a0 := (hb1.cell (p := ⟨w.heap.size + 1, 0, none⟩) hPl).trans p0
  have a1 := (hb1.cell (p := ⟨w.heap.size + 1, 1, none⟩) hPl).trans p1
  have a2 := (hb1.cell (p := ⟨w.heap.size + 1, 2, none⟩) hPl).trans p2
  have HB1 : Hid (BoxG w1 w.heap.size ⟨t, nm, s, ps, ls, ss⟩ pv lv (.slice sa m sc)) := HBX.out.below HBX.out.lt hb1
  obtain ⟨q0, q1, q2, q3, q4, q5, q6⟩ := HB1.out
  simp only at q0 q1 q2 q3 q4 q5 q6
  have HR1 : Hid (IntsR w1 (.slice ra right.length rc) right) := HR.out.below hb1
  cases b1 with
  | false =>
    go_wp2
    go_ret
    exact ⟨rfl, hW1⟩
  | true =>
    by_cases hlen : (right.length : Int) > 20
    · have HF4 : Hid (b4 = false) := by show _ = _; rw [← HB4.out]; exact decide_eq_false (by omega)
      go_wp2
      go_ret
      exact ⟨by rw [HF4.out]; rfl, hW1⟩
    · have HF4 : Hid (b4 = true) := by show _ = _; rw [← HB4.out]; exact decide_eq_true (by omega)
      have hl3 : right.length ≤ 20 := by omega
      have dl : decide ((right.length : Int) > 20) = false := decide_eq_false hlen
      clear hlen
      go_wp2_with fail
      refine (HL.out _).mono ?_
      rintro e w2 ⟨rfl, hb2⟩
      have hW2 := hW1.trans (hb2.mono hW1.size)
      have a0' := (hb2.cell (p := ⟨w.heap.size + 1, 0, none⟩) hl1).trans a0
      have a1' := (hb2.cell (p := ⟨w.heap.size + 1, 1, none⟩) hl1).trans a1
      have a2' := (hb2.cell (p := ⟨w.heap.size + 1, 2, none⟩) hl1).trans a2
      have hl2' : w.heap.size + 1 < w2.heap.size := Nat.lt_of_lt_of_le hl1 hb2.size
      have HB2 : Hid (BoxG w2 w.heap.size ⟨t, nm, s, ps, ls, ss⟩ pv lv (.slice sa m sc)) := HB1.out.below HB1.out.lt hb2
      have HR2 : Hid (IntsR w2 (.slice ra right.length rc) right) := HR1.out.below hb2
      clear q0 q1 q2 q3 q4 q5 q6 a0 a1 a2 p0 p1 p2
      obtain ⟨q0, q1, q2, q3, q4, q5, q6⟩ := HB2.out
      simp only at q0 q1 q2 q3 q4 q5 q6
      cases b2 with
      | false =>
        go_wp2
        go_ret
        exact ⟨by rw [HF4.out]; rfl, hW2⟩
      | true =>
        go_wp2_with fail
        refine (HC.out _ HB2.out HR2.out hl3).mono ?_
        rintro e w3 ⟨rfl, hb3⟩
        have hW3 := hW2.trans (hb3.mono hW2.size)
        go_wp2
        go_ret
        exact ⟨by rw [HF4.out]; rfl, hW3⟩

end Go.Proofs.YtmkimaceioacgaaDoor

namespace Go.Proofs.YtmkimaceioacgaaDoor
open Go.RowKit
set_option linter.unusedVariables false
set_option maxRecDepth 100000

set_option maxHeartbeats 1000000 in
theorem prodsC_any (g : Gm) (pv lv : Value) (sa : Option Addr) (m sc B : Nat) (p : PdR) (rv : Value) (hx : ∀ x ∈ p.right, I64 x) (ht : 0 ≤ g.terms) (hn : 0 ≤ g.names) (w : World) (hr : IntsR w rv p.right) (hbx : BoxG w B g pv lv (.slice sa m sc)) :
    Calls Tryd.prog 28 #[pdv p rv, .pointer (some ⟨B, 0, none⟩)] w fun e w' => e = .returned (.bool (!pdB g.terms g.names m p)) ∧ Below w.heap.size w w' := by
  have hP0 := alloc_below w (.cells #[.int .i64 p.left, rv, .int .i64 p.level] 38)
  have HL : Hid (Calls Tryd.prog 29 #[gv g pv lv (.slice sa m sc), pdv p rv] (w.alloc (.cells #[.int .i64 p.left, rv, .int .i64 p.level] 38)) fun e w' => e = .returned (.bool (pdB g.terms g.names m p)) ∧ Below (w.alloc (.cells #[.int .i64 p.left, rv, .int .i64 p.level] 38)).heap.size (w.alloc (.cells #[.int .i64 p.left, rv, .int .i64 p.level] 38)) w') := prodHolds_any g pv lv sa m sc p rv hx ht hn _ (hr.below hP0)
  obtain ⟨q0, q1, q2, q3, q4, q5, q6⟩ := hbx.below hbx.lt hP0
  obtain ⟨p0, p1, p2⟩ := box3_cells w (.int .i64 p.left) rv (.int .i64 p.level) 38
  have hps := alloc_size w (.cells #[.int .i64 p.left, rv, .int .i64 p.level] 38)
  have hlt : w.heap.size < (w.alloc (.cells #[.int .i64 p.left, rv, .int .i64 p.level] 38)).heap.size := by omega
  clear hbx hps
  obtain ⟨ra, rc, rfl⟩ := hr.slice
  clear hr hx ht hn
  unfold gv gvs pdv at *
  generalize pdB g.terms g.names m p = bb at *
  obtain ⟨t, nm, s, ps, ls, ss⟩ := g
  obtain ⟨left, right, level⟩ := p
  simp only at *
  go_enter Tryd.func28, Tryd.ntmps28
  go_wp2_with fail
  refine HL.out.mono ?_
  rintro e w1 ⟨rfl, hb⟩
  have hb2 := hP0.trans (hb.mono hP0.size)
  clear hb
  go_wp2
  go_ret
  exact ⟨rfl, hb2⟩

/-- a function value that tells of a production -/
def TellsP (w : World) (F : Nat) (cap : Value) (f : PdR → Bool) (l : List PdR) : Prop :=
  ∀ (w' : World) (p : PdR) (rv : Value), p ∈ l → Below w.heap.size w w' → IntsR w' rv p.right → Calls Tryd.prog F #[pdv p rv, cap] w' fun e w'' => e = .returned (.bool (f p)) ∧ Below w'.heap.size w' w''

set_option maxHeartbeats 2000000 in
theorem indexP_any (F : Nat) (hen : ∀ args w, (callFunc F args).run Tryd.prog w = .ok (.enter F args) w) (cap v : Value) (f : PdR → Bool) (l : List PdR) (w : World) (hl : l.length ≤ 1000) (hv : PdsM w v l) (hf : TellsP w F cap f l) :
    Calls Tryd.prog 51 #[v, .func (.func F) #[] #[cap]] w fun e w' => ∃ z, e = .returned (.int .i64 z) ∧ decide (z ≥ 0) = l.any f ∧ Below w.heap.size w w' := by
  obtain ⟨a, c, rfl⟩ := hv.slice
  have HV : Hid (PdsM w (.slice a l.length c) l) := hv
  have HF : Hid (TellsP w F cap f l) := hf
  clear hv hf
  go_enter Tryd.func51, Tryd.ntmps51
  go_wp2
  go_loopw [8] (fun i wr => ∃ k : Nat, k ≤ l.length ∧ i = .int .i64 k ∧ Hid (l.any f = (l.drop k).any f) ∧ Below w.heap.size w wr) (fun i _ => l.length - (intOf i).toNat)
  case atStart => exact ⟨0, Nat.zero_le _, rfl, (by show _ = _; rw [List.drop_zero]), Below.refl _ _⟩
  case round =>
    obtain ⟨k, hk, rfl, HM, hbw⟩ := hrel
    by_cases hlt : k < l.length
    · obtain ⟨b, off, rv, rfl, hb, hpd⟩ := (HV.out.below hbw).at hlt
      have HA : Hid ((l.drop k).any f = (f (l.getD k noPd) || (l.drop (k + 1)).any f)) := by
        show _ = _
        rw [List.drop_eq_getElem_cons hlt, List.any_cons]
        simp [List.getD, hlt]
      have hC := HF.out wr (l.getD k noPd) rv (by simp [List.getD, hlt]) hbw hpd.right
      generalize l.getD k noPd = p at *
      obtain ⟨c0, c1, c2, hr⟩ := hpd
      obtain ⟨ra, rc, rfl⟩ := hr.slice
      clear hr
      unfold pdv at hC
      have HC : Hid (Calls Tryd.prog F #[.agg #[.int .i64 p.left, .slice ra p.right.length rc, .int .i64 p.level], cap] wr fun e w'' => e = .returned (.bool (f p)) ∧ Below wr.heap.size wr w'') := hC
      clear hC
      go_wp2_with fail
      refine HC.out.mono ?_
      rintro e w2 ⟨rfl, hb2⟩
      have hbw2 := hbw.trans (hb2.mono hbw.size)
      clear HC hb2
      by_cases hfx : f p = true
      · rw [hfx]
        have HZ : Hid (decide ((k : Int) ≥ 0) = l.any f) := by show _ = _; rw [HM.out, HA.out, hfx]; simp
        go_wp2
        go_ret
        exact ⟨_, rfl, HZ.out, hbw2⟩
      · have hfx2 : f p = false := by simpa using hfx
        rw [hfx2]
        have HZ : Hid (l.any f = (l.drop (k + 1)).any f) := by show _ = _; rw [HM.out, HA.out, hfx2, Bool.false_or]
        clear hfx
        go_wp2
        go_roundw
        case rel => exact ⟨k + 1, by omega, by go_num, HZ, hbw2⟩
        case measure => simp [intOf]; omega
    · have HZ : Hid (decide ((-1 : Int) ≥ 0) = l.any f) := by
        show _ = _; rw [HM.out, List.drop_eq_nil_of_le (by omega)]; rfl
      go_wp2
      go_ret
      exact ⟨_, rfl, HZ.out, hbw⟩

set_option maxHeartbeats 2000000 in
theorem containsP_any (F : Nat) (hen : ∀ args w, (callFunc F args).run Tryd.prog w = .ok (.enter F args) w) (cap v : Value) (f : PdR → Bool) (l : List PdR) (w : World) (hl : l.length ≤ 1000) (hv : PdsM w v l) (hf : TellsP w F cap f l) :
    Calls Tryd.prog 27 #[v, .func (.func F) #[] #[cap]] w fun e w' => e = .returned (.bool (l.any f)) ∧ Below w.heap.size w w' := by
  have hC := indexP_any F hen cap v f l w hl hv hf
  obtain ⟨a, c, rfl⟩ := hv.slice
  clear hv hf
  go_enter Tryd.func27, Tryd.ntmps27
  go_wp2_with fail
  refine hC.mono ?_
  rintro e w2 ⟨z, rfl, hz, hb2⟩
  have HZ : Hid (decide (z ≥ 0) = l.any f) := hz
  clear hz
  go_wp2
  go_ret
  exact ⟨by rw [← HZ.out]; rfl, hb2⟩
theorem not_any_notP (l : List PdR) (f : PdR → Bool) : (!l.any fun x => !f x) = l.all f := by
  induction l with
  | nil => rfl
  | cons x l ih => simp only [List.any_cons, List.all_cons, Bool.not_or, Bool.not_not, ih]
/-- all numbers that a grammar's rows hold are machine numbers -/
def WfG (g : Gm) : Prop := ∀ p ∈ g.prods, ∀ x ∈ p.right, I64 x

set_option maxHeartbeats 2000000 in
theorem prodsHold_any (g : Gm) (pv lv sv : Value) (w : World) (h : GrM w g pv lv sv) (hwf : WfG g) (ht : 0 ≤ g.terms) (hn : 0 ≤ g.names) :
    Calls Tryd.prog 15 #[gv g pv lv sv] w fun e w' => e = .returned (.bool (decide (g.prods.length ≤ 400) && g.prods.all (pdB g.terms g.names g.sides.length))) ∧ Below w.heap.size w w' := by
  have hen : ∀ args w, (callFunc 28 args).run Tryd.prog w = .ok (.enter 28 args) w := enters_of Tryd.func28 (by kernel_rfl) rfl
  have hmf : ∀ (fn : Fn) (first cap : Array Value) (w : World), (Instr.makeFunc fn first cap).run Tryd.prog w = .ok (.func fn first cap) w := fun _ _ _ _ => rfl
  obtain ⟨pa, pc, rfl⟩ := h.prods.slice
  obtain ⟨sa, sc, rfl⟩ := h.sides.slice
  have hB0 := boxG_below w g (.slice pa g.prods.length pc) lv (.slice sa g.sides.length sc)
  have hB2 := boxG_box w g (.slice pa g.prods.length pc) lv (.slice sa g.sides.length sc)
  have HC : Hid (g.prods.length ≤ 400 → Calls Tryd.prog 27 #[.slice pa g.prods.length pc, .func (.func 28) #[] #[.pointer (some ⟨w.heap.size, 0, none⟩)]] (boxG w g (.slice pa g.prods.length pc) lv (.slice sa g.sides.length sc)) fun e w'' => e = .returned (.bool (g.prods.any fun p => !pdB g.terms g.names g.sides.length p)) ∧ Below (boxG w g (.slice pa g.prods.length pc) lv (.slice sa g.sides.length sc)).heap.size (boxG w g (.slice pa g.prods.length pc) lv (.slice sa g.sides.length sc)) w'') := fun hl =>
    containsP_any 28 hen _ _ (fun p => !pdB g.terms g.names g.sides.length p) g.prods _ (by omega) (h.prods.below hB0) (fun w2 p rv hpm hb2 hr => prodsC_any g _ lv sa _ sc _ p rv (hwf p hpm) ht hn w2 hr (hB2.below hB2.lt hb2))
  have HE : Hid (g.prods.all (pdB g.terms g.names g.sides.length) = !(g.prods.any fun p => !pdB g.terms g.names g.sides.length p)) := (not_any_notP _ _).symm
  rw [HE.out]
  clear HE hwf ht hn hen h
  generalize (g.prods.any fun p => !pdB g.terms g.names g.sides.length p) = b3 at *
  obtain ⟨q0, q1, q2, q3, q4, q5, q6⟩ := hB2
  obtain ⟨t, nm, s, ps, ls, ss⟩ := g
  unfold boxG at *
  unfold gv gvs at *
  simp only at *
  by_cases hl : (ps.length : Int) > 400
  · have e1 : decide (ps.length ≤ 400) = false := decide_eq_false (by omega)
    rw [e1]
    clear e1 HC
    go_enter Tryd.func15, Tryd.ntmps15
    go_wp2
    go_ret
    exact ⟨rfl, hB0⟩
  · have e1 : decide (ps.length ≤ 400) = true := decide_eq_true (by omega)
    have hl3 : ps.length ≤ 400 := by omega
    rw [e1]
    have dl : decide ((ps.length : Int) > 400) = false := decide_eq_false hl
    clear e1 hl
    go_enter Tryd.func15, Tryd.ntmps15
    go_wp2_with fail
    refine (HC.out hl3).mono ?_
    rintro e w1 ⟨rfl, hb⟩
    have hb2 := hB0.trans (hb.mono hB0.size)
    go_wp2
    go_ret
    exact ⟨rfl, hb2⟩

theorem sideB_eq (x : Int) : sideB x = !((x != 1) && (x != 2) && (x != 3)) := by
  unfold sideB
  rw [Bool.eq_iff_iff]
  simp
  omega

set_option maxHeartbeats 4000000 in
theorem levelsHold_any (g : Gm) (pv lv sv : Value) (w : World) (h : GrM w g pv lv sv) (ht : g.terms ≤ 300) :
    Calls Tryd.prog 14 #[gv g pv lv sv] w fun e w' => e = .returned (.bool (decide (g.sides.length ≤ 50 ∧ (g.levels.length = 0 ∨ (g.levels.length : Int) = g.terms)) && (g.sides.all sideB && g.levels.all (lvlB g.sides.length)))) ∧ Below w.heap.size w w' := by
  have hen : ∀ args w, (callFunc 25 args).run Tryd.prog w = .ok (.enter 25 args) w := enters_of Tryd.func25 (by kernel_rfl) rfl
  have hmf : ∀ (fn : Fn) (first cap : Array Value) (w : World), (Instr.makeFunc fn first cap).run Tryd.prog w = .ok (.func fn first cap) w := fun _ _ _ _ => rfl
  obtain ⟨la, lc, rfl⟩ := h.levels.slice
  obtain ⟨sa, sc, rfl⟩ := h.sides.slice
  have hB0 := boxG_below w g pv (.slice la g.levels.length lc) (.slice sa g.sides.length sc)
  have hB2 := boxG_box w g pv (.slice la g.levels.length lc) (.slice sa g.sides.length sc)
  have hB1 := boxG_size w g pv (.slice la g.levels.length lc) (.slice sa g.sides.length sc)
  have HS : Hid (IntsR w (.slice sa g.sides.length sc) g.sides) := h.sides
  have HC : Hid (∀ w', g.levels.length ≤ 300 → BoxG w' w.heap.size g pv (.slice la g.levels.length lc) (.slice sa g.sides.length sc) → Below w.heap.size w w' → Calls Tryd.prog 24 #[.slice la g.levels.length lc, .func (.func 25) #[] #[.pointer (some ⟨w.heap.size, 0, none⟩)]] w' fun e w'' => e = .returned (.bool (g.levels.any fun x => !lvlB g.sides.length x)) ∧ Below w'.heap.size w' w'') := fun w' hl hb hw =>
    containsI_any 25 hen _ _ (fun x => !lvlB g.sides.length x) g.levels w' (by omega) (h.levels.below hw) (fun w2 x hxm hb2 => levelsC_any g pv _ sa _ sc _ x w2 (hb.below hb.lt hb2))
  have HE : Hid (g.levels.all (lvlB g.sides.length) = !(g.levels.any fun x => !lvlB g.sides.length x)) := (not_any_not _ _).symm
  rw [HE.out]
  clear HE hen h
  generalize (g.levels.any fun x => !lvlB g.sides.length x) = b3 at *
  generalize hR : (decide (g.sides.length ≤ 50 ∧ (g.levels.length = 0 ∨ (g.levels.length : Int) = g.terms)) && (g.sides.all sideB && !b3)) = R at *
  have HR : Hid ((decide (g.sides.length ≤ 50 ∧ (g.levels.length = 0 ∨ (g.levels.length : Int) = g.terms)) && (g.sides.all sideB && !b3)) = R) := hR
  clear hR
  obtain ⟨t, nm, s, ps, ls, ss⟩ := g
  unfold boxG at *
  unfold gv gvs at *
  simp only at *
  generalize ls.length = nl at *
  by_cases h1 : (ss.length : Int) > 50
  · have HZ : Hid (R = false) := by show _ = _; rw [← HR.out, decide_eq_false (by omega)]; rfl
    clear HR HC
    go_enter Tryd.func14, Tryd.ntmps14
    go_wp2
    go_ret
    exact ⟨by rw [HZ.out]; rfl, hB0⟩
  have d1 : decide ((ss.length : Int) > 50) = false := decide_eq_false h1
  have h7 : ss.length ≤ 50 := by omega
  by_cases h2 : nl ≠ 0 ∧ (nl : Int) ≠ t
  · have HZ : Hid (R = false) := by show _ = _; rw [← HR.out, decide_eq_false (by omega)]; rfl
    have d2 : ((nl : Int) != 0) = true := by rw [bne_iff_ne]; omega
    have d3 : ((nl : Int) != t) = true := by rw [bne_iff_ne]; exact h2.2
    clear HR HC h1 h2
    go_enter Tryd.func14, Tryd.ntmps14
    go_wp2
    go_ret
    exact ⟨by rw [HZ.out]; rfl, hB0⟩
  have HR1 : Hid (R = (ss.all sideB && !b3)) := by show _ = _; rw [← HR.out, decide_eq_true (by omega), Bool.true_and]
  have hll : nl ≤ 300 := by omega
  have d8 : nl = 0 ∨ (((nl : Int) != 0) = true ∧ ((nl : Int) != t) = false) := by
    by_cases hz : nl = 0
    · exact .inl hz
    · exact .inr ⟨by rw [bne_iff_ne]; omega, by rw [bne_eq_false_iff_eq]; omega⟩
  clear HR h1 h2 ht
  rcases d8 with rfl | ⟨d8, d9⟩
  all_goals
    go_enter Tryd.func14, Tryd.ntmps14
    go_wp2
    clear d1
    generalize hw0 : w.alloc _ = w0 at *
    have HW0 : Hid (_ = w0) := hw0
    clear hw0
    have HBX : Hid (BoxG w0 w.heap.size _ _ _ _) := hB2
    clear hB2
    have HB1 : Hid (w0.heap.size = w.heap.size + 1) := hB1
    clear hB1
    go_loopw [26] (fun i wr => ∃ k : Nat, k ≤ ss.length ∧ i = .int .i64 k ∧ Hid (ss.all sideB = (ss.drop k).all sideB) ∧ Below (w.heap.size + 1) w0 wr) (fun i _ => ss.length - (intOf i).toNat)
    case atStart => exact ⟨0, Nat.zero_le _, rfl, (by show _ = _; rw [List.drop_zero]), Below.refl _ _⟩
    case round =>
      obtain ⟨k, hk, rfl, HM, hbw⟩ := hrel
      have hbx := hB0.trans (hbw.mono (Nat.le_succ _))
      have HBX2 := HBX.out.below (Nat.lt_succ_self _) hbw
      have HBX3 : Hid (BoxG wr w.heap.size _ _ _ _) := HBX2
      obtain ⟨q0, q1, q2, q3, q4, q5, q6⟩ := HBX2
      simp only at q0 q1 q2 q3 q4 q5 q6
      by_cases hlt : k < ss.length
      · obtain ⟨b, off, rfl, hb, hc⟩ := (HS.out.below hbx).at hlt
        have HA : Hid _ := all_dropG ss 0 sideB k hlt
        generalize ss.getD k 0 = x at *
        have hx : x = 1 ∨ x = 2 ∨ x = 3 ∨ ((x != 1) = true ∧ (x != 2) = true ∧ (x != 3) = true) := by
          simp only [bne_iff_ne]; omega
        rcases hx with rfl | rfl | rfl | ⟨x1, x2, x3⟩
        · have HZ : Hid (ss.all sideB = (ss.drop (k + 1)).all sideB) := by
            show _ = _; rw [HM.out, HA.out]; rfl
          go_wp2
          go_roundw
          case rel => exact ⟨k + 1, by omega, by go_num, HZ, hbw⟩
          case measure => simp [intOf]; omega
        · have HZ : Hid (ss.all sideB = (ss.drop (k + 1)).all sideB) := by
            show _ = _; rw [HM.out, HA.out]; rfl
          go_wp2
          go_roundw
          case rel => exact ⟨k + 1, by omega, by go_num, HZ, hbw⟩
          case measure => simp [intOf]; omega
        · have HZ : Hid (ss.all sideB = (ss.drop (k + 1)).all sideB) := by
            show _ = _; rw [HM.out, HA.out]; rfl
          go_wp2
          go_roundw
          case rel => exact ⟨k + 1, by omega, by go_num, HZ, hbw⟩
          case measure => simp [intOf]; omega
        · have HZ : Hid (R = false) := by
            show _ = _; rw [HR1.out, HM.out, HA.out, sideB_eq, x1, x2, x3]; rfl
          go_wp2
          go_ret
          exact ⟨by rw [HZ.out]; rfl, hbx⟩
      · have HZ : Hid (R = !b3) := by
          show _ = _; rw [HR1.out, HM.out, List.drop_eq_nil_of_le (by omega)]; rfl
        go_wp2_with fail
        refine (HC.out _ hll HBX3.out hbx).mono ?_
        rintro e w2 ⟨rfl, hb2⟩
        have hbx2 := hbx.trans (hb2.mono hbx.size)
        go_wp2
        go_ret
        exact ⟨by rw [HZ.out]; rfl, hbx2⟩

end Go.Proofs.YtmkimaceioacgaaDoor
