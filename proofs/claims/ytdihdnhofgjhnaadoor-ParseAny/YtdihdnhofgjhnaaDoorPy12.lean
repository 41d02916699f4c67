/- Texts of the proof, put together: GOkS. -/
import Derived.Test.YtdihdnhofgjhnaaDoorPy11
namespace Go.Proofs.YtdihdnhofgjhnaaDoor
open Go.RowKit
set_option linter.unusedVariables false
set_option maxRecDepth 100000

set_option maxHeartbeats 1000000 in
theorem prodsC_any (g : Gm) (pv lv : Value) (sa : Option Addr) (m sc B : Nat) (p : PdR) (rv : Value) (hx : ∀ x ∈ p.right, I64 x) (ht : 0 ≤ g.terms) (hn : 0 ≤ g.names) (w : World) (hr : IntsR w rv p.right) (hbx : BoxG w B g pv lv (.slice sa m sc)) :
    Calls Tryd.prog 49 #[pdv p rv, .pointer (some ⟨B, 0, none⟩)] w fun e w' => e = .returned (.bool (!pdB g.terms g.names m p)) ∧ Below w.heap.size w w' := by
  have hP0 := alloc_below w (.cells #[.int .i64 p.left, rv, .int .i64 p.level] 49)
  have HL : Hid (Calls Tryd.prog 50 #[gv g pv lv (.slice sa m sc), pdv p rv] (w.alloc (.cells #[.int .i64 p.left, rv, .int .i64 p.level] 49)) fun e w' => e = .returned (.bool (pdB g.terms g.names m p)) ∧ Below (w.alloc (.cells #[.int .i64 p.left, rv, .int .i64 p.level] 49)).heap.size (w.alloc (.cells #[.int .i64 p.left, rv, .int .i64 p.level] 49)) w') := prodHolds_any g pv lv sa m sc p rv hx ht hn _ (hr.below hP0)
  obtain ⟨q0, q1, q2, q3, q4, q5, q6⟩ := hbx.below hbx.lt hP0
  obtain ⟨p0, p1, p2⟩ := box3_cells w (.int .i64 p.left) rv (.int .i64 p.level) 49
  have hps := alloc_size w (.cells #[.int .i64 p.left, rv, .int .i64 p.level] 49)
  have hlt : w.heap.size < (w.alloc (.cells #[.int .i64 p.left, rv, .int .i64 p.level] 49)).heap.size := by omega
  clear hbx hps
  obtain ⟨ra, rc, rfl⟩ := hr.slice
  clear hr hx ht hn
  unfold gv gvs pdv at *
  generalize pdB g.terms g.names m p = bb at *
  obtain ⟨t, nm, s, ps, ls, ss⟩ := g
  obtain ⟨left, right, level⟩ := p
  simp only at *
  go_enter Tryd.func49, Tryd.ntmps49
  go_wp2_with fail
  refine HL.out.mono ?_
  rintro e w1 ⟨rfl, hb⟩
  have hb2 := hP0.trans (hb.mono hP0.size)
  clear hb
  go_wp2
  go_ret
  exact ⟨rfl, hb2⟩

/-- a function value that tells of a production -/
def TellsP (w : World) (F : Nat) (cap : Value) (f : PdR → Bool) (l : List PdR) : Prop :=
  ∀ (w' : World) (p : PdR) (rv : Value), p ∈ l → Below w.heap.size w w' → IntsR w' rv p.right → Calls Tryd.prog F #[pdv p rv, cap] w' fun e w'' => e = .returned (.bool (f p)) ∧ Below w'.heap.size w' w''

set_option maxHeartbeats 2000000 in
theorem indexP_any (F : Nat) (hen : ∀ args w, (callFunc F args).run Tryd.prog w = .ok (.enter F args) w) (cap v : Value) (f : PdR → Bool) (l : List PdR) (w : World) (hl : l.length ≤ 1000) (hv : PdsM w v l) (hf : TellsP w F cap f l) :
    Calls Tryd.prog 59 #[v, .func (.func F) #[] #[cap]] w fun e w' => ∃ z, e = .returned (.int .i64 z) ∧ decide (z ≥ 0) = l.any f ∧ Below w.heap.size w w' := by
  obtain ⟨a, c, rfl⟩ := hv.slice
  have HV : Hid (PdsM w (.slice a l.length c) l) := hv
  have HF : Hid (TellsP w F cap f l) := hf
  clear hv hf
  go_enter Tryd.func59, Tryd.ntmps59
  go_wp2
  go_loopw [8] (fun i wr => ∃ k : Nat, k ≤ l.length ∧ i = .int .i64 k ∧ Hid (l.any f = (l.drop k).any f) ∧ Below w.heap.size w wr) (fun i _ => l.length - (intOf i).toNat)
  case atStart => exact ⟨0, Nat.zero_le _, rfl, (by show _ = _; rw [List.drop_zero]), Below.refl _ _⟩
  case round =>
    obtain ⟨k, hk, rfl, HM, hbw⟩ := hrel
    by_cases hlt : k < l.length
    · obtain ⟨b, off, rv, rfl, hb, hpd⟩ := (HV.out.below hbw).at hlt
      have HA : Hid ((l.drop k).any f = (f (l.getD k noPd) || (l.drop (k + 1)).any f)) := by
        show _ = _
        rw [List.drop_eq_getElem_cons hlt, List.any_cons]
        simp [List.getD, hlt]
      have hC := HF.out wr (l.getD k noPd) rv (by simp [List.getD, hlt]) hbw hpd.right
      generalize l.getD k noPd = p at *
      obtain ⟨c0, c1, c2, hr⟩ := hpd
      obtain ⟨ra, rc, rfl⟩ := hr.slice
      clear hr
      unfold pdv at hC
      have HC : Hid (Calls Tryd.prog F #[.agg #[.int .i64 p.left, .slice ra p.right.length rc, .int .i64 p.level], cap] wr fun e w'' => e = .returned (.bool (f p)) ∧ Below wr.heap.size wr w'') := hC
      clear hC
      go_wp2_with fail
      refine HC.out.mono ?_
      rintro e w2 ⟨rfl, hb2⟩
      have hbw2 := hbw.trans (hb2.mono hbw.size)
      clear HC hb2
      by_cases hfx : f p = true
      · rw [hfx]
        have HZ : Hid (decide ((k : Int) ≥ 0) = l.any f) := by show _ = _; rw [HM.out, HA.out, hfx]; simp
        go_wp2
        go_ret
        exact ⟨_, rfl, HZ.out, hbw2⟩
      · have hfx2 : f p = false := by simpa using hfx
        rw [hfx2]
        have HZ : Hid (l.any f = (l.drop (k + 1)).any f) := by show _ = _; rw [HM.out, HA.out, hfx2, Bool.false_or]
        clear hfx
        go_wp2
        go_roundw
        case rel => exact ⟨k + 1, by omega, by go_num, HZ, hbw2⟩
        case measure => simp [intOf]; omega
    · have HZ : Hid (decide ((-1 : Int) ≥ 0) = l.any f) := by
        show _ = _; rw [HM.out, List.drop_eq_nil_of_le (by omega)]; rfl
      go_wp2
      go_ret
      exact ⟨_, rfl, HZ.out, hbw⟩

set_option maxHeartbeats 2000000 in
theorem containsP_any (F : Nat) (hen : ∀ args w, (callFunc F args).run Tryd.prog w = .ok (.enter F args) w) (cap v : Value) (f : PdR → Bool) (l : List PdR) (w : World) (hl : l.length ≤ 1000) (hv : PdsM w v l) (hf : TellsP w F cap f l) :
    Calls Tryd.prog 48 #[v, .func (.func F) #[] #[cap]] w fun e w' => e = .returned (.bool (l.any f)) ∧ Below w.heap.size w w' := by
  have hC := indexP_any F hen cap v f l w hl hv hf
  obtain ⟨a, c, rfl⟩ := hv.slice
  clear hv hf
  go_enter Tryd.func48, Tryd.ntmps48
  go_wp2_with fail
  refine hC.mono ?_
  rintro e w2 ⟨z, rfl, hz, hb2⟩
  have HZ : Hid (decide (z ≥ 0) = l.any f) := hz
  clear hz
  go_wp2
  go_ret
  exact ⟨by rw [← HZ.out]; rfl, hb2⟩
theorem not_any_notP (l : List PdR) (f : PdR → Bool) : (!l.any fun x => !f x) = l.all f := by
  induction l with
  | nil => rfl
  | cons x l ih => simp only [List.any_cons, List.all_cons, Bool.not_or, Bool.not_not, ih]
/-- all numbers that a grammar's rows hold are machine numbers -/
def WfG (g : Gm) : Prop := ∀ p ∈ g.prods, ∀ x ∈ p.right, I64 x

set_option maxHeartbeats 2000000 in
theorem prodsHold_any (g : Gm) (pv lv sv : Value) (w : World) (h : GrM w g pv lv sv) (hwf : WfG g) (ht : 0 ≤ g.terms) (hn : 0 ≤ g.names) :
    Calls Tryd.prog 30 #[gv g pv lv sv] w fun e w' => e = .returned (.bool (decide (g.prods.length ≤ 400) && g.prods.all (pdB g.terms g.names g.sides.length))) ∧ Below w.heap.size w w' := by
  have hen : ∀ args w, (callFunc 49 args).run Tryd.prog w = .ok (.enter 49 args) w := enters_of Tryd.func49 (by kernel_rfl) rfl
  have hmf : ∀ (fn : Fn) (first cap : Array Value) (w : World), (Instr.makeFunc fn first cap).run Tryd.prog w = .ok (.func fn first cap) w := fun _ _ _ _ => rfl
  obtain ⟨pa, pc, rfl⟩ := h.prods.slice
  obtain ⟨sa, sc, rfl⟩ := h.sides.slice
  have hB0 := boxG_below w g (.slice pa g.prods.length pc) lv (.slice sa g.sides.length sc)
  have hB2 := boxG_box w g (.slice pa g.prods.length pc) lv (.slice sa g.sides.length sc)
  have HC : Hid (g.prods.length ≤ 400 → Calls Tryd.prog 48 #[.slice pa g.prods.length pc, .func (.func 49) #[] #[.pointer (some ⟨w.heap.size, 0, none⟩)]] (boxG w g (.slice pa g.prods.length pc) lv (.slice sa g.sides.length sc)) fun e w'' => e = .returned (.bool (g.prods.any fun p => !pdB g.terms g.names g.sides.length p)) ∧ Below (boxG w g (.slice pa g.prods.length pc) lv (.slice sa g.sides.length sc)).heap.size (boxG w g (.slice pa g.prods.length pc) lv (.slice sa g.sides.length sc)) w'') := fun hl =>
    containsP_any 49 hen _ _ (fun p => !pdB g.terms g.names g.sides.length p) g.prods _ (by omega) (h.prods.below hB0) (fun w2 p rv hpm hb2 hr => prodsC_any g _ lv sa _ sc _ p rv (hwf p hpm) ht hn w2 hr (hB2.below hB2.lt hb2))
  have HE : Hid (g.prods.all (pdB g.terms g.names g.sides.length) = !(g.prods.any fun p => !pdB g.terms g.names g.sides.length p)) := (not_any_notP _ _).symm
  rw [HE.out]
  clear HE hwf ht hn hen h
  generalize (g.prods.any fun p => !pdB g.terms g.names g.sides.length p) = b3 at *
  obtain ⟨q0, q1, q2, q3, q4, q5, q6⟩ := hB2
  obtain ⟨t, nm, s, ps, ls, ss⟩ := g
  unfold boxG at *
  unfold gv gvs at *
  simp only at *
  by_cases hl : (ps.length : Int) > 400
  · have e1 : decide (ps.length ≤ 400) = false := decide_eq_false (by omega)
    rw [e1]
    clear e1 HC
    go_enter Tryd.func30, Tryd.ntmps30
    go_wp2
    go_ret
    exact ⟨rfl, hB0⟩
  · have e1 : decide (ps.length ≤ 400) = true := decide_eq_true (by omega)
    have hl3 : ps.length ≤ 400 := by omega
    rw [e1]
    have dl : decide ((ps.length : Int) > 400) = false := decide_eq_false hl
    clear e1 hl
    go_enter Tryd.func30, Tryd.ntmps30
    go_wp2_with fail
    refine (HC.out hl3).mono ?_
    rintro e w1 ⟨rfl, hb⟩
    have hb2 := hB0.trans (hb.mono hB0.size)
    go_wp2
    go_ret
    exact ⟨rfl, hb2⟩

theorem sideB_eq (x : Int) : sideB x = !((x != 1) && (x != 2) && (x != 3)) := by
  unfold sideB
  rw [Bool.eq_iff_iff]
  simp
  omega

set_option maxHeartbeats 4000000 in
theorem levelsHold_any (g : Gm) (pv lv sv : Value) (w : World) (h : GrM w g pv lv sv) (ht : g.terms ≤ 300) :
    Calls Tryd.prog 29 #[gv g pv lv sv] w fun e w' => e = .returned (.bool (decide (g.sides.length ≤ 50 ∧ (g.levels.length = 0 ∨ (g.levels.length : Int) = g.terms)) && (g.sides.all sideB && g.levels.all (lvlB g.sides.length)))) ∧ Below w.heap.size w w' := by
  have hen : ∀ args w, (callFunc 46 args).run Tryd.prog w = .ok (.enter 46 args) w := enters_of Tryd.func46 (by kernel_rfl) rfl
  have hmf : ∀ (fn : Fn) (first cap : Array Value) (w : World), (Instr.makeFunc fn first cap).run Tryd.prog w = .ok (.func fn first cap) w := fun _ _ _ _ => rfl
  obtain ⟨la, lc, rfl⟩ := h.levels.slice
  obtain ⟨sa, sc, rfl⟩ := h.sides.slice
  have hB0 := boxG_below w g pv (.slice la g.levels.length lc) (.slice sa g.sides.length sc)
  have hB2 := boxG_box w g pv (.slice la g.levels.length lc) (.slice sa g.sides.length sc)
  have hB1 := boxG_size w g pv (.slice la g.levels.length lc) (.slice sa g.sides.length sc)
  have HS : Hid (IntsR w (.slice sa g.sides.length sc) g.sides) := h.sides
  have HC : Hid (∀ w', g.levels.length ≤ 300 → BoxG w' w.heap.size g pv (.slice la g.levels.length lc) (.slice sa g.sides.length sc) → Below w.heap.size w w' → Calls Tryd.prog 45 #[.slice la g.levels.length lc, .func (.func 46) #[] #[.pointer (some ⟨w.heap.size, 0, none⟩)]] w' fun e w'' => e = .returned (.bool (g.levels.any fun x => !lvlB g.sides.length x)) ∧ Below w'.heap.size w' w'') := fun w' hl hb hw =>
    containsI_any 46 hen _ _ (fun x => !lvlB g.sides.length x) g.levels w' (by omega) (h.levels.below hw) (fun w2 x hxm hb2 => levelsC_any g pv _ sa _ sc _ x w2 (hb.below hb.lt hb2))
  have HE : Hid (g.levels.all (lvlB g.sides.length) = !(g.levels.any fun x => !lvlB g.sides.length x)) := (not_any_not _ _).symm
  rw [HE.out]
  clear HE hen h
  generalize (g.levels.any fun x => !lvlB g.sides.length x) = b3 at *
  generalize hR : (decide (g.sides.length ≤ 50 ∧ (g.levels.length = 0 ∨ (g.levels.length : Int) = g.terms)) && (g.sides.all sideB && !b3)) = R at *
  have HR : Hid ((decide (g.sides.length ≤ 50 ∧ (g.levels.length = 0 ∨ (g.levels.length : Int) = g.terms)) && (g.sides.all sideB && !b3)) = R) := hR
  clear hR
  obtain ⟨t, nm, s, ps, ls, ss⟩ := g
  unfold boxG at *
  unfold gv gvs at *
  simp only at *
  generalize ls.length = nl at *
  by_cases h1 : (ss.length : Int) > 50
  · have HZ : Hid (R = false) := by show _ = _; rw [← HR.out, decide_eq_false (by omega)]; rfl
    clear HR HC
    go_enter Tryd.func29, Tryd.ntmps29
    go_wp2
    go_ret
    exact ⟨by rw [HZ.out]; rfl, hB0⟩
  have d1 : decide ((ss.length : Int) > 50) = false := decide_eq_false h1
  have h7 : ss.length ≤ 50 := by omega
  by_cases h2 : nl ≠ 0 ∧ (nl : Int) ≠ t
  · have HZ : Hid (R = false) := by show _ = _; rw [← HR.out, decide_eq_false (by omega)]; rfl
    have d2 : ((nl : Int) != 0) = true := by rw [bne_iff_ne]; omega
    have d3 : ((nl : Int) != t) = true := by rw [bne_iff_ne]; exact h2.2
    clear HR HC h1 h2
    go_enter Tryd.func29, Tryd.ntmps29
    go_wp2
    go_ret
    exact ⟨by rw [HZ.out]; rfl, hB0⟩
  have HR1 : Hid (R = (ss.all sideB && !b3)) := by show _ = _; rw [← HR.out, decide_eq_true (by omega), Bool.true_and]
  have hll : nl ≤ 300 := by omega
  have d8 : nl = 0 ∨ (((nl : Int) != 0) = true ∧ ((nl : Int) != t) = false) := by
    by_cases hz : nl = 0
    · exact .inl hz
    · exact .inr ⟨by rw [bne_iff_ne]; omega, by rw [bne_eq_false_iff_eq]; omega⟩
  clear HR h1 h2 ht
  rcases d8 with rfl | ⟨d8, d9⟩
  all_goals
    go_enter Tryd.func29, Tryd.ntmps29
    go_wp2
    clear d1
    generalize hw0 : w.alloc _ = w0 at *
    have HW0 : Hid (_ = w0) := hw0
    clear hw0
    have HBX : Hid (BoxG w0 w.heap.size _ _ _ _) := hB2
    clear hB2
    have HB1 : Hid (w0.heap.size = w.heap.size + 1) := hB1
    clear hB1
    go_loopw [26] (fun i wr => ∃ k : Nat, k ≤ ss.length ∧ i = .int .i64 k ∧ Hid (ss.all sideB = (ss.drop k).all sideB) ∧ Below (w.heap.size + 1) w0 wr) (fun i _ => ss.length - (intOf i).toNat)
    case atStart => exact ⟨0, Nat.zero_le _, rfl, (by show _ = _; rw [List.drop_zero]), Below.refl _ _⟩
    case round =>
      obtain ⟨k, hk, rfl, HM, hbw⟩ := hrel
      have hbx := hB0.trans (hbw.mono (Nat.le_succ _))
      have HBX2 := HBX.out.below (Nat.lt_succ_self _) hbw
      have HBX3 : Hid (BoxG wr w.heap.size _ _ _ _) := HBX2
      obtain ⟨q0, q1, q2, q3, q4, q5, q6⟩ := HBX2
      simp only at q0 q1 q2 q3 q4 q5 q6
      by_cases hlt : k < ss.length
      · obtain ⟨b, off, rfl, hb, hc⟩ := (HS.out.below hbx).at hlt
        have HA : Hid _ := all_dropG ss 0 sideB k hlt
        generalize ss.getD k 0 = x at *
        have hx : x = 1 ∨ x = 2 ∨ x = 3 ∨ ((x != 1) = true ∧ (x != 2) = true ∧ (x != 3) = true) := by
          simp only [bne_iff_ne]; omega
        rcases hx with rfl | rfl | rfl | ⟨x1, x2, x3⟩
        · have HZ : Hid (ss.all sideB = (ss.drop (k + 1)).all sideB) := by
            show _ = _; rw [HM.out, HA.out]; rfl
          go_wp2
          go_roundw
          case rel => exact ⟨k + 1, by omega, by go_num, HZ, hbw⟩
          case measure => simp [intOf]; omega
        · have HZ : Hid (ss.all sideB = (ss.drop (k + 1)).all sideB) := by
            show _ = _; rw [HM.out, HA.out]; rfl
          go_wp2
          go_roundw
          case rel => exact ⟨k + 1, by omega, by go_num, HZ, hbw⟩
          case measure => simp [intOf]; omega
        · have HZ : Hid (ss.all sideB = (ss.drop (k + 1)).all sideB) := by
            show _ = _; rw [HM.out, HA.out]; rfl
          go_wp2
          go_roundw
          case rel => exact ⟨k + 1, by omega, by go_num, HZ, hbw⟩
          case measure => simp [intOf]; omega
        · have HZ : Hid (R = false) := by
            show _ = _; rw [HR1.out, HM.out, HA.out, sideB_eq, x1, x2, x3]; rfl
          go_wp2
          go_ret
          exact ⟨by rw [HZ.out]; rfl, hbx⟩
      · have HZ : Hid (R = !b3) := by
          show _ = _; rw [HR1.out, HM.out, List.drop_eq_nil_of_le (by omega)]; rfl
        go_wp2_with fail
        refine (HC.out _ hll HBX3.out hbx).mono ?_
        rintro e w2 ⟨rfl, hb2⟩
        have hbx2 := hbx.trans (hb2.mono hbx.size)
        go_wp2
        go_ret
        exact ⟨by rw [HZ.out]; rfl, hbx2⟩

end Go.Proofs.YtdihdnhofgjhnaaDoor
