/- The law TreeTold. -/
import Derived.Test.YtbgklfmhmpjboaaDoorTSml
import Derived.Test.YtbgklfmhmpjboaaDoorTHvy
import Derived.Test.YtbgklfmhmpjboaaDoorTPlnB
import Derived.Test.YtbgklfmhmpjboaaDoorTSnd
import Derived.Test.YtbgklfmhmpjboaaDoorTShw
import Derived.Test.YtbgklfmhmpjboaaDoorTRsh
namespace Go.Proofs.YtbgklfmhmpjboaaDoor
open Go.RowKit
set_option linter.unusedVariables false
set_option maxRecDepth 100000

set_option maxHeartbeats 2000000 in
theorem heavy_none (a : Option Addr) (c : Nat) (w : World) : Calls Tryd.prog 5 #[.slice a 0 c] w fun e w' => e = .returned (.int .i64 0) ∧ Below w.heap.size w w' := by
  have hb0 := Below.refl w.heap.size w
  go_enter Tryd.func5, Tryd.ntmps5
  go_wp2
  go_loopw [3, 4] (fun nv iv wr => nv = .slice none 0 0 ∧ iv = .int .i64 0 ∧ Hid (wr = w)) (fun _ iv _ => 0)
  case atStart => exact ⟨rfl, rfl, rfl⟩
  case round =>
    obtain ⟨rfl, rfl, HW⟩ := hrel
    have hw := HW.out
    subst hw
    go_wp2
    go_ret
    exact ⟨rfl, hb0⟩
set_option maxHeartbeats 2000000 in
theorem pltree_none (a : Option Addr) (c : Nat) (w : World) : Calls Tryd.prog 6 #[.slice a 0 c] w fun e w' => e = .returned (.pointer none) ∧ Below w.heap.size w w' := by
  have hb0 := Below.refl w.heap.size w
  go_enter Tryd.func6, Tryd.ntmps6
  go_wp2
  go_loopw [3, 11] (fun nv iv wr => nv = .slice none 0 0 ∧ iv = .int .i64 0 ∧ Hid (wr = w)) (fun _ iv _ => 0)
  case atStart => exact ⟨rfl, rfl, rfl⟩
  case round =>
    obtain ⟨rfl, rfl, HW⟩ := hrel
    have hw := HW.out
    subst hw
    go_wp2
    go_ret
    exact ⟨rfl, hb0⟩

/-- the tree that a list says, and how heavy it is -/
def lastT (ps : List TwP) : Tr := if ps = [] then nilT else (allTr ps).getD (ps.length - 1) nilT
def hvyZ (ps : List TwP) : Int := if ps = [] then 0 else (hvAll ps).getD (ps.length - 1) 0
def TwOk (ps : List TwP) : Prop := ∀ p ∈ ps, p.kids.length * 8 ≤ 140737488351232 ∧ (-9223372036854775808 ≤ p.prod ∧ p.prod ≤ 9223372036854775807) ∧ (-9223372036854775808 ≤ p.tok ∧ p.tok ≤ 9223372036854775807)
theorem getD_memT (ps : List TwP) (k : Nat) (h : k < ps.length) : ps.getD k noTw ∈ ps := by
  rw [List.getD_eq_getElem?_getD, List.getElem?_eq_getElem h]
  exact List.getElem_mem h
theorem okT_nil : okT nilT = true := (okT_eq nilT).2 ⟨by decide, by decide, fun k hk => by simp [nilT] at hk⟩
theorem allTr_ok (ps : List TwP) (h : TwOk ps) : ∀ t ∈ allTr ps, okT t = true := by
  have : ∀ (qs : List TwP), (∀ p ∈ qs, p ∈ ps) → ∀ acc : List Tr, (∀ t ∈ acc, okT t = true) → ∀ t ∈ qs.foldl (fun acc p => acc ++ [mkTr acc p]) acc, okT t = true := by
    intro qs
    induction qs with
    | nil => intro _ acc ha t ht; exact ha t ht
    | cons p qs ih =>
      intro hq acc ha
      refine ih (fun x hx => hq x (by simp [hx])) _ fun t ht => ?_
      rcases List.mem_append.1 ht with ht | ht
      · exact ha t ht
      · simp at ht
        subst ht
        have hp := h p (hq p (by simp))
        refine (okT_eq _).2 ⟨hp.2.1, hp.2.2, fun k hk => ?_⟩
        obtain ⟨z, _, rfl⟩ := List.mem_map.1 (show k ∈ p.kids.map (kidT acc) from hk)
        unfold kidT
        split
        · exact okT_nil
        · rename_i hz
          apply ha
          rw [List.getD_eq_getElem?_getD, List.getElem?_eq_getElem (show z.toNat < acc.length by omega)]
          exact List.getElem_mem _
  exact this ps (fun p hp => hp) [] (fun t ht => by simp at ht)
theorem lastT_ok (ps : List TwP) (h : TwOk ps) : okT (lastT ps) = true := by
  unfold lastT
  split
  · exact okT_nil
  · rename_i hne
    have hl : ps.length - 1 < (allTr ps).length := by
      rw [allTr_len]
      rcases Nat.eq_zero_or_pos ps.length with h | h
      · exact (hne (List.eq_nil_of_length_eq_zero h)).elim
      · omega
    apply allTr_ok ps h
    rw [List.getD_eq_getElem?_getD, List.getElem?_eq_getElem hl]
    exact List.getElem_mem _
theorem lastT_wt (ps : List TwP) (h : hvyZ ps ≤ 500) : wtT (lastT ps) ≤ 500 := by
  unfold hvyZ at h
  unfold lastT
  split
  · rw [wtT_eq]; simp [nilT, wtK]
  · rename_i hne
    rw [if_neg hne] at h
    have hpos : 0 < ps.length := by
      rcases Nat.eq_zero_or_pos ps.length with h | h
      · exact (hne (List.eq_nil_of_length_eq_zero h)).elim
      · exact h
    have e := hvAll_wt ps ps.length (Nat.le_refl _) (ps.length - 1) (by omega)
    rw [List.take_of_length_le (Nat.le_refl _)] at e
    rw [e] at h
    omega
theorem heavy_any (ps : List TwP) (tv : Value) (w : World) (h : TwsR w tv ps) (hn : ps.length ≤ 60) (hO : TwOk ps) : Calls Tryd.prog 5 #[tv] w fun e w' => e = .returned (.int .i64 (hvyZ ps)) ∧ Below w.heap.size w w' := by
  unfold hvyZ
  obtain ⟨a, c, rfl, hc⟩ := h
  by_cases hne : ps = []
  · subst hne
    exact heavy_none a c w
  · rw [if_neg hne]
    rcases hc with hc | ⟨b, off, rfl, hb, hc⟩
    · exact (hne hc).elim
    · exact heavy_row hb hn hne (fun j hj => (hO _ (getD_memT ps j hj)).1) hc
theorem pltree_any (ps : List TwP) (tv : Value) (w : World) (h : TwsR w tv ps) (hn : ps.length ≤ 60) (hO : TwOk ps) : Calls Tryd.prog 6 #[tv] w fun e w' => ∃ v n, e = .returned v ∧ (v = .pointer none ∨ ∃ q, v = .pointer (some ⟨q, 0, none⟩)) ∧ IsTr (fun _ => True) n w' v (lastT ps) ∧ Below w.heap.size w w' := by
  unfold lastT
  obtain ⟨a, c, rfl, hc⟩ := h
  by_cases hne : ps = []
  · subst hne
    refine (pltree_none a c w).mono ?_
    rintro e w' ⟨rfl, hb⟩
    exact ⟨_, 1, rfl, .inl rfl, .inl ⟨rfl, rfl⟩, hb⟩
  · rw [if_neg hne]
    rcases hc with hc | ⟨b, off, rfl, hb, hc⟩
    · exact (hne hc).elim
    · refine (pltree_row hb (by omega) hne (fun j hj => (hO _ (getD_memT ps j hj)).1) hc).mono ?_
      rintro e w' ⟨q, rfl, hb, n, hT⟩
      exact ⟨_, n, rfl, .inr ⟨q, rfl⟩, IsTr.moved (Nat.le_refl _) (fun _ _ _ => ⟨trivial, rfl⟩) n hT, hb⟩

def TabT (w : World) : Prop := Lib.TabIs Tryd.prog w "internal/strconv.uint64pow10" .u64 Lib.pow10Tab

set_option maxHeartbeats 8000000 in
theorem law_far (g : Gm) (ps : List TwP) (inp : List Int) (pv lv sv : Value) (ta ia : Option Addr) (tc ic : Nat) (w : World) (h : GrM w g pv lv sv) (hfar : smallG g = false ∨ 12 < inp.length ∨ 60 < ps.length) :
    Calls Tryd.prog 3 #[gv g pv lv sv, .slice ta ps.length tc, .slice ia inp.length ic] w fun e w' => e = .returned (.bool true) ∧ Below w.heap.size w w' := by
  have hB0 := boxG_below w g pv lv sv
  have HBX : Hid (BoxG (boxG w g pv lv sv) w.heap.size g pv lv sv) := boxG_box w g pv lv sv
  have HS : Hid (∀ w', Below w.heap.size w w' → Calls Tryd.prog 4 #[gv g pv lv sv] w' fun e w'' => e = .returned (.bool (smallG g)) ∧ Below w'.heap.size w' w'') := fun w' hb => small_any g pv lv sv w' (h.below hb)
  clear h
  obtain ⟨q0, q1, q2, q3, q4, q5, q6⟩ := HBX.out
  unfold gv gvs at *
  unfold boxG gvs at *
  have HB0 : Hid (Below w.heap.size w (w.alloc (.cells #[.int .i64 g.terms, .int .i64 g.names, .int .i64 g.start, pv, lv, sv] 25))) := hB0
  clear hB0 HBX
  generalize smallG g = sm at *
  generalize inp.length = il at *
  generalize ps.length = pl at *
  have HFar : Hid (sm = false ∨ 12 < il ∨ 60 < pl) := hfar
  clear hfar
  go_enter Tryd.func3, Tryd.ntmps3
  go_wp2_with fail
  go_at_call 4
  refine (HS.out _ HB0.out).mono ?_
  rintro e w1 ⟨rfl, hb1⟩
  have hb2 := HB0.out.trans (hb1.mono HB0.out.size)
  clear hb1 q0 q1 q2 q3 q4 q5 q6 HS
  cases sm with
  | false =>
    go_wp2
    go_ret
    exact ⟨rfl, hb2⟩
  | true =>
    by_cases hi : (il : Int) > 12
    · have d1 : decide ((il : Int) > 12) = true := decide_eq_true hi
      go_wp2
      go_ret
      exact ⟨rfl, hb2⟩
    · have d1 : decide ((il : Int) > 12) = false := decide_eq_false hi
      have hp : (pl : Int) > 60 := by
        rcases HFar.out with h | h | h
        · cases h
        · omega
        · omega
      have d2 : decide ((pl : Int) > 60) = true := decide_eq_true hp
      go_wp2
      go_ret
      exact ⟨rfl, hb2⟩

set_option maxHeartbeats 8000000 in
theorem law_near (g : Gm) (ps : List TwP) (inp : List Int) (pv lv sv iv tv : Value) (w : World) (h : GrM w g pv lv sv) (hwf : WfG g) (hsm : smallG g = true) (hT : TwsR w tv ps) (hO : TwOk ps) (hI : IntsR w iv inp) (hil : inp.length ≤ 12) (hpl : ps.length ≤ 60) (hTab : TabT w) :
    Calls Tryd.prog 3 #[gv g pv lv sv, tv, iv] w fun e w' => e = .returned (.bool true) ∧ Below w.heap.size w w' := by
  have hB0 := boxG_below w g pv lv sv
  have HBX : Hid (BoxG (boxG w g pv lv sv) w.heap.size g pv lv sv) := boxG_box w g pv lv sv
  have HS : Hid (∀ w', Below w.heap.size w w' → Calls Tryd.prog 4 #[gv g pv lv sv] w' fun e w'' => e = .returned (.bool true) ∧ Below w'.heap.size w' w'') := fun w' hb => by
    have := small_any g pv lv sv w' (h.below hb)
    rw [hsm] at this
    exact this
  have HH : Hid (∀ w', Below w.heap.size w w' → Calls Tryd.prog 5 #[tv] w' fun e w'' => e = .returned (.int .i64 (hvyZ ps)) ∧ Below w'.heap.size w' w'') := fun w' hb => heavy_any ps tv w' (hT.below hb) hpl hO
  have HT : Hid (∀ w', Below w.heap.size w w' → Calls Tryd.prog 6 #[tv] w' fun e w'' => ∃ v n, e = .returned v ∧ (v = .pointer none ∨ ∃ q, v = .pointer (some ⟨q, 0, none⟩)) ∧ IsTr (fun _ => True) n w'' v (lastT ps) ∧ Below w'.heap.size w' w'') := fun w' hb => pltree_any ps tv w' (hT.below hb) hpl hO
  have HG : Hid (∀ w', Below w.heap.size w w' → Calls Tryd.prog 7 #[gv g pv lv sv] w' fun e w'' => e = .returned (.bool (gOkB g)) ∧ Below w'.heap.size w' w'') := fun w' hb => gok_any g pv lv sv w' (h.below hb)
  have HLW : Hid (hvyZ ps ≤ 500 → okT (lastT ps) = true ∧ (shT (lastT ps)).length ≤ 1000000 ∧ ∀ m, okN m (lastT ps)) := fun hz => by
    have h1 := lastT_wt ps hz
    have h2 := lastT_ok ps hO
    have h3 := shT_len _ h2
    exact ⟨h2, by omega, fun m => okN_of m _ (by omega)⟩
  have HTB : Hid (∀ w', Below w.heap.size w w' → TabT w') := fun w' hb => Lib.tabBelow_of_tabIs hTab w' hb
  have HGM : Hid (∀ w', Below w.heap.size w w' → GrM w' g pv lv sv ∧ IntsR w' iv inp) := fun w' hb => ⟨h.below hb, hI.below hb⟩
  obtain ⟨ia, ic, rfl⟩ := hI.slice
  obtain ⟨ta, tc, rfl⟩ := hT.slice
  have HWF : Hid (WfG g) := hwf
  clear h hwf hsm hT hO hI hTab
  obtain ⟨q0, q1, q2, q3, q4, q5, q6⟩ := HBX.out
  have HSH : Hid (∀ n w' v, Below w.heap.size w w' → IsTr (fun _ => True) n w' v (lastT ps) → hvyZ ps ≤ 500 → (∀ w4, Below w'.heap.size w' w4 → Calls Tryd.prog 10 #[v] w4 fun e w'' => e = .returned (.string ⟨(shT (lastT ps)).toArray⟩) ∧ Below w4.heap.size w4 w'') ∧ (∀ w4, Below w'.heap.size w' w4 → Calls Tryd.prog 11 #[v] w4 fun e w'' => e = .returned (.string ⟨(shT (lastT ps)).toArray⟩) ∧ Below w4.heap.size w4 w'')) := fun n w' v hb hv hz => by
    obtain ⟨o1, o2, o3⟩ := HLW.out hz
    refine ⟨fun w4 h4 => pshow_any n w4 v _ (HTB.out w4 (hb.trans (h4.mono hb.size))) (hv.below h4) o1 o2, fun w4 h4 => rshow_all n w' v _ hv o1 o2 w4 h4⟩
  have HSN : Hid (∀ n w' v, Below w.heap.size w w' → IsTr (fun _ => True) n w' v (lastT ps) → hvyZ ps ≤ 500 → ∃ R : Bool, (gOkB g = true → ∀ w4, Below w'.heap.size w' w4 → Calls Tryd.prog 8 #[gv g pv lv sv, v, .slice ia inp.length ic] w4 fun e w'' => e = .returned (.bool R) ∧ Below w4.heap.size w4 w'') ∧ (gOkB g = false → R = false) ∧ (∀ w4, Below w'.heap.size w' w4 → Calls Tryd.prog 9 #[gv g pv lv sv, v, .slice ia inp.length ic] w4 fun e w'' => e = .returned (.bool R) ∧ Below w4.heap.size w4 w'')) := fun n w' v hb hv hz => by
    obtain ⟨o1, o2, o3⟩ := HLW.out hz
    cases hg : gOkB g with
    | false =>
      refine ⟨false, (fun e => by cases e), fun _ => rfl, fun w4 h4 => ?_⟩
      exact psound_no g pv lv sv _ v w4 (HGM.out w4 (hb.trans (h4.mono hb.size))).1 HWF.out hg
    | true =>
      obtain ⟨p1, p2, p3⟩ := gok_ps g hg
      refine ⟨decide (lvT g.prods inp (lastT ps) (-1 - g.start) 0 = some inp.length), fun _ w4 h4 => ?_, (fun e => by cases e), fun w4 h4 => ?_⟩
      · have hm := HGM.out w4 (hb.trans (h4.mono hb.size))
        exact rsound_any g pv lv sv _ inp hil w4 v _ p2 p3 hm.2 (leaves_all g pv lv sv inp _ p1 hil n w4 v _ hm.1 hm.2 (hv.below h4) o3)
      · have hm := HGM.out w4 (hb.trans (h4.mono hb.size))
        exact psound_yes g pv lv sv _ v inp hil w4 hm.1 HWF.out hg hm.2 n _ (hv.below h4) o3
  clear HLW HTB HGM HWF
  generalize (⟨(shT (lastT ps)).toArray⟩ : ByteArray) = S at *
  generalize hvyZ ps = hz at *
  generalize gOkB g = ok at *
  unfold gv gvs at *
  have HWB : Hid (w.alloc (.cells #[.int .i64 g.terms, .int .i64 g.names, .int .i64 g.start, pv, lv, sv] 25) = boxG w g pv lv sv) := rfl
  have HB0 : Hid (Below w.heap.size w (boxG w g pv lv sv)) := hB0
  clear hB0
  generalize boxG w g pv lv sv = W1 at *
  have d1 : decide ((inp.length : Int) > 12) = false := decide_eq_false (by omega)
  have d2 : decide ((ps.length : Int) > 60) = false := decide_eq_false (by omega)
  go_enter Tryd.func3, Tryd.ntmps3
  go_wp2_with fail
  rw [HWB.out]
  go_wp2_with fail
  go_at_call 4
  refine (HS.out _ HB0.out).mono ?_
  rintro e w2 ⟨rfl, hb2⟩
  have HB2 : Hid (Below w.heap.size w w2) := HB0.out.trans (hb2.mono HB0.out.size)
  have HX2 : Hid (BoxG w2 w.heap.size g pv lv sv) := HBX.out.below HBX.out.lt hb2
  clear q0 q1 q2 q3 q4 q5 q6 hb2 HBX HS HB0 HWB
  go_wp2_with fail
  go_at_call 5
  refine (HH.out _ HB2.out).mono ?_
  rintro e w3 ⟨rfl, hb3⟩
  have HB3 : Hid (Below w.heap.size w w3) := HB2.out.trans (hb3.mono HB2.out.size)
  have HX3 : Hid (BoxG w3 w.heap.size g pv lv sv) := HX2.out.below HX2.out.lt hb3
  clear hb3 HX2 HH HB2
  by_cases hbig : hz > 500
  · have d3 : decide (hz > 500) = true := decide_eq_true hbig
    go_wp2
    go_ret
    exact ⟨rfl, HB3.out⟩
  have d3 : decide (hz > 500) = false := decide_eq_false hbig
  have HZ : Hid (hz ≤ 500) := by show _ ≤ _; omega
  clear hbig
  go_wp2_with fail
  go_at_call 6
  refine (HT.out _ HB3.out).mono ?_
  rintro e w4 ⟨v, n, rfl, hvf, hv, hb4⟩
  have HB4 : Hid (Below w.heap.size w w4) := HB3.out.trans (hb4.mono HB3.out.size)
  have HX4 : Hid (BoxG w4 w.heap.size g pv lv sv) := HX3.out.below HX3.out.lt hb4
  have hsh := HSH.out n w4 v HB4.out hv HZ.out
  have HSP : Hid (∀ w5, Below w4.heap.size w4 w5 → Calls Tryd.prog 10 #[v] w5 fun e w'' => e = .returned (.string S) ∧ Below w5.heap.size w5 w'') := hsh.1
  have HSR : Hid (∀ w5, Below w4.heap.size w4 w5 → Calls Tryd.prog 11 #[v] w5 fun e w'' => e = .returned (.string S) ∧ Below w5.heap.size w5 w'') := hsh.2
  obtain ⟨R, hr1, hr2, hr3⟩ := HSN.out n w4 v HB4.out hv HZ.out
  have HR1 : Hid (ok = true → ∀ w5, Below w4.heap.size w4 w5 → Calls Tryd.prog 8 #[.agg #[.int .i64 g.terms, .int .i64 g.names, .int .i64 g.start, pv, lv, sv], v, .slice ia inp.length ic] w5 fun e w'' => e = .returned (.bool R) ∧ Below w5.heap.size w5 w'') := hr1
  have HR2 : Hid (ok = false → R = false) := hr2
  have HR3 : Hid (∀ w5, Below w4.heap.size w4 w5 → Calls Tryd.prog 9 #[.agg #[.int .i64 g.terms, .int .i64 g.names, .int .i64 g.start, pv, lv, sv], v, .slice ia inp.length ic] w5 fun e w'' => e = .returned (.bool R) ∧ Below w5.heap.size w5 w'') := hr3
  clear hb4 HX3 HB3 HT hsh hr1 hr2 hr3 hv HSH HSN
  obtain ⟨q0, q1, q2, q3, q4, q5, q6⟩ := HX4.out
  have HVF : Hid (v = .pointer none ∨ ∃ q, v = .pointer (some ⟨q, 0, none⟩)) := hvf
  clear hvf
  go_wp2_with fail
  go_at_call 7
  refine (HG.out _ HB4.out).mono ?_
  rintro e w5 ⟨rfl, hb5⟩
  have HB5 : Hid (Below w.heap.size w w5) := HB4.out.trans (hb5.mono HB4.out.size)
  have HC5 : Hid (Below w4.heap.size w4 w5) := hb5
  have HX5 : Hid (BoxG w5 w.heap.size g pv lv sv) := HX4.out.below HX4.out.lt hb5
  clear hb5 q0 q1 q2 q3 q4 q5 q6 HX4 HG
  have HEND : Hid (∀ w6, Below w4.heap.size w4 w6 → Below w.heap.size w w6) := fun w6 h6 => HB4.out.trans (h6.mono HB4.out.size)
  clear HB4
  have HTL : Hid (∀ w6, Below w4.heap.size w4 w6 → ∃ w7, True) := fun w6 _ => ⟨w6, trivial⟩
  clear HTL
  obtain ⟨q0, q1, q2, q3, q4, q5, q6⟩ := HX5.out
  cases ok with
  | false =>
    obtain rfl := HR2.out rfl
    clear HR1 HR2
    go_wp2_with fail
    go_at_call 9
    refine (HR3.out _ HC5.out).mono ?_
    rintro e w6 ⟨rfl, hb6⟩
    have HC6 : Hid (Below w4.heap.size w4 w6) := HC5.out.trans (hb6.mono HC5.out.size)
    clear hb6 q0 q1 q2 q3 q4 q5 q6 HX5 HB5 HR3
    go_wp2_with fail
    go_at_call 10
    refine (HSP.out _ HC6.out).mono ?_
    rintro e w7 ⟨rfl, hb7⟩
    have HC7 : Hid (Below w4.heap.size w4 w7) := HC6.out.trans (hb7.mono HC6.out.size)
    clear hb7 HC6
    go_wp2_with fail
    go_at_call 11
    refine (HSR.out _ HC7.out).mono ?_
    rintro e w8 ⟨rfl, hb8⟩
    have hfin := HEND.out w8 (HC7.out.trans (hb8.mono HC7.out.size))
    clear hb8 HC7
    go_wp2
    go_ret
    exact ⟨rfl, hfin⟩
  | true =>
    have hr1 := HR1.out rfl
    have HR1' : Hid (∀ w5, Below w4.heap.size w4 w5 → Calls Tryd.prog 8 #[.agg #[.int .i64 g.terms, .int .i64 g.names, .int .i64 g.start, pv, lv, sv], v, .slice ia inp.length ic] w5 fun e w'' => e = .returned (.bool R) ∧ Below w5.heap.size w5 w'') := hr1
    clear hr1 HR1 HR2
    go_wp2_with fail
    go_at_call 8
    refine (HR1'.out _ HC5.out).mono ?_
    rintro e w55 ⟨rfl, hb55⟩
    have HC55 : Hid (Below w4.heap.size w4 w55) := HC5.out.trans (hb55.mono HC5.out.size)
    have HX55 : Hid (BoxG w55 w.heap.size g pv lv sv) := HX5.out.below HX5.out.lt hb55
    clear hb55 q0 q1 q2 q3 q4 q5 q6 HX5 HB5 HR1' HC5
    obtain ⟨q0, q1, q2, q3, q4, q5, q6⟩ := HX55.out
    go_wp2_with fail
    go_at_call 9
    refine (HR3.out _ HC55.out).mono ?_
    rintro e w6 ⟨rfl, hb6⟩
    have HC6 : Hid (Below w4.heap.size w4 w6) := HC55.out.trans (hb6.mono HC55.out.size)
    clear hb6 q0 q1 q2 q3 q4 q5 q6 HX55 HR3
    have hRR : (R == R) = true := by simp
    go_wp2_with fail
    go_at_call 10
    refine (HSP.out _ HC6.out).mono ?_
    rintro e w7 ⟨rfl, hb7⟩
    have HC7 : Hid (Below w4.heap.size w4 w7) := HC6.out.trans (hb7.mono HC6.out.size)
    clear hb7 HC6
    go_wp2_with fail
    go_at_call 11
    refine (HSR.out _ HC7.out).mono ?_
    rintro e w8 ⟨rfl, hb8⟩
    have hfin := HEND.out w8 (HC7.out.trans (hb8.mono HC7.out.size))
    clear hb8 HC7
    go_wp2
    go_ret
    exact ⟨rfl, hfin⟩

end Go.Proofs.YtbgklfmhmpjboaaDoor
