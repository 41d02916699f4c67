/- Texts of the proof, put together: GLpN, GFin, GLpD. -/
import Derived.Test.YtkdoghaoijdedaaGreatDoorGt17
import Derived.Test.YtkdoghaoijdedaaGreatDoorGt21
import Derived.Test.YtkdoghaoijdedaaGreatDoorGt22
import Derived.Test.YtkdoghaoijdedaaGreatDoorGt16
namespace Go.Proofs.YtkdoghaoijdedaaGreatDoor
open Go.RowKit
set_option linter.unusedVariables false
set_option maxRecDepth 100000

def alkB (e : Nat → Bool) (ps : List PdR) (n k : Nat) : Bool := ps.any fun p => decide (p.left = (n : Int)) && (List.range p.right.length).any fun i => alkAt e p.right i && decide (-1 - p.right.getD i 0 = (k : Int))
theorem alkB_iff (e : Nat → Bool) (ps : List PdR) (n k : Nat) : alkB e ps n k = true ↔ alkR e ps ps.length n k := by
  unfold alkB alkR PdAlk
  rw [List.any_eq_true]
  constructor
  · rintro ⟨p, hp, h⟩
    rw [Bool.and_eq_true, decide_eq_true_eq, List.any_eq_true] at h
    obtain ⟨h1, i, hi, h2⟩ := h
    rw [Bool.and_eq_true, decide_eq_true_eq] at h2
    obtain ⟨q, hq, e⟩ := List.mem_iff_getElem.1 hp
    have e2 : ps.getD q noPd = p := by simp [List.getD, hq, e]
    exact ⟨q, hq, by rw [e2]; exact ⟨h1, i, List.mem_range.1 hi, h2.1, h2.2⟩⟩
  · rintro ⟨q, hq, h1, i, hi, h2, h3⟩
    refine ⟨ps.getD q noPd, by simp [List.getD, hq], ?_⟩
    rw [Bool.and_eq_true, decide_eq_true_eq, List.any_eq_true]
    exact ⟨h1, i, List.mem_range.2 hi, by rw [Bool.and_eq_true, decide_eq_true_eq]; exact ⟨h2, h3⟩⟩
theorem alkB_lt {N : Nat} {ps : List PdR} (hG : GOkM N ps) (e : Nat → Bool) (n k : Nat) (h : alkB e ps n k = true) : k < N := by
  obtain ⟨q, hq, _, i, hi, h1, h2⟩ := (alkB_iff e ps n k).1 h
  have := (hG.pd q hq).1.2.2.2 i hi
  unfold alkAt at h1
  rw [Bool.and_eq_true, decide_eq_true_eq] at h1
  omega
/-- a name loops -/
def loopP (N : Nat) (ps : List PdR) (n : Nat) : Prop := pathP (fun a b => b < N ∧ alkB (hgtB false (prsS (wholeP N ps)) N) (wholeP N ps) a b = true) N n n

set_option maxHeartbeats 8000000 in
theorem looping_any (t s : Int) (N : Nat) (ps : List PdR) (ls ss : List Int) (pv lv sv : Value) (w : World) (hN1 : 1 ≤ N) (hN8 : N ≤ 8) (hG : GOkM N ps) (h : PdsM w pv ps) (hlv : ∃ a n c, lv = .slice a n c) (hsv : ∃ a n c, sv = .slice a n c) :
    Calls Tryz.prog 26 #[gv ⟨t, N, s, ps, ls, ss⟩ pv lv sv] w fun e w' => ∃ B L, e = .returned (.slice (some ⟨B, 0, none⟩) N N) ∧ RowB w' B L ∧ L.length = N ∧ (∀ n, n < N → (factB L n = true ↔ loopP N ps n)) ∧ w.heap.size ≤ B ∧ Below w.heap.size w w' := by
  have hB0 := boxG_below w ⟨t, N, s, ps, ls, ss⟩ pv lv sv
  have hB1 := boxG_size w ⟨t, N, s, ps, ls, ss⟩ pv lv sv
  have hB2 := boxG_box w ⟨t, N, s, ps, ls, ss⟩ pv lv sv
  have hWh := whole_any t s N ps ls ss pv lv sv (boxG w ⟨t, N, s, ps, ls, ss⟩ pv lv sv) hG (h.below hB0) hlv hsv
  have hGw := hG.whole
  have hN := hG.n
  obtain ⟨pa, pc, rfl⟩ := h.slice
  have HBX : Hid (BoxG (boxG w ⟨t, N, s, ps, ls, ss⟩ (.slice pa ps.length pc) lv sv) w.heap.size ⟨t, N, s, ps, ls, ss⟩ (.slice pa ps.length pc) lv sv) := hB2
  clear h hG
  unfold boxG gv gvs at hWh
  unfold boxG gvs at hB0 hB1 hB2 HBX
  unfold gv gvs
  simp only at *
  obtain ⟨q0, q1, q2, q3, q4, q5, q6⟩ := hB2
  simp only at q0 q1 q2 q3 q4 q5 q6
  have HLP : Hid (∀ n, loopP N ps n ↔ pathP (fun a b => b < N ∧ alkB (hgtB false (prsS (wholeP N ps)) N) (wholeP N ps) a b = true) N n n) := fun n => Iff.rfl
  generalize loopP N ps = LP at *
  go_enter Tryz.func26, Tryz.ntmps26
  go_wp2_with fail
  refine hWh.mono ?_
  rintro e w2 ⟨pv', rfl, hpds, hb2⟩
  clear hWh q0 q1 q2 q3 q4 q5 q6
  generalize w.alloc (.cells #[.int .i64 t, .int .i64 N, .int .i64 s, .slice pa ps.length pc, lv, sv] 25) = w0 at *
  have hb2' : Below w.heap.size w w2 := hB0.trans (hb2.mono (by omega))
  have hAl := alike_any t s N (wholeP N ps) ls ss pv' lv sv w2 hGw hpds
  unfold gv gvs at hAl
  simp only at hAl
  clear hpds
  go_wp2_with fail
  refine hAl.mono ?_
  rintro e w3 ⟨D, cnt, rfl, hlnk, hcb, hDw, hb3⟩
  clear hAl
  have hb3' : Below w.heap.size w w3 := hb2'.trans (hb3.mono hb2'.size)
  have hlnk2 : LinksM w3 D N (fun n => D + 1 + n) cnt (fun n k => k < N ∧ alkB (hgtB false (prsS (wholeP N ps)) N) (wholeP N ps) n k = true) := hlnk.iff fun n k => by
    rw [← alkB_iff]
    exact ⟨fun h => ⟨alkB_lt hGw _ n k h, h⟩, fun h => h.2⟩
  have hA := alloc_below w3 (.cells #[.slice (some ⟨D, 0, none⟩) N N] 56)
  have hAs := alloc_size w3 (.cells #[.slice (some ⟨D, 0, none⟩) N N] 56)
  have hAc : (w3.alloc (.cells #[.slice (some ⟨D, 0, none⟩) N N] 56)).cell? ⟨w3.heap.size, 0, none⟩ = some (.slice (some ⟨D, 0, none⟩) N N) := by
    have h := alloc_at w3 (.cells #[.slice (some ⟨D, 0, none⟩) N N] 56)
    simp only [World.cell?, h]; rfl
  have hVL : VarL (w3.alloc (.cells #[.slice (some ⟨D, 0, none⟩) N N] 56)) w3.heap.size D N _ cnt _ := ⟨by omega, hAc, hlnk2.below hA⟩
  have hbA : Below w.heap.size w (w3.alloc (.cells #[.slice (some ⟨D, 0, none⟩) N N] 56)) := hb3'.trans (hA.mono hb3'.size)
  have hbx : Below w0.heap.size w0 (w3.alloc (.cells #[.slice (some ⟨D, 0, none⟩) N N] 56)) := by
    have k3 := hb2.trans (hb3.mono hb2.size)
    exact k3.trans (hA.mono k3.size)
  have HBX4 : Hid (BoxG (w3.alloc (.cells #[.slice (some ⟨D, 0, none⟩) N N] 56)) w.heap.size ⟨t, N, s, ps, ls, ss⟩ (.slice pa ps.length pc) lv sv) := HBX.out.below (show w.heap.size < w0.heap.size by omega) hbx
  have hen : ∀ args w, (callFunc 53 args).run Tryz.prog w = .ok (.enter 53 args) w := enters_of Tryz.func53 (by kernel_rfl) rfl
  have hSy : SaysM1 (w3.alloc (.cells #[.slice (some ⟨D, 0, none⟩) N N] 56)) 53 (.pointer (some ⟨w3.heap.size, 0, none⟩)) N (partsM (alkB (hgtB false (prsS (wholeP N ps)) N) (wholeP N ps)) N) := by
    intro w' L B n hn hL hlt hv hb
    exact loopC_any N hN8 _ _ cnt L B n w3.heap.size D hn w' hL hlt hv (hVL.below hb) (fun k hk => hk.1) _ (fun i => by
      rw [parts_iff]
      exact ⟨fun ⟨k, h1, h2, h3⟩ => ⟨k, ⟨h1, h2⟩, h3⟩, fun ⟨k, ⟨h1, h2⟩, h3⟩ => ⟨k, h1, h2, h3⟩⟩)
  have hLe := leastM1_any N hN1 hN _ _ _ 8000 (by omega) (parts_ok (alkB (hgtB false (prsS (wholeP N ps)) N) (wholeP N ps)) N hN8) 53 hen (.pointer (some ⟨w3.heap.size, 0, none⟩)) (w3.alloc (.cells #[.slice (some ⟨D, 0, none⟩) N N] 56)) D _ cnt hVL.lnk (fun n _ => hcb n) (fun n k _ hk => hk.1) hSy
  unfold mkV mkA at hLe
  rw [show (((0 : Nat) : Int)) = 0 from rfl] at hLe
  have hlt4 : w3.heap.size < (w3.alloc (.cells #[.slice (some ⟨D, 0, none⟩) N N] 56)).heap.size := by omega
  clear hSy hVL hlnk hlnk2 hA hAs hbx
  go_wp2_with fail
  refine hLe.mono ?_
  rintro e w5 ⟨B, L, rfl, hrow, hwk, hB, hb5⟩
  have HRw : Hid (RowM w5 B L) := hrow
  have HWk : Hid (∀ n, n < N → ((factM L n).testBit n = true ↔ LP n)) := fun n hn => by rw [HLP.out n]; exact hwk.parts n n hn
  have HLn : Hid (L.length = N) := hwk.len
  have HLt : Hid (∀ n, factM L n < 512) := hwk.lt
  have hb5' : Below w.heap.size w w5 := hbA.trans (hb5.mono hbA.size)
  have HBX5 : Hid (BoxG w5 w.heap.size ⟨t, N, s, ps, ls, ss⟩ (.slice pa ps.length pc) lv sv) := HBX4.out.below HBX4.out.lt hb5
  clear hrow hwk hLe hAc hB hb5 hbA hlt4 HBX4
  obtain ⟨q0, q1, q2, q3, q4, q5, q6⟩ := HBX5.out
  simp only at q0 q1 q2 q3 q4 q5 q6
  have hmk := makeBoolsT N (by omega) w5
  have hA1 := alloc_below w5 (.cells (boolsA (List.replicate N false)) 4)
  have HR0 : Hid (RowB (w5.alloc (.cells (boolsA (List.replicate N false)) 4)) w5.heap.size (List.replicate N false)) := alloc_at _ _
  go_wp2
  clear hmk q0 q1 q2 q3 q4 q5 q6
  generalize w5.alloc (.cells (boolsA (List.replicate N false)) 4) = w6 at *
  go_loopw [19] (fun iv wr => ∃ (k : Nat) (O : List Bool), k ≤ N ∧ iv = .int .i64 k ∧ Hid (RowB wr w5.heap.size O) ∧ Hid (O.length = N) ∧ Hid (∀ n, n < k → (factB O n = true ↔ LP n)) ∧ Below w5.heap.size w5 wr) (fun iv _ => N - (intOf iv).toNat)
  case atStart => exact ⟨0, _, Nat.zero_le _, rfl, HR0, (by show _ = _; simp), (fun n hn => by omega), hA1⟩
  case round =>
    clear HR0 hA1
    obtain ⟨k, O, hk, rfl, HR, HOl, HF, hbw⟩ := hrel
    have hbx : Below w.heap.size w wr := hb5'.trans (hbw.mono hb5'.size)
    by_cases hlt : k < N
    · have hV := HRw.out.below hbw
      have hkL : k < L.length := by rw [HLn.out]; exact hlt
      have c0 := hV.c0 hkL
      have c1 := hV.ck hkL (k := 1) (by omega) (by omega)
      have c2 := hV.ck hkL (k := 2) (by omega) (by omega)
      have c3 := hV.ck hkL (k := 3) (by omega) (by omega)
      have c4 := hV.ck hkL (k := 4) (by omega) (by omega)
      have lV := hV.lt
      have hC := mhas_any (factM L k) k (HLt.out k) (by omega) wr
      have HST : Hid (∀ n, n < k + 1 → (factB (O.set k ((factM L k).testBit k)) n = true ↔ LP n)) := fun n hn => by
        rw [factB_set HOl.out hlt]
        by_cases e : n = k
        · rw [if_pos e, e]; exact HWk.out k hlt
        · rw [if_neg e]; exact HF.out n (by omega)
      have HOl2 : Hid ((O.set k ((factM L k).testBit k)).length = N) := by show _ = _; rw [List.length_set]; exact HOl.out
      clear hV
      generalize (factM L k).testBit k = bb at *
      generalize factM L k = fm at *
      unfold mkV mkA at hC
      have hRD : ∀ wx, Below wr.heap.size wr wx → RowB wx w5.heap.size O := fun wx hx => (hx.block _ HR.out.lt).trans HR.out
      have HRD : Hid (∀ wx, Below wr.heap.size wr wx → RowB wx w5.heap.size O) := hRD
      clear hRD
      go_wp2_with fail
      refine hC.mono ?_
      rintro e w7 ⟨rfl, hb7⟩
      have hR7 := HRD.out w7 hb7
      have f7 := hR7.fz k
      have cc := hR7.cell (j := k) (by rw [HOl.out]; exact hlt)
      have l7 := hR7.lt
      have HR8 : Hid (RowB (w7.setCell ⟨w5.heap.size, k, none⟩ (.bool bb)) w5.heap.size (O.set k bb)) := hR7.set k bb
      have hb8 : Below w5.heap.size w5 (w7.setCell ⟨w5.heap.size, k, none⟩ (.bool bb)) := below_set (hbw.trans (hb7.mono hbw.size)) (Nat.le_refl _) _ _
      clear hC hb7 HRD hR7 HR HF
      generalize factB O k = fo at *
      go_wp2
      go_roundw
      case rel => exact ⟨k + 1, _, by omega, by go_num, HR8, HOl2, HST, hb8⟩
      case measure => simp [intOf]; omega
    · obtain rfl : k = N := by omega
      have hBl : w.heap.size ≤ w5.heap.size := hb5'.size
      go_wp2
      go_ret
      exact ⟨_, O, rfl, HR.out, HOl.out, HF.out, hBl, hbx⟩

end Go.Proofs.YtkdoghaoijdedaaGreatDoor

namespace Go.Proofs.YtkdoghaoijdedaaGreatDoor
set_option linter.unusedVariables false

/-- how many of the first names hold -/
def cntB (f : Nat → Bool) : Nat → Nat
  | 0 => 0
  | n + 1 => cntB f n + (if f n then 1 else 0)
theorem cntB_le (f : Nat → Bool) : ∀ N, cntB f N ≤ N
  | 0 => Nat.le_refl _
  | N + 1 => by
    have := cntB_le f N
    show cntB f N + _ ≤ N + 1
    split <;> omega
theorem cntB_mono {f g : Nat → Bool} (h : ∀ n, f n = true → g n = true) : ∀ N, cntB f N ≤ cntB g N
  | 0 => Nat.le_refl _
  | N + 1 => by
    have h1 := cntB_mono h N
    show cntB f N + (if f N then 1 else 0) ≤ cntB g N + (if g N then 1 else 0)
    cases e1 : f N with
    | false => simp; omega
    | true => rw [h N e1]; simp; exact h1
theorem cntB_same {f g : Nat → Bool} (h : ∀ n, f n = true → g n = true) : ∀ N, cntB g N ≤ cntB f N → ∀ n, n < N → f n = g n
  | 0, _, n, hn => by omega
  | N + 1, hc, n, hn => by
    have h1 := cntB_mono h N
    have hc' : cntB g N + (if g N then 1 else 0) ≤ cntB f N + (if f N then 1 else 0) := hc
    have h2 : f N = g N := by
      cases e1 : f N with
      | true => exact (h N e1).symm
      | false =>
        cases e2 : g N with
        | false => rfl
        | true => rw [e1, e2] at hc'; simp at hc'; omega
    by_cases e : n = N
    · rw [e]; exact h2
    · rw [h2] at hc'
      exact cntB_same h N (by omega) n (by omega)
/-- rounds that only add, and that rest once they rested, rest after as many as there are names -/
theorem chain_fin (f : Nat → Nat → Bool) (N : Nat) (hup : ∀ h n, f h n = true → f (h + 1) n = true) (hst : ∀ h, (∀ n, n < N → f h n = f (h + 1) n) → ∀ n, n < N → f (h + 1) n = f (h + 2) n) : ∀ k, N ≤ k → ∀ n, n < N → f k n = f N n := by
  have key : ∀ h, (∃ j, j ≤ h ∧ ∀ n, n < N → f j n = f (j + 1) n) ∨ h ≤ cntB (f h) N := by
    intro h
    induction h with
    | zero => exact .inr (Nat.zero_le _)
    | succ h ih =>
      rcases ih with ⟨j, h1, h2⟩ | h1
      · exact .inl ⟨j, by omega, h2⟩
      · by_cases hc : cntB (f (h + 1)) N ≤ cntB (f h) N
        · exact .inl ⟨h, by omega, cntB_same (hup h) N hc⟩
        · exact .inr (by omega)
  have rest : ∀ j, (∀ n, n < N → f j n = f (j + 1) n) → ∀ d n, n < N → f (j + d) n = f (j + d + 1) n := by
    intro j hj d
    induction d with
    | zero => exact hj
    | succ d ih => exact hst (j + d) ih
  have eqs : ∀ j, (∀ n, n < N → f j n = f (j + 1) n) → ∀ d n, n < N → f (j + d) n = f j n := by
    intro j hj d
    induction d with
    | zero => intro n _; rfl
    | succ d ih => intro n hn; rw [show j + (d + 1) = j + d + 1 by omega, ← rest j hj d n hn]; exact ih n hn
  have hex : ∃ j, j ≤ N ∧ ∀ n, n < N → f j n = f (j + 1) n := by
    rcases key (N + 1) with ⟨j, h1, h2⟩ | h1
    · by_cases e : j ≤ N
      · exact ⟨j, e, h2⟩
      · rcases key N with ⟨j', h3, h4⟩ | h3
        · exact ⟨j', h3, h4⟩
        · have h5 : cntB (f (N + 1)) N ≤ cntB (f N) N := Nat.le_trans (cntB_le _ N) h3
          exact ⟨N, Nat.le_refl _, cntB_same (hup N) N h5⟩
    · have := cntB_le (f (N + 1)) N
      omega
  obtain ⟨j, hj, hs⟩ := hex
  intro k hk n hn
  have e1 := eqs j hs (k - j) n hn
  have e2 := eqs j hs (N - j) n hn
  rw [show j + (k - j) = k by omega] at e1
  rw [show j + (N - j) = N by omega] at e2
  rw [e1, e2]
theorem reachH_up (ps : List PdR) (s : Int) : ∀ (h n : Nat), reachH ps s h n = true → reachH ps s (h + 1) n = true
  | 0, n, h => by simp [reachH] at h
  | h + 1, n, hh => reachB_mono (fun m hm => reachH_up ps s h m hm) n hh
/-- as many steps as there are names are enough -/
theorem reachH_fin {N : Nat} {ps : List PdR} (hG : GOkM N ps) (s : Int) : ∀ k, N ≤ k → ∀ n, n < N → reachH ps s k n = reachH ps s N n :=
  chain_fin (reachH ps s) N (reachH_up ps s) fun h hs n hn => (reachB_ok hG s).dep _ _ n hn fun k hk => hs k hk.1
theorem reachH_iff {N : Nat} {ps : List PdR} (hG : GOkM N ps) (s : Int) (n : Nat) (hn : n < N) : (∃ h, reachH ps s h n = true) ↔ reachH ps s N n = true := by
  constructor
  · rintro ⟨h, hh⟩
    by_cases e : N ≤ h
    · rw [← reachH_fin hG s h e n hn]; exact hh
    · have : ∀ d, reachH ps s (h + d) n = true := fun d => by
        induction d with
        | zero => exact hh
        | succ d ih => exact reachH_up ps s _ n ih
      have := this (N - h)
      rw [show h + (N - h) = N by omega] at this
      exact this
  · exact fun h => ⟨N, h⟩

end Go.Proofs.YtkdoghaoijdedaaGreatDoor

namespace Go.Proofs.YtkdoghaoijdedaaGreatDoor
open Go.RowKit
set_option linter.unusedVariables false
set_option maxRecDepth 100000

/-- direct parts, by the productions up to q that are whole -/
def dlR (N : Nat) (ps : List PdR) (e : Nat → Bool) (q n k : Nat) : Prop := ∃ m, m < q ∧ keepP N ps (ps.getD m noPd) = true ∧ PdAlk e (ps.getD m noPd) (ps.getD m noPd).right.length n k
theorem dlR_succ (N : Nat) (ps : List PdR) (e : Nat → Bool) (q n k : Nat) : dlR N ps e (q + 1) n k ↔ dlR N ps e q n k ∨ (keepP N ps (ps.getD q noPd) = true ∧ PdAlk e (ps.getD q noPd) (ps.getD q noPd).right.length n k) := by
  constructor
  · rintro ⟨m, hm, h⟩
    by_cases e : m = q
    · subst e; exact .inr h
    · exact .inl ⟨m, by omega, h⟩
  · rintro (⟨m, hm, h⟩ | h)
    · exact ⟨m, by omega, h⟩
    · exact ⟨q, by omega, h⟩
theorem dlR_whole (N : Nat) (ps : List PdR) (e : Nat → Bool) (n k : Nat) : dlR N ps e ps.length n k ↔ alkB e (wholeP N ps) n k = true := by
  rw [alkB_iff]
  constructor
  · rintro ⟨m, hm, h1, h2⟩
    have hp : ps.getD m noPd ∈ wholeP N ps := List.mem_filter.2 ⟨by simp [List.getD, hm], h1⟩
    obtain ⟨q, hq, e1⟩ := List.mem_iff_getElem.1 hp
    have e2 : (wholeP N ps).getD q noPd = ps.getD m noPd := by simp only [List.getD, List.getElem?_eq_getElem hq, Option.getD_some]; exact e1
    exact ⟨q, hq, by rw [e2]; exact h2⟩
  · rintro ⟨q, hq, h⟩
    have hp : (wholeP N ps).getD q noPd ∈ wholeP N ps := by simp [List.getD, hq]
    obtain ⟨h1, h2⟩ := List.mem_filter.1 hp
    obtain ⟨m, hm, e1⟩ := List.mem_iff_getElem.1 h1
    have e2 : ps.getD m noPd = (wholeP N ps).getD q noPd := by
      have e3 : ps.getD m noPd = ps[m] := by simp [List.getD, hm]
      rw [e3, e1]
    exact ⟨m, hm, by rw [e2]; exact h2, by rw [e2]; exact h⟩
theorem prsS_mem {ps : List PdR} {p : PrS} : p ∈ prsS ps ↔ ∃ q ∈ ps, prS q = p := by unfold prsS; exact List.mem_map
theorem hgt_sub {leaf : Bool} {ps ps' : List PdR} (hs : ∀ p ∈ ps, p ∈ ps') : ∀ (h n : Nat), hgtB leaf (prsS ps) h n = true → hgtB leaf (prsS ps') h n = true
  | 0, n, hh => by simp [hgtB] at hh
  | h + 1, n, hh => by
    obtain ⟨p, hp, h1, h2⟩ := (saysB_iff _ _ _ _).1 (show saysB leaf (prsS ps) (hgtB leaf (prsS ps) h) n = true from hh)
    obtain ⟨q, hq, rfl⟩ := prsS_mem.1 hp
    exact (saysB_iff _ _ _ _).2 ⟨prS q, prsS_mem.2 ⟨q, hs q hq, rfl⟩, h1, hasB_mono (fun m hm => hgt_sub hs h m hm) _ h2⟩
theorem has_leaf {f g : Nat → Bool} (h : ∀ n, f n = true → g n = true) (r : List Int) (hf : hasB false f r = true) : hasB true g r = true := by
  unfold hasB at *
  rw [List.all_eq_true] at *
  intro s hs
  have := hf s hs
  by_cases e : s < 0
  · rw [if_pos e] at this ⊢; exact h _ this
  · rw [if_neg e]
theorem hgt_leaf (ps : List PrS) : ∀ (h n : Nat), hgtB false ps h n = true → hgtB true ps h n = true
  | 0, n, hh => by simp [hgtB] at hh
  | h + 1, n, hh => by
    obtain ⟨p, hp, h1, h2⟩ := (saysB_iff _ _ _ _).1 (show saysB false ps (hgtB false ps h) n = true from hh)
    exact (saysB_iff _ _ _ _).2 ⟨p, hp, h1, has_leaf (fun m hm => hgt_leaf ps h m hm) _ h2⟩
theorem prs_left {N : Nat} {ps : List PdR} (hG : GOkM N ps) : ∀ p ∈ prsS ps, p.left < N := fun p hp => by
  obtain ⟨q, hq, rfl⟩ := prsS_mem.1 hp
  have h6 := (hG.mem hq).1
  show q.left.toNat < N
  have := h6.1; have := h6.2.1; omega
theorem hgt_N {N : Nat} {ps : List PdR} (hG : GOkM N ps) (leaf : Bool) (h n : Nat) (hh : hgtB leaf (prsS ps) h n = true) : hgtB leaf (prsS ps) N n = true := by
  by_cases e : h ≤ N
  · exact hgtB_le leaf _ e n hh
  · rw [← hgtB_fin leaf (prsS ps) N (prs_left hG) h n (by omega)]; exact hh
theorem empty_up {N : Nat} {ps : List PdR} (hG : GOkM N ps) : ∀ (h n : Nat), hgtB false (prsS ps) h n = true → hgtB false (prsS (wholeP N ps)) h n = true
  | 0, n, hh => by simp [hgtB] at hh
  | h + 1, n, hh => by
    obtain ⟨p, hp, h1, h2⟩ := (saysB_iff _ _ _ _).1 (show saysB false (prsS ps) (hgtB false (prsS ps) h) n = true from hh)
    obtain ⟨q, hq, rfl⟩ := prsS_mem.1 hp
    have hk : q ∈ wholeP N ps := List.mem_filter.2 ⟨hq, has_leaf (fun m hm => hgt_N hG true h m (hgt_leaf _ h m hm)) _ h2⟩
    exact (saysB_iff _ _ _ _).2 ⟨prS q, prsS_mem.2 ⟨q, hk, rfl⟩, h1, hasB_mono (fun m hm => empty_up hG h m hm) _ h2⟩
theorem empty_whole {N : Nat} {ps : List PdR} (hG : GOkM N ps) : hgtB false (prsS (wholeP N ps)) N = hgtB false (prsS ps) N := by
  funext n
  rw [Bool.eq_iff_iff]
  exact ⟨hgt_sub (fun p hp => (List.mem_filter.1 hp).1) N n, empty_up hG N n⟩
/-- on the way of the closure -/
structure WaI (r : Nat → Nat → Prop) (N m a b : Nat) (LL : Nat → List Bool) : Prop where
  sound : ∀ x y, x < N → factB (LL x) y = true → ∃ h, stepsP r h x y
  have_ : ∀ x y, x < N → y < N → pathP r m x y → factB (LL x) y = true
  done : ∀ x y, x < N → y < N → (x < a ∨ x = a ∧ y < b) → pathP r (m + 1) x y → factB (LL x) y = true
theorem WaI.start {r : Nat → Nat → Prop} {N : Nat} {LL : Nat → List Bool} (h : ∀ x y, x < N → (factB (LL x) y = true ↔ r x y)) : WaI r N 0 0 0 LL :=
  ⟨fun x y hx hf => ⟨0, (h x y hx).1 hf⟩, fun x y hx _ hp => (h x y hx).2 hp, fun x y _ _ hc => by omega⟩
theorem WaI.nextM {r : Nat → Nat → Prop} {N m : Nat} {LL : Nat → List Bool} (h : WaI r N m N 0 LL) : WaI r N (m + 1) 0 0 LL :=
  ⟨h.sound, fun x y hx hy hp => h.done x y hx hy (.inl hx) hp, fun x y _ _ hc => by omega⟩
theorem WaI.nextA {r : Nat → Nat → Prop} {N m a : Nat} {LL : Nat → List Bool} (h : WaI r N m a N LL) : WaI r N m (a + 1) 0 LL :=
  ⟨h.sound, h.have_, fun x y hx hy hc hp => h.done x y hx hy (by omega) hp⟩
theorem WaI.step {r : Nat → Nat → Prop} {N m a b : Nat} {LL LL' : Nat → List Bool} (h : WaI r N m a b LL) (hm : m < N) (ha : a < N) (hb : b < N)
    (hs : ∀ x y, x < N → (factB (LL' x) y = true ↔ if x = a ∧ y = b then (factB (LL a) b = true ∨ (factB (LL a) m = true ∧ factB (LL m) b = true)) else factB (LL x) y = true)) : WaI r N m a (b + 1) LL' := by
  have hup : ∀ x y, x < N → factB (LL x) y = true → factB (LL' x) y = true := fun x y hx hf => by
    rw [hs x y hx]
    split
    · rename_i e; rw [e.1, e.2] at hf; exact .inl hf
    · exact hf
  refine ⟨fun x y hx hf => ?_, fun x y hx hy hp => hup x y hx (h.have_ x y hx hy hp), fun x y hx hy hc hp => ?_⟩
  · rw [hs x y hx] at hf
    split at hf
    · rename_i e
      rw [e.1, e.2]
      rcases hf with hf | ⟨h1, h2⟩
      · exact h.sound a b ha hf
      · obtain ⟨u, hu⟩ := h.sound a m ha h1
        obtain ⟨v, hv⟩ := h.sound m b hm h2
        exact steps_append u v a m b hu hv
    · exact h.sound x y hx hf
  · by_cases e : x = a ∧ y = b
    · rw [hs x y hx, if_pos e]
      rw [e.1, e.2] at hp
      rcases hp with hp | ⟨h1, h2⟩
      · exact .inl (h.have_ a b ha hb hp)
      · exact .inr ⟨h.have_ a m ha hm h1, h.have_ m b hm hb h2⟩
    · exact hup x y hx (h.done x y hx hy (by omega) hp)
theorem WaI.final {r : Nat → Nat → Prop} {N : Nat} {LL : Nat → List Bool} (h : WaI r N N 0 0 LL) (hr : ∀ a b, r a b → b < N) : ∀ n, n < N → (factB (LL n) n = true ↔ pathP r N n n) := fun n hn =>
  ⟨fun hf => by obtain ⟨k, hk⟩ := h.sound n n hn hf; exact steps_path hr k n n hk, fun hp => h.have_ n n hn hn hp⟩

end Go.Proofs.YtkdoghaoijdedaaGreatDoor
