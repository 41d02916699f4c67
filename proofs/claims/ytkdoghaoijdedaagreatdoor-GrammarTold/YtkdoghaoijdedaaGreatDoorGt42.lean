/- Texts of the proof, put together: GUsW. -/
import Derived.Test.YtkdoghaoijdedaaGreatDoorGt41
import Derived.Test.YtkdoghaoijdedaaGreatDoorGt40
import Derived.Test.YtkdoghaoijdedaaGreatDoorGt39
namespace Go.Proofs.YtkdoghaoijdedaaGreatDoor
open Go.RowKit
set_option linter.unusedVariables false
set_option maxRecDepth 100000

/-- while the names of a production are marked -/
structure UkI (N : Nat) (r : List Int) (A A' : List Bool) (k : Nat) : Prop where
  len : A'.length = N
  up : ∀ n, factB A n = true → factB A' n = true
  all : ∀ j, j < k → r.getD j 0 < 0 → factB A' (-1 - r.getD j 0).toNat = true
  new : ∀ n, factB A' n = true → factB A n = true ∨ ∃ x ∈ r, x < 0 ∧ (-1 - x).toNat = n
theorem UkI.start {N : Nat} {r : List Int} {A : List Bool} (h : A.length = N) : UkI N r A A 0 := ⟨h, fun _ h => h, fun j hj => by omega, fun _ h => .inl h⟩
theorem UkI.no {N : Nat} {r : List Int} {A A' : List Bool} {k : Nat} (h : UkI N r A A' k) (h0 : ¬ r.getD k 0 < 0) : UkI N r A A' (k + 1) :=
  ⟨h.len, h.up, fun j hj hn => by
    by_cases e : j = k
    · rw [e] at hn; exact absurd hn h0
    · exact h.all j (by omega) hn, h.new⟩
theorem UkI.yes {N : Nat} {r : List Int} {A A' : List Bool} {k q : Nat} (h : UkI N r A A' k) (hk : k < r.length) (h0 : r.getD k 0 < 0) (hq : (-1 - r.getD k 0).toNat = q) (hqN : q < N) : UkI N r A (A'.set q true) (k + 1) := by
  have hf := factB_set h.len hqN true
  have hup : ∀ n, factB A' n = true → factB (A'.set q true) n = true := fun n hn => by
    rw [hf]; split
    · rfl
    · exact hn
  refine ⟨by rw [List.length_set]; exact h.len, fun n hn => hup n (h.up n hn), fun j hj hn => ?_, fun n hn => ?_⟩
  · by_cases e : j = k
    · rw [e, hq, hf, if_pos rfl]
    · exact hup _ (h.all j (by omega) hn)
  · rw [hf] at hn
    by_cases e : n = q
    · exact .inr ⟨r.getD k 0, by simp [List.getD, hk], h0, by rw [hq, e]⟩
    · rw [if_neg e] at hn; exact h.new n hn
theorem UkI.done {N : Nat} {ps : List PdR} {s : Int} {rr i : Nat} {A U A' : List Bool} (h : UsI N ps s rr i A U) (hi : i < ps.length) (hk : keepP N ps (ps.getD i noPd) = true) (ha : factB A (ps.getD i noPd).left.toNat = true) (h' : UkI N (ps.getD i noPd).right A A' (ps.getD i noPd).right.length) : UsI N ps s rr (i + 1) A' (U.set i true) := by
  refine h.take hi hk ha h'.len h'.up (fun n hn hin => ?_) (fun n hn => ?_)
  · obtain ⟨x, hx, h1, h2⟩ := (inB_iff _ _).1 hin
    obtain ⟨j, hj, rfl⟩ := List.mem_iff_getElem.1 hx
    have e : (ps.getD i noPd).right.getD j 0 = (ps.getD i noPd).right[j] := by
      have e : ∀ (l : List Int) (j : Nat) (h : j < l.length), l.getD j 0 = l[j] := fun l j h => by simp [List.getD, h]
      exact e _ j hj
    have := h'.all j hj (by rw [e]; exact h1)
    rw [e, h2] at this
    exact this
  · rcases h'.new n hn with h1 | h1
    · exact .inl h1
    · exact .inr ((inB_iff _ _).2 h1)
theorem boolsA_set (L : List Bool) (j : Nat) (x : Bool) : (boolsA L).setIfInBounds j (.bool x) = boolsA (L.set j x) := by simp [boolsA, List.map_set]

set_option maxHeartbeats 8000000 in
theorem rused_any (t : Int) (s N : Nat) (hs : s < N) (ps : List PdR) (ls ss : List Int) (pv lv sv : Value) (w : World) (hG : GOkM N ps) (h : PdsM w pv ps) :
    Calls Tryz.prog 15 #[gv ⟨t, N, s, ps, ls, ss⟩ pv lv sv] w fun e w' => ∃ B L, e = .returned (.slice (some ⟨B, 0, none⟩) ps.length ps.length) ∧ RowB w' B L ∧ L.length = ps.length ∧ (∀ i, i < ps.length → (factB L i = true ↔ keepP N ps (ps.getD i noPd) = true ∧ ∃ h, reachH (wholeP N ps) s h (ps.getD i noPd).left.toNat = true)) ∧ Below w.heap.size w w' := by
  have hB0 := boxG_below w ⟨t, N, s, ps, ls, ss⟩ pv lv sv
  have hB1 := boxG_size w ⟨t, N, s, ps, ls, ss⟩ pv lv sv
  have hB2 := boxG_box w ⟨t, N, s, ps, ls, ss⟩ pv lv sv
  have hLv := rlives_any t s N ps ls ss pv lv sv (boxG w ⟨t, N, s, ps, ls, ss⟩ pv lv sv) hG.n hG.len (fun m hm => (hG.pd m hm).1) (h.below hB0)
  have HWh : Hid (∀ (W : World) (i B : Nat) (L : List Bool), Below w.heap.size w W → i < ps.length → L.length = N → RowB W B L → _) := fun W i B L (hb : Below w.heap.size w W) (hi : i < ps.length) (hL : L.length = N) (hv : RowB W B L) => rwhole_any t s N hG.n ps ls ss pv lv sv i hi L B W (hG.mem (p := ps.getD i noPd) (by simp [List.getD, hi])).2 hL hv (h.below hb)
  obtain ⟨pa, pc, rfl⟩ := h.slice
  have HP : Hid (PdsM w (.slice pa ps.length pc) ps) := h
  have HBX : Hid (∀ w', Below (boxG w ⟨t, N, s, ps, ls, ss⟩ (.slice pa ps.length pc) lv sv).heap.size (boxG w ⟨t, N, s, ps, ls, ss⟩ (.slice pa ps.length pc) lv sv) w' → BoxG w' w.heap.size ⟨t, N, s, ps, ls, ss⟩ (.slice pa ps.length pc) lv sv) := fun w' hb => hB2.below (by omega) hb
  clear h
  unfold gv gvs at HWh
  unfold boxG gv gvs at hLv
  unfold boxG gvs at hB0 hB1 hB2 HBX
  unfold gv gvs
  simp only at *
  obtain ⟨q0, q1, q2, q3, q4, q5, q6⟩ := hB2
  simp only at q0 q1 q2 q3 q4 q5 q6
  go_enter Tryz.func15, Tryz.ntmps15
  go_wp2_with fail
  refine hLv.mono ?_
  rintro e w2 ⟨L, rfl, hrow, hlen, hf, hb2⟩
  clear hLv q0 q1 q2 q3 q4 q5 q6
  generalize w.alloc (.cells #[.int .i64 t, .int .i64 N, .int .i64 s, .slice pa ps.length pc, lv, sv] 25) = w0 at *
  have HFE : Hid (factB L = hgtB true (prsS ps) N) := funext hf
  rw [hB1] at hrow
  have HRL : Hid (RowB w2 (w.heap.size + 1 + 1) L) := hrow
  have HLn : Hid (L.length = N) := hlen
  have hpl := hG.len
  have hN3 := hG.n
  have hmk := makeBoolsT N (by omega) w2
  have hA := alloc_below w2 (.cells (boolsA (List.replicate N false)) 4)
  have hAs := alloc_size w2 (.cells (boolsA (List.replicate N false)) 4)
  have hr3 : RowB (w2.alloc (.cells (boolsA (List.replicate N false)) 4)) w2.heap.size (List.replicate N false) := by
    show (w2.heap.push _)[w2.heap.size]? = _
    exact Array.getElem?_push_size
  have c3 := hr3.cell (j := s) (by simpa using hs)
  have z3 := hr3.fz s
  have l3 := hr3.lt
  have hr4 : RowB (w2.alloc (.cells ((boolsA (List.replicate N false)).setIfInBounds s (.bool true)) 4)) w2.heap.size ((List.replicate N false).set s true) := by
    show (w2.heap.push _)[w2.heap.size]? = _
    rw [Array.getElem?_push_size, boolsA_set]
  have hA4 : Below w2.heap.size w2 (w2.alloc (.cells ((boolsA (List.replicate N false)).setIfInBounds s (.bool true)) 4)) := alloc_below _ _
  have hmk2 := makeBoolsT ps.length (by omega) (w2.alloc (.cells ((boolsA (List.replicate N false)).setIfInBounds s (.bool true)) 4))
  have hs4 : (w2.alloc (.cells ((boolsA (List.replicate N false)).setIfInBounds s (.bool true)) 4)).heap.size = w2.heap.size + 1 := by simp
  rw [hs4] at hmk2
  have hA5 := alloc_below (w2.alloc (.cells ((boolsA (List.replicate N false)).setIfInBounds s (.bool true)) 4)) (.cells (boolsA (List.replicate ps.length false)) 4)
  have hb5 : Below w2.heap.size w2 ((w2.alloc (.cells ((boolsA (List.replicate N false)).setIfInBounds s (.bool true)) 4)).alloc (.cells (boolsA (List.replicate ps.length false)) 4)) := hA4.trans (hA5.mono hA4.size)
  have HA0 : Hid (RowB ((w2.alloc (.cells ((boolsA (List.replicate N false)).setIfInBounds s (.bool true)) 4)).alloc (.cells (boolsA (List.replicate ps.length false)) 4)) w2.heap.size ((List.replicate N false).set s true)) := (hA5.block _ hr4.lt).trans hr4
  have HU0 : Hid (RowB ((w2.alloc (.cells ((boolsA (List.replicate N false)).setIfInBounds s (.bool true)) 4)).alloc (.cells (boolsA (List.replicate ps.length false)) 4)) (w2.heap.size + 1) (List.replicate ps.length false)) := by
    show _ = _
    rw [← hs4]
    show (Array.push _ _)[_]? = _
    exact Array.getElem?_push_size
  have HX : Hid (∀ W, Below w2.heap.size w2 W → BoxG W w.heap.size ⟨t, N, s, ps, ls, ss⟩ (.slice pa ps.length pc) lv sv ∧ Below w.heap.size w W) := fun W hb => by
    have k := hb2.trans (hb.mono hb2.size)
    exact ⟨HBX.out W k, hB0.trans (k.mono (by omega))⟩
  obtain ⟨⟨q0, q1, q2, q3, q4, q5, q6⟩, _⟩ := HX.out w2 (Below.refl _ _)
  obtain ⟨⟨a0, a1, a2, a3, a4, a5, a6⟩, _⟩ := HX.out _ hA
  obtain ⟨⟨b0, b1, b2, b3, b4, b5, b6⟩, _⟩ := HX.out _ hA4
  simp only at q0 q1 q2 q3 q4 q5 q6 a0 a1 a2 a3 a4 a5 a6 b0 b1 b2 b3 b4 b5 b6
  clear hrow hf hlen HBX hA hA4 hA5 hr3 hr4
  have HUS : Hid (UsI N ps s 0 0 ((List.replicate N false).set s true) (List.replicate ps.length false)) := UsI.start hs
  go_wp2
  clear hmk hmk2 q0 q1 q2 q3 q4 q5 q6 a0 a1 a2 a3 a4 a5 a6 b0 b1 b2 b3 b4 b5 b6 c3 z3 l3 hs4 hAs
  generalize (w2.alloc (.cells ((boolsA (List.replicate N false)).setIfInBounds s (.bool true)) 4)).alloc (.cells (boolsA (List.replicate ps.length false)) 4) = w5 at *
  go_loopw [6] (fun rv wr => ∃ (r : Nat) (A U : List Bool), r ≤ N + 1 ∧ rv = .int .i64 r ∧ Hid (RowB wr w2.heap.size A) ∧ Hid (RowB wr (w2.heap.size + 1) U) ∧ Hid (UsI N ps s r 0 A U) ∧ Below w2.heap.size w2 wr) (fun rv _ => N + 1 - (intOf rv).toNat)
  case atStart => exact ⟨0, _, _, Nat.zero_le _, rfl, HA0, HU0, HUS, hb5⟩
  case round =>
    clear HA0 HU0 HUS hb5
    obtain ⟨r, A, U, hr, rfl, HA, HU, HI, hbw⟩ := hrel
    obtain ⟨⟨q0, q1, q2, q3, q4, q5, q6⟩, hbx⟩ := HX.out wr hbw
    simp only at q0 q1 q2 q3 q4 q5 q6
    by_cases hrN : r ≤ N
    · go_wp2
      clear q0 q1 q2 q3 q4 q5 q6 hbx
      go_loopw [7] (fun iv wr => ∃ (i : Nat) (A U : List Bool), i ≤ ps.length ∧ iv = .int .i64 i ∧ Hid (RowB wr w2.heap.size A) ∧ Hid (RowB wr (w2.heap.size + 1) U) ∧ Hid (UsI N ps s r i A U) ∧ Below w2.heap.size w2 wr) (fun iv _ => ps.length - (intOf iv).toNat)
      case atStart => exact ⟨0, A, U, Nat.zero_le _, rfl, HA, HU, HI, hbw⟩
      case round =>
        clear HA HU HI hbw A U
        obtain ⟨i, A, U, hi, rfl, HA, HU, HI, hbw⟩ := hrel
        obtain ⟨⟨q0, q1, q2, q3, q4, q5, q6⟩, hbx⟩ := HX.out wr hbw
        simp only at q0 q1 q2 q3 q4 q5 q6
        by_cases hlt : i < ps.length
        · have hCa := HWh.out wr i (w.heap.size + 1 + 1) L hbx hlt HLn.out (HRL.out.below hbw)
          rw [HFE.out] at hCa
          have HKp : Hid (hasB true (hgtB true (prsS ps) N) (ps.getD i noPd).right = keepP N ps (ps.getD i noPd)) := rfl
          rw [HKp.out] at hCa
          go_wp2_with fail
          refine hCa.mono ?_
          rintro e w6 ⟨rfl, hb6⟩
          have hbw6 := hbw.trans (hb6.mono hbw.size)
          have HA6 : Hid (RowB w6 w2.heap.size A) := HA.out.below hb6
          have HU6 : Hid (RowB w6 (w2.heap.size + 1) U) := HU.out.below hb6
          clear hCa HKp HA HU q0 q1 q2 q3 q4 q5 q6 hbx hb6 hbw
          obtain ⟨⟨q0, q1, q2, q3, q4, q5, q6⟩, hbx⟩ := HX.out w6 hbw6
          simp only at q0 q1 q2 q3 q4 q5 q6
          obtain ⟨b, off, rv, rfl, hb, hpd⟩ := (HP.out.below hbx).at hlt
          obtain ⟨hPk, hSy⟩ := hG.mem (p := ps.getD i noPd) (by simp [List.getD, hlt])
          cases hkp : keepP N ps (ps.getD i noPd) with
          | false =>
            have HN : Hid (UsI N ps s r (i + 1) A U) := HI.out.skip hG hlt (.inl hkp)
            obtain ⟨c0, c1, c2, hrr⟩ := hpd
            clear HI
            go_wp2
            go_roundw
            case rel => exact ⟨i + 1, A, U, by omega, by go_num, HA6, HU6, HN, hbw6⟩
            case measure => simp [intOf]; omega
          | true =>
            obtain ⟨lf, hlf⟩ : ∃ lf : Nat, (ps.getD i noPd).left = (lf : Int) := ⟨(ps.getD i noPd).left.toNat, by have := hPk.1; omega⟩
            have hlN : lf < N := by have := hPk.2.1; omega
            have hlt2 : (ps.getD i noPd).left.toNat = lf := by omega
            have cA := HA6.out.cell (j := lf) (by rw [HI.out.lenA]; exact hlN)
            have hAl := HA6.out.lt
            have cU := HU6.out.cell (j := i) (by rw [HI.out.lenU]; exact hlt)
            have zU := HU6.out.fz i
            have hUl := HU6.out.lt
            obtain ⟨c0, c1, c2, hrr⟩ := hpd
            rw [hlf] at c0
            have HKE : Hid (keepP N ps (ps.getD i noPd) = true) := hkp
            clear hkp
            cases hy : factB A lf with
            | false =>
              have HN : Hid (UsI N ps s r (i + 1) A U) := HI.out.skip hG hlt (.inr (by rw [hlt2]; exact hy))
              rw [hy] at cA
              clear HI hrr
              go_wp2
              go_roundw
              case rel => exact ⟨i + 1, A, U, by omega, by go_num, HA6, HU6, HN, hbw6⟩
              case measure => simp [intOf]; omega
            | true =>
              rw [hy] at cA
              have HY : Hid (factB A (ps.getD i noPd).left.toNat = true) := by show _ = _; rw [hlt2]; exact hy
              have HU7 : Hid (RowB (w6.setCell ⟨w2.heap.size + 1, i, none⟩ (.bool true)) (w2.heap.size + 1) (U.set i true)) := HU6.out.set i true
              have HA7 : Hid (RowB (w6.setCell ⟨w2.heap.size + 1, i, none⟩ (.bool true)) w2.heap.size A) := (Below.heap_setCell _ _ _ _ (by simp)).trans HA6.out
              have hbw7 : Below w2.heap.size w2 (w6.setCell ⟨w2.heap.size + 1, i, none⟩ (.bool true)) := below_set hbw6 (by omega) _ _
              obtain ⟨R, hR⟩ : ∃ R, (ps.getD i noPd).right = R := ⟨_, rfl⟩
              have HR : Hid ((ps.getD i noPd).right = R) := hR
              have HDN : Hid (∀ A', UkI N R A A' R.length → UsI N ps s r (i + 1) A' (U.set i true)) := fun A' hA' => UkI.done HI.out hlt HKE.out HY.out (by rw [hR]; exact hA')
              rw [hR] at hrr hSy
              clear hR
              have HK0 : Hid (UkI N R A A 0) := UkI.start HI.out.lenA
              have HSY : Hid (SymsL N R) := hSy
              have hrl := hSy.1
              clear hSy hPk hy HI HKE HY
              obtain ⟨ra0, rc0, rfl⟩ := hrr.slice
              clear hrr
              go_wp2
              clear q0 q1 q2 q3 q4 q5 q6 hbx c0 c1 c2 cA cU zU hAl hUl HA6 HU6 hbw6 hb
              generalize w6.setCell ⟨w2.heap.size + 1, i, none⟩ (.bool true) = w7 at *
              go_loopw [9] (fun kv wr => ∃ (k : Nat) (A' : List Bool), k ≤ R.length ∧ kv = .int .i64 k ∧ Hid (RowB wr w2.heap.size A') ∧ Hid (RowB wr (w2.heap.size + 1) (U.set i true)) ∧ Hid (UkI N R A A' k) ∧ Below w2.heap.size w2 wr) (fun kv _ => R.length - (intOf kv).toNat)
              case atStart => exact ⟨0, A, Nat.zero_le _, rfl, HA7, HU7, HK0, hbw7⟩
              case round =>
                clear HA7 HU7 HK0 hbw7
                obtain ⟨k, A', hk, rfl, HA', HU', HK, hbw⟩ := hrel
                obtain ⟨⟨q0, q1, q2, q3, q4, q5, q6⟩, hbx⟩ := HX.out wr hbw
                simp only at q0 q1 q2 q3 q4 q5 q6
                obtain ⟨b', off', rv', e', hb', hpd'⟩ := (HP.out.below hbx).at hlt
                obtain ⟨rfl, rfl⟩ : b = b' ∧ off = off' := by simpa using e'
                obtain ⟨_, c1, _, hrr⟩ := hpd'
                rw [HR.out] at hrr
                obtain ⟨ra, rc, rfl⟩ := hrr.slice
                by_cases hkl : k < R.length
                · obtain ⟨b3, off3, rfl, hb3, hc3⟩ := hrr.at hkl
                  obtain ⟨hs1, hs2⟩ := HSY.out.2 k hkl
                  by_cases hsn : R.getD k 0 < 0
                  · obtain ⟨q, hq⟩ : ∃ q : Nat, -1 - R.getD k 0 = (q : Int) := ⟨(-1 - R.getD k 0).toNat, by omega⟩
                    have hqN : q < N := by omega
                    have hwq : IntKind.i64.wrap (-1 - R.getD k 0) = (q : Int) := by rw [wrap_g64 _ (by unfold I64 at hs2; omega) (by unfold I64 at hs2; omega), hq]
                    have HK2 : Hid (UkI N R A (A'.set q true) (k + 1)) := HK.out.yes hkl hsn (by omega) hqN
                    have cA := HA'.out.cell (j := q) (by rw [HK.out.len]; exact hqN)
                    have zA := HA'.out.fz q
                    have hAl := HA'.out.lt
                    have HA2 : Hid (RowB (wr.setCell ⟨w2.heap.size, q, none⟩ (.bool true)) w2.heap.size (A'.set q true)) := HA'.out.set q true
                    have HU2 : Hid (RowB (wr.setCell ⟨w2.heap.size, q, none⟩ (.bool true)) (w2.heap.size + 1) (U.set i true)) := (Below.heap_setCell _ _ _ _ (by simp)).trans HU'.out
                    have hbw2 : Below w2.heap.size w2 (wr.setCell ⟨w2.heap.size, q, none⟩ (.bool true)) := below_set hbw (Nat.le_refl _) _ _
                    clear HK hrr hs1 hs2 hq
                    generalize R.getD k 0 = sy at *
                    go_wp2
                    go_roundw
                    case rel => exact ⟨k + 1, _, by omega, by go_num, HA2, HU2, HK2, hbw2⟩
                    case measure => simp [intOf]; omega
                  · have HK2 : Hid (UkI N R A A' (k + 1)) := HK.out.no hsn
                    clear HK hrr hs1 hs2
                    generalize R.getD k 0 = sy at *
                    go_wp2
                    go_roundw
                    case rel => exact ⟨k + 1, A', by omega, by go_num, HA', HU', HK2, hbw⟩
                    case measure => simp [intOf]; omega
                · have hke : k = R.length := by omega
                  have HN : Hid (UsI N ps s r (i + 1) A' (U.set i true)) := HDN.out A' (hke ▸ HK.out)
                  subst hke
                  clear HK hrr
                  go_wp2
                  go_roundw
                  case rel => exact ⟨i + 1, A', _, by omega, by go_num, HA', HU', HN, hbw⟩
                  case measure => simp [intOf]; omega
        · obtain rfl : i = ps.length := by omega
          have HN : Hid (UsI N ps s (r + 1) 0 A U) := HI.out.next
          clear HI
          go_wp2
          go_roundw
          case rel => exact ⟨r + 1, A, U, by omega, by go_num, HA, HU, HN, hbw⟩
          case measure => simp [intOf]; omega
    · obtain rfl : r = N + 1 := by omega
      have HE : Hid (∀ i, i < ps.length → (factB U i = true ↔ keepP N ps (ps.getD i noPd) = true ∧ ∃ h, reachH (wholeP N ps) s h (ps.getD i noPd).left.toNat = true)) := HI.out.final hG
      have HLu : Hid (U.length = ps.length) := HI.out.lenU
      clear HI
      go_wp2
      go_ret
      exact ⟨_, U, rfl, HU.out, HLu.out, HE.out, hbx⟩

end Go.Proofs.YtkdoghaoijdedaaGreatDoor
