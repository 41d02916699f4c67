/- Texts of the proof, put together: RTD, MOth, PHas. -/
import Derived.Test.YtbjohedenfindaaGreatDoorPb28
import Derived.Laws.CopyOwn
import Derived.Laws.MakeOwn
import Derived.Test.YtbjohedenfindaaGreatDoorPb03
import Derived.Test.YtbjohedenfindaaGreatDoorPb05
import Derived.Lib.OthersKept
namespace Go.Proofs.YtbjohedenfindaaGreatDoor
open Go.RowKit
set_option linter.unusedVariables false
set_option maxRecDepth 100000

def OrdC (t : Tm) : Prop := ∀ (ok ok' : Nat → Prop) (u : Tm) (w : World) (v vu : Value), TT ok w v t → TT ok' w vu u → Sml t → Sml u → Calls Tryz.prog 123 #[v, vu] w fun e w' => e = .returned (.int .i64 (ord t u)) ∧ Below w.heap.size w w'

theorem below_drew1 {B : Nat} {a w : World} (h : Below B a w) : Below B a w.drew := ⟨h.os, h.tape, h.output, h.size, h.block⟩
theorem below_drewN (w : World) (n : Nat) : Below w.heap.size w (w.drewN n) := below_drew' (Below.refl _ _) n

set_option maxHeartbeats 8000000 in
theorem order_raw {w : World} {b b' : Nat} {k k' mn mn' mx mx' res : Int} {s s' : List Rg} {sa sa' ka ka' : Option Addr} {sc sc' kc kc' n n' : Nat} {z : Nat → Int} {P : Nat → Prop}
    (hb : b < w.heap.size) (hb' : b' < w.heap.size)
    (c0 : w.cell? ⟨b, 0, none⟩ = some (.int .i64 k)) (c1 : w.cell? ⟨b, 1, none⟩ = some (.slice sa s.length sc)) (c2 : w.cell? ⟨b, 2, none⟩ = some (.int .i64 mn)) (c3 : w.cell? ⟨b, 3, none⟩ = some (.int .i64 mx)) (c4 : w.cell? ⟨b, 4, none⟩ = some (.slice ka n kc))
    (e0 : w.cell? ⟨b', 0, none⟩ = some (.int .i64 k')) (e1 : w.cell? ⟨b', 1, none⟩ = some (.slice sa' s'.length sc')) (e2 : w.cell? ⟨b', 2, none⟩ = some (.int .i64 mn')) (e3 : w.cell? ⟨b', 3, none⟩ = some (.int .i64 mx')) (e4 : w.cell? ⟨b', 4, none⟩ = some (.slice ka' n' kc'))
    (hk : 1 ≤ k ∧ k ≤ 6) (hk' : 1 ≤ k' ∧ k' ≤ 6) (hm : -1 ≤ mn ∧ mn ≤ 50) (hm' : -1 ≤ mn' ∧ mn' ≤ 50) (hx : -1 ≤ mx ∧ mx ≤ 50) (hx' : -1 ≤ mx' ∧ mx' ≤ 50) (hs : s.length ≤ 1000000) (hs' : s'.length ≤ 1000000) (hn : n ≤ 17592186000000) (hn' : n' ≤ 17592186000000)
    (HS : Hid (∀ j, j < s.length → ∃ g off, sa = some ⟨g, off, none⟩ ∧ g < w.heap.size ∧ w.cell? ⟨g, off + j * 2, none⟩ = some (.int .i64 (s.getD j (0, 0)).1) ∧ w.cell? ⟨g, off + j * 2 + 1, none⟩ = some (.int .i64 (s.getD j (0, 0)).2) ∧ (0 ≤ (s.getD j (0, 0)).1 ∧ (s.getD j (0, 0)).1 ≤ 1114111) ∧ 0 ≤ (s.getD j (0, 0)).2 ∧ (s.getD j (0, 0)).2 ≤ 1114111))
    (HS' : Hid (∀ j, j < s'.length → ∃ g off, sa' = some ⟨g, off, none⟩ ∧ g < w.heap.size ∧ w.cell? ⟨g, off + j * 2, none⟩ = some (.int .i64 (s'.getD j (0, 0)).1) ∧ w.cell? ⟨g, off + j * 2 + 1, none⟩ = some (.int .i64 (s'.getD j (0, 0)).2) ∧ (0 ≤ (s'.getD j (0, 0)).1 ∧ (s'.getD j (0, 0)).1 ≤ 1114111) ∧ 0 ≤ (s'.getD j (0, 0)).2 ∧ (s'.getD j (0, 0)).2 ≤ 1114111))
    (HK : Hid (∀ j, j < n → j < n' → ∃ g off b1 g' off' b2, ka = some ⟨g, off, none⟩ ∧ g < w.heap.size ∧ w.cell? ⟨g, off + j, none⟩ = some (.pointer (some ⟨b1, 0, none⟩)) ∧ ka' = some ⟨g', off', none⟩ ∧ g' < w.heap.size ∧ w.cell? ⟨g', off' + j, none⟩ = some (.pointer (some ⟨b2, 0, none⟩)) ∧
      ∀ w', Below w.heap.size w w' → Calls Tryz.prog 123 #[.pointer (some ⟨b1, 0, none⟩), .pointer (some ⟨b2, 0, none⟩)] w' fun e w'' => e = .returned (.int .i64 (z j)) ∧ Below w'.heap.size w' w''))
    (R0 : Hid (k ≠ k' → res = k - k')) (R1 : Hid (k = k' → mn ≠ mn' → res = mn - mn')) (R2 : Hid (k = k' → mn = mn' → mx ≠ mx' → res = mx - mx'))
    (R3 : Hid (k = k' → mn = mn' → mx = mx' → s.length ≠ s'.length → res = (s.length : Int) - s'.length))
    (R4 : Hid (k = k' → mn = mn' → mx = mx' → s.length = s'.length → ∀ i, i < s.length → s.take i = s'.take i → ((s.getD i (0, 0)).1 ≠ (s'.getD i (0, 0)).1 → res = (s.getD i (0, 0)).1 - (s'.getD i (0, 0)).1) ∧
      ((s.getD i (0, 0)).1 = (s'.getD i (0, 0)).1 → (s.getD i (0, 0)).2 ≠ (s'.getD i (0, 0)).2 → res = (s.getD i (0, 0)).2 - (s'.getD i (0, 0)).2) ∧
      ((s.getD i (0, 0)).1 = (s'.getD i (0, 0)).1 → (s.getD i (0, 0)).2 = (s'.getD i (0, 0)).2 → s.take (i + 1) = s'.take (i + 1))))
    (R5 : Hid (k = k' → mn = mn' → mx = mx' → s = s' → n ≠ n' → res = (n : Int) - n'))
    (R6 : Hid (k = k' → mn = mn' → mx = mx' → s = s' → n = n' → P 0 ∧ ∀ i, i < n → P i → (z i ≠ 0 → res = z i) ∧ (z i = 0 → P (i + 1))))
    (R7 : Hid (k = k' → mn = mn' → mx = mx' → s = s' → n = n' → P n → res = 0)) :
    Calls Tryz.prog 123 #[.pointer (some ⟨b, 0, none⟩), .pointer (some ⟨b', 0, none⟩)] w fun e w' => e = .returned (.int .i64 res) ∧ Below w.heap.size w w' := by
  have w0 : IntKind.i64.wrap (k - k') = k - k' := wrap_id _ (by omega) (by omega)
  have w1 : IntKind.i64.wrap (mn - mn') = mn - mn' := wrap_id _ (by omega) (by omega)
  have w2 : IntKind.i64.wrap (mx - mx') = mx - mx' := wrap_id _ (by omega) (by omega)
  have w3 : IntKind.i64.wrap ((s.length : Int) - s'.length) = (s.length : Int) - s'.length := wrap_id _ (by omega) (by omega)
  have w5 : IntKind.i64.wrap ((n : Int) - n') = (n : Int) - n' := wrap_id _ (by omega) (by omega)
  clear hk hk' hm hm' hx hx'
  by_cases q0 : k = k'
  · have Q0 : Hid (k = k') := q0
    have q0' : (k != k') = false := by rw [q0]; simp
    clear q0 w0 R0
    by_cases q1 : mn = mn'
    · have Q1 : Hid (mn = mn') := q1
      have q1' : (mn != mn') = false := by rw [q1]; simp
      clear q1 w1 R1
      by_cases q2 : mx = mx'
      · have Q2 : Hid (mx = mx') := q2
        have q2' : (mx != mx') = false := by rw [q2]; simp
        clear q2 w2 R2
        by_cases q3 : s.length = s'.length
        · have Q3 : Hid (s.length = s'.length) := q3
          have q3' : ((s.length : Int) != (s'.length : Int)) = false := by rw [q3]; simp
          have R4' := R4.out Q0.out Q1.out Q2.out Q3.out
          have RR4 : Hid (∀ i, i < s.length → s.take i = s'.take i → ((s.getD i (0, 0)).1 ≠ (s'.getD i (0, 0)).1 → res = (s.getD i (0, 0)).1 - (s'.getD i (0, 0)).1) ∧
            ((s.getD i (0, 0)).1 = (s'.getD i (0, 0)).1 → (s.getD i (0, 0)).2 ≠ (s'.getD i (0, 0)).2 → res = (s.getD i (0, 0)).2 - (s'.getD i (0, 0)).2) ∧
            ((s.getD i (0, 0)).1 = (s'.getD i (0, 0)).1 → (s.getD i (0, 0)).2 = (s'.getD i (0, 0)).2 → s.take (i + 1) = s'.take (i + 1))) := R4'
          clear q3 w3 R3 R4 R4'
          go_enter Tryz.func123, Tryz.ntmps123
          go_wp2
          go_quiet (fail)
          go_wp2
          go_quiet (fail)
          go_wp2
          go_quiet (fail)
          go_wp2
          go_quiet (fail)
          go_wp2
          go_loopw [5] (fun iv wr => ∃ i : Nat, i ≤ s.length ∧ iv = .int .i64 i ∧ s.take i = s'.take i ∧ Below w.heap.size w wr) (fun iv _ => s.length - (intOf iv).toNat)
          case atStart => exact ⟨0, Nat.zero_le _, rfl, by simp, below_drew' (below_drew' (below_drew' (below_drewN _ _) _) _) _⟩
          case round =>
            obtain ⟨i, hi, rfl, hp, hbw⟩ := hrel
            have d1 := (hbw.cell (p := ⟨b, 1, none⟩) hb).trans c1
            have d1' := (hbw.cell (p := ⟨b', 1, none⟩) hb').trans e1
            have d4 := (hbw.cell (p := ⟨b, 4, none⟩) hb).trans c4
            have d4' := (hbw.cell (p := ⟨b', 4, none⟩) hb').trans e4
            clear c0 c1 c2 c3 c4 e0 e1 e2 e3 e4
            by_cases hlt : i < s.length
            · have HP : Hid (s.take i = s'.take i) := hp
              clear hp d4 d4' R5 R6 R7 HK
              have hlt' : i < s'.length := by have := Q3.out; omega
              obtain ⟨g, off, rfl, hg, hl, hh, hr1, hr2⟩ := HS.out i hlt
              obtain ⟨g', off', rfl, hg', hl', hh', hr1', hr2'⟩ := HS'.out i hlt'
              have f1 := (hbw.cell (p := ⟨g, off + i * 2, none⟩) hg).trans hl
              have f2 := (hbw.cell (p := ⟨g, off + i * 2 + 1, none⟩) hg).trans hh
              have f1' := (hbw.cell (p := ⟨g', off' + i * 2, none⟩) hg').trans hl'
              have f2' := (hbw.cell (p := ⟨g', off' + i * 2 + 1, none⟩) hg').trans hh'
              obtain ⟨r1, r2, r3⟩ := RR4.out i hlt HP.out
              have G1 : Hid ((s.getD i (0, 0)).1 ≠ (s'.getD i (0, 0)).1 → res = (s.getD i (0, 0)).1 - (s'.getD i (0, 0)).1) := r1
              have G2 : Hid ((s.getD i (0, 0)).1 = (s'.getD i (0, 0)).1 → (s.getD i (0, 0)).2 ≠ (s'.getD i (0, 0)).2 → res = (s.getD i (0, 0)).2 - (s'.getD i (0, 0)).2) := r2
              have G3 : Hid ((s.getD i (0, 0)).1 = (s'.getD i (0, 0)).1 → (s.getD i (0, 0)).2 = (s'.getD i (0, 0)).2 → s.take (i + 1) = s'.take (i + 1)) := r3
              generalize (s.getD i (0, 0)).1 = lo at *
              generalize (s.getD i (0, 0)).2 = hi' at *
              generalize (s'.getD i (0, 0)).1 = lo' at *
              generalize (s'.getD i (0, 0)).2 = hi'' at *
              have v1 : IntKind.i64.wrap (lo - lo') = lo - lo' := wrap_id _ (by omega) (by omega)
              have v2 : IntKind.i64.wrap (hi' - hi'') = hi' - hi'' := wrap_id _ (by omega) (by omega)
              clear r1 r2 r3 hl hh hl' hh' HS HS' RR4 hr1 hr2 hr1' hr2'
              by_cases p1 : lo = lo'
              · have P1 : Hid (lo = lo') := p1
                have p1' : (lo != lo') = false := by rw [p1]; simp
                clear p1 v1
                by_cases p2 : hi' = hi''
                · have P2 : Hid (hi' = hi'') := p2
                  have p2' : (hi' != hi'') = false := by rw [p2]; simp
                  clear p2 v2
                  go_wp2
                  go_quiet (fail)
                  go_wp2
                  go_quiet (fail)
                  go_wp2
                  go_roundw
                  case rel => exact ⟨i + 1, by omega, by go_num, G3.out P1.out P2.out, below_drew' hbw _⟩
                  case measure => simp [intOf]; omega
                · have hres := G2.out P1.out p2
                  have p2' : (hi' != hi'') = true := by simpa using p2
                  subst hres
                  clear p2
                  go_wp2
                  go_quiet (fail)
                  go_wp2
                  go_quiet (fail)
                  go_wp2
                  go_quiet (fail)
                  go_wp2
                  go_ret
                  exact ⟨rfl, below_drew' (below_drew' (below_drew' hbw _) _) _⟩
              · have hres := G1.out p1
                have p1' : (lo != lo') = true := by simpa using p1
                subst hres
                clear p1
                go_wp2
                go_quiet (fail)
                go_wp2
                go_quiet (fail)
                go_wp2
                go_ret
                exact ⟨rfl, below_drew' (below_drew' hbw _) _⟩
            · have hss : s = s' := by
                have : i = s.length := by omega
                subst this
                rw [List.take_length] at hp
                have := Q3.out
                rw [this, List.take_length] at hp
                exact hp
              have HSS : Hid (s = s') := hss
              clear hss hp HS HS' RR4 d1'
              by_cases q5 : n = n'
              · have q5' : ((n : Int) != (n' : Int)) = false := by rw [q5]; simp
                have R6' := R6.out Q0.out Q1.out Q2.out HSS.out q5
                have R7' := R7.out Q0.out Q1.out Q2.out HSS.out q5
                have RR6 : Hid (P 0 ∧ ∀ i, i < n → P i → (z i ≠ 0 → res = z i) ∧ (z i = 0 → P (i + 1))) := R6'
                have RR7 : Hid (P n → res = 0) := R7'
                have Q5 : Hid (n = n') := q5
                clear R5 R6 R7 R6' R7' w5 q5
                go_wp2
                go_quiet (fail)
                go_wp2
                go_loopw [6] (fun iv wr => ∃ i : Nat, i ≤ n ∧ iv = .int .i64 i ∧ P i ∧ Below w.heap.size w wr) (fun iv _ => n - (intOf iv).toNat)
                case atStart => exact ⟨0, Nat.zero_le _, rfl, RR6.out.1, below_drew' hbw _⟩
                case round =>
                  obtain ⟨i, hi, rfl, hp, hbw'⟩ := hrel
                  have x4 := (hbw'.cell (p := ⟨b, 4, none⟩) hb).trans ((hbw.cell (p := ⟨b, 4, none⟩) hb).symm.trans d4)
                  have x4' := (hbw'.cell (p := ⟨b', 4, none⟩) hb').trans ((hbw.cell (p := ⟨b', 4, none⟩) hb').symm.trans d4')
                  clear d1 d4 d4'
                  by_cases hlt2 : i < n
                  · have hlt3 : i < n' := by have := Q5.out; omega
                    obtain ⟨g, off, b1, g', off', b2, rfl, hg, hu, rfl, hg', hu', hc⟩ := HK.out i hlt2 hlt3
                    have y1 := (hbw'.cell (p := ⟨g, off + i, none⟩) hg).trans hu
                    have y2 := (hbw'.cell (p := ⟨g', off' + i, none⟩) hg').trans hu'
                    have HC : Hid (∀ w1, Below w.heap.size w w1 → Calls Tryz.prog 123 #[.pointer (some ⟨b1, 0, none⟩), .pointer (some ⟨b2, 0, none⟩)] w1 fun e w'' => e = .returned (.int .i64 (z i)) ∧ Below w1.heap.size w1 w'') := hc
                    obtain ⟨z1, z2⟩ := RR6.out.2 i hlt2 hp
                    have Z1 : Hid (z i ≠ 0 → res = z i) := z1
                    have Z2 : Hid (z i = 0 → P (i + 1)) := z2
                    generalize z i = zi at *
                    clear z1 z2 RR6 RR7 HK hc hu hu' hp
                    go_wp2
                    go_region_with (go_at_call 123; refine (HC.out _ ?_).mono ?_; exact below_drew1 hbw'; rintro e w4 ⟨rfl, hb4⟩)
                    all_goals
                      have hbw2 := hbw'.trans ((below_drew1 (Below.refl wr.heap.size wr)).trans hb4 |>.mono hbw'.size)
                      by_cases hz : zi = 0
                      · have hz' : (zi != 0) = false := by rw [hz]; rfl
                        have HP := Z2.out hz
                        clear hz
                        go_wp2
                        go_roundw
                        case rel => exact ⟨i + 1, by omega, by go_num, HP, hbw2⟩
                        case measure => simp [intOf]; omega
                      · have hz' : (zi != 0) = true := by simpa using hz
                        have hr := Z1.out hz
                        subst hr
                        clear hz
                        go_wp2
                        go_ret
                        exact ⟨rfl, hbw2⟩
                  · have hi2 : i = n := by omega
                    subst hi2
                    have hr := RR7.out hp
                    subst hr
                    clear RR6 RR7 hp
                    go_wp2
                    go_ret
                    exact ⟨rfl, hbw'⟩
              · have q5' : ((n : Int) != (n' : Int)) = true := by rw [bne_iff_ne]; omega
                have hres := R5.out Q0.out Q1.out Q2.out HSS.out q5
                subst hres
                clear q5 R5 R6 R7
                go_wp2
                go_quiet (fail)
                go_wp2
                go_quiet (fail)
                go_wp2
                go_ret
                exact ⟨rfl, below_drew' (below_drew' hbw _) _⟩
        · have q3' : ((s.length : Int) != (s'.length : Int)) = true := by rw [bne_iff_ne]; omega
          have hres := R3.out Q0.out Q1.out Q2.out q3
          subst hres
          clear q3 R3 R4 R5 R6 R7
          go_enter Tryz.func123, Tryz.ntmps123
          go_wp2
          go_quiet (fail)
          go_wp2
          go_quiet (fail)
          go_wp2
          go_quiet (fail)
          go_wp2
          go_quiet (fail)
          go_wp2
          go_quiet (fail)
          go_wp2
          go_ret
          exact ⟨rfl, below_drew' (below_drew' (below_drew' (below_drew' (below_drewN _ _) _) _) _) _⟩
      · have q2' : (mx != mx') = true := by simpa using q2
        have hres := R2.out Q0.out Q1.out q2
        subst hres
        clear q2 R2 R3 R4 R5 R6 R7
        go_enter Tryz.func123, Tryz.ntmps123
        go_wp2
        go_quiet (fail)
        go_wp2
        go_quiet (fail)
        go_wp2
        go_quiet (fail)
        go_wp2
        go_quiet (fail)
        go_wp2
        go_ret
        exact ⟨rfl, below_drew' (below_drew' (below_drew' (below_drewN _ _) _) _) _⟩
    · have q1' : (mn != mn') = true := by simpa using q1
      have hres := R1.out Q0.out q1
      subst hres
      clear q1 R1 R2 R3 R4 R5 R6 R7
      go_enter Tryz.func123, Tryz.ntmps123
      go_wp2
      go_quiet (fail)
      go_wp2
      go_quiet (fail)
      go_wp2
      go_quiet (fail)
      go_wp2
      go_ret
      exact ⟨rfl, below_drew' (below_drew' (below_drewN _ _) _) _⟩
  · have q0' : (k != k') = true := by simpa using q0
    have hres := R0.out q0
    subst hres
    clear q0 R0 R1 R2 R3 R4 R5 R6 R7
    go_enter Tryz.func123, Tryz.ntmps123
    go_wp2
    go_quiet (fail)
    go_wp2
    go_quiet (fail)
    go_wp2
    go_ret
    exact ⟨rfl, below_drew' (below_drewN _ _) _⟩

theorem set_cells {ok : Nat → Prop} {w : World} {sa : Option Addr} {sc : Nat} {s : List Rg} (h : RowR ok w (.slice sa s.length sc) s) : ∀ j, j < s.length → ∃ g off, sa = some ⟨g, off, none⟩ ∧ g < w.heap.size ∧ w.cell? ⟨g, off + j * 2, none⟩ = some (.int .i64 (s.getD j (0, 0)).1) ∧ w.cell? ⟨g, off + j * 2 + 1, none⟩ = some (.int .i64 (s.getD j (0, 0)).2) := by
  intro j hj
  rcases h with ⟨rfl, _⟩ | ⟨b, off, c, e, hb, _, hc⟩
  · simp at hj
  · cases e; exact ⟨b, off, rfl, hb, (hc j hj).1, (hc j hj).2⟩
theorem getD_memR (l : List Rg) (k : Nat) (h : k < l.length) : l.getD k (0, 0) ∈ l := by
  rw [List.getD_eq_getElem?_getD, List.getElem?_eq_getElem h]; exact List.getElem_mem h
theorem order_any : ∀ (t : Tm), OrdC t := by
  refine Tm.ind ?_
  intro t ih ok ok' u w v vu ht hu st su
  obtain ⟨b, sv, ka, kc, hN⟩ := ht.node
  obtain ⟨b', sv', ka', kc', hN'⟩ := hu.node
  obtain ⟨sa, sc, rfl⟩ := hN.set.len
  obtain ⟨sa', sc', rfl⟩ := hN'.set.len
  have e := hN.v_eq; subst e
  have e := hN'.v_eq; subst e
  have n1 := st.num
  have n2 := su.num
  refine order_raw (z := fun j => ord (t.kids.getD j nothT) (u.kids.getD j nothT)) (P := fun j => t.kids.take j = u.kids.take j) hN.lt hN'.lt hN.c0 hN.c1 hN.c2 hN.c3 hN.c4 hN'.c0 hN'.c1 hN'.c2 hN'.c3 hN'.c4 n1.1 n2.1 n1.2.1 n2.2.1 n1.2.2.1 n2.2.2.1 n1.2.2.2.1 n2.2.2.2.1 n1.2.2.2.2.2 n2.2.2.2.2.2 ?_ ?_ ?_ ?_ ?_ ?_ ?_ ?_ ?_ ?_ ?_
  · intro j hj
    obtain ⟨g, off, h1, h2, h3, h4⟩ := set_cells hN.set j hj
    have := n1.2.2.2.2.1 _ (getD_memR t.set j hj)
    exact ⟨g, off, h1, h2, h3, h4, this.1, this.2⟩
  · intro j hj
    obtain ⟨g, off, h1, h2, h3, h4⟩ := set_cells hN'.set j hj
    have := n2.2.2.2.2.1 _ (getD_memR u.set j hj)
    exact ⟨g, off, h1, h2, h3, h4, this.1, this.2⟩
  · intro j hj hj'
    obtain ⟨g, off, u1, h1, h2, _, h3, h4⟩ := hN.kid j hj
    obtain ⟨g', off', u2, h1', h2', _, h3', h4'⟩ := hN'.kid j hj'
    obtain ⟨b1, rfl⟩ := h4.ptr
    obtain ⟨b2, rfl⟩ := h4'.ptr
    exact ⟨g, off, b1, g', off', b2, h1, h2, h3, h1', h2', h3', fun w' hb => ih _ (getD_mem _ j hj) ok ok' _ w' _ _ (h4.below hb) (h4'.below hb) (st.kid (getD_mem _ j hj)) (su.kid (getD_mem _ j hj'))⟩
  · exact fun h => ord_kind h
  · exact fun h0 h => ord_mn h0 h
  · exact fun h0 h1 h => ord_mx h0 h1 h
  · exact fun h0 h1 h2 h => ord_len ⟨h0, h1, h2⟩ h
  · exact fun h0 h1 h2 h i hi hp => ord_at ⟨h0, h1, h2⟩ h i hi hp
  · exact fun h0 h1 h2 h3 h => ord_klen ⟨h0, h1, h2⟩ h3 h
  · exact fun h0 h1 h2 h3 h => ⟨by simp, fun i hi hp => ord_kat ⟨h0, h1, h2⟩ h3 h i hi hp⟩
  · intro h0 h1 h2 h3 h hp
    refine ord_same ⟨h0, h1, h2⟩ h3 ?_
    rw [List.take_length] at hp
    rw [h, List.take_length] at hp
    exact hp

end Go.Proofs.YtbjohedenfindaaGreatDoor

namespace Go.Proofs.YtbjohedenfindaaGreatDoor
open Go.RowKit
set_option linter.unusedVariables false
set_option maxRecDepth 100000

theorem zerosU : madeCells (Value.int IntKind.u64 0).cells 1 = #[.int .u64 0] := by
  apply Array.ext
  · simp [madeCells]
  · intro i h1 h2
    simp [madeCells, Value.cells, Nat.mod_one]
theorem makeLens (W : World) : (Instr.makeSlice 80 (.int .i64 1) (.int .i64 1)).run Tryz.prog W = .ok (.slice (some ⟨W.heap.size, 0, none⟩) 1 1) (W.alloc (.cells #[.int .u64 0] 119)) := by
  obtain ⟨i0, hi, hz0, hz1, hz2⟩ := info_parts Tryz.infoU64
  have := run_make W 80 119 i0 (.int .u64 0) Tryz.underlying80 hi hz0 .i64 .i64 1 1 (by omega) (by omega) (by rw [hz2]; omega) (by omega)
  rw [this, hz1, show Int.toNat 1 * 1 = 1 from rfl, zerosU]; rfl
theorem sizeU64 : (Tryz.prog.info? 119).map (·.size) = some 1 := by kernel_rfl
set_option maxHeartbeats 4000000 in
theorem lothers_raw {w : World} {sa : Option Addr} {k sc N m : Nat} {cs : List Value} (hm : m < 63) (hN : N < 2 ^ 64) (hcn : cs.length = Nat.min k 1) (hcf : cs.length ≤ 1) (HP : Hid (0 < cs.length → ∃ ad, sa = some ad ∧ ∀ j v, cs[j]? = some v → (w.alloc (.cells #[.int .u64 0] 119)).cell? (ad.add j) = some v)) (HC1 : Hid (∀ v ∈ cs, v.oneCell' = true)) (HSp : Hid ((splice [Value.int .u64 0] 0 cs).toArray = #[.int .u64 (N : Int)])) :
    Calls Tryz.prog 97 #[.slice sa k sc, .int .i64 m] w fun e w' => ∃ u, e = .returned u ∧ OwnL w' w.heap.size u ((18446744073709551615 ^^^ N) &&& (2 ^ (m + 1) - 1)) ∧ Below w.heap.size w w' := by
  have d0 : ((m : Int)).tdiv 64 = 0 := by rw [Int.tdiv_eq_ediv_of_nonneg (by omega)]; omega
  have d1 : ((m : Int)).tmod 64 = m := by rw [Int.tmod_eq_emod_of_nonneg (by omega)]; omega
  have hmk := makeLens w
  have hx := xorU64 18446744073709551615 N (by decide) hN
  have hxl : 18446744073709551615 ^^^ N < 2 ^ 64 := Nat.xor_lt_two_pow (by decide) hN
  have hp2 : 2 ^ (m + 1) ≤ 2 ^ 63 := Nat.pow_le_pow_right (by omega) (by omega)
  have hp1 : 1 ≤ 2 ^ (m + 1) := Nat.one_le_two_pow
  have hp : 2 ^ (m + 1) - 1 < 2 ^ 64 := by omega
  have ha := andU64 (18446744073709551615 ^^^ N) (2 ^ (m + 1) - 1) hxl hp
  have hw1 : IntKind.u64.wrap ((2 : Int) ^ (m + 1)) = ((2 ^ (m + 1) : Nat) : Int) := by
    have e : ((2 : Int) ^ (m + 1)) = ((2 ^ (m + 1) : Nat) : Int) := by simp
    rw [e]; exact wrapU64 _ (by omega) (by omega)
  have hw2 : IntKind.u64.wrap (((2 ^ (m + 1) : Nat) : Int) - 1) = ((2 ^ (m + 1) - 1 : Nat) : Int) := by
    rw [wrapU64 _ (by omega) (by omega)]; omega
  have hx2 : bits .xor .u64 (if IntKind.u64.signed = true then -1 else IntKind.u64.max) (N : Int) = ((18446744073709551615 ^^^ N : Nat) : Int) := by
    rw [show (if IntKind.u64.signed = true then (-1 : Int) else IntKind.u64.max) = ((18446744073709551615 : Nat) : Int) by decide]; exact hx
  have hq0 : IntKind.i64.wrap 0 = 0 := by decide
  have hq1 : IntKind.i64.wrap ((m : Int) + 1) = (m : Int) + 1 := wrap_id _ (by omega) (by omega)
  have hsh : ∀ W, (Op.shift BinOp.shl IntKind.u64 1 IntKind.i64 ((m : Int) + 1)).run Tryz.prog W = .ok (.int .u64 ((2 ^ (m + 1) : Nat) : Int)) W := fun W => by
    rw [shift_shl_any _ _ _ _ (by omega)]
    have e1 : ((m : Int) + 1).toNat = m + 1 := by omega
    have e2 : min (m + 1) IntKind.u64.bits = m + 1 := by have : IntKind.u64.bits = 64 := rfl; omega
    rw [e1, e2, Int.one_mul, hw1]; rfl
  have HF : Hid (bits .and .u64 ((18446744073709551615 ^^^ N : Nat) : Int) (IntKind.u64.wrap (IntKind.u64.wrap (2 ^ (m + 1)) - 1)) = (((18446744073709551615 ^^^ N) &&& (2 ^ (m + 1) - 1) : Nat) : Int)) := by
    show _ = _
    rw [hw1, hw2]; exact ha
  clear hx hw1 hsh hw2 ha
  generalize 18446744073709551615 ^^^ N = X at *
  generalize hY : X &&& (2 ^ (m + 1) - 1) = Y at *
  clear hp2 hp1 hY
  go_enter Tryz.func97, Tryz.ntmps97
  go_wp2_with (refine wpList_copy_splice rfl _ _ 80 80 rfl 119 Tryz.underlying80 sizeU64 (some ⟨w.heap.size, 0, none⟩) sa 1 1 k sc rfl rfl w.heap.size 0 [.int .u64 0] 119 ?c0 cs hcn ?c2 ?c3 ?c4 w.heap.size w ?c5 ?c6 ?_)
  case c0 => exact heap_alloc_new w _
  case c2 => intro h; exact HP.out (by rw [hcn]; exact h)
  case c3 => simpa using hcf
  case c4 => exact HC1.out
  case c5 => exact below_alloc w _
  case c6 => exact Nat.le_refl _
  intro w1 hg1 hb1
  have hg1' : w1.heap[w.heap.size]? = some (.cells #[.int .u64 (N : Int)] 119 (0, 0)) := by rw [← HSp.out]; exact hg1
  have hcell : w1.cell? ⟨w.heap.size, 0, none⟩ = some (.int .u64 (N : Int)) := by simp only [World.cell?, hg1']; rfl
  have hfr : w1.frozen? ⟨w.heap.size, 0, none⟩ = false := by simp [World.frozen?, hg1']
  have HS1 : Hid ((w1.setCell ⟨w.heap.size, 0, none⟩ (.int .u64 (X : Int))).heap[w.heap.size]? = some (.cells #[.int .u64 (X : Int)] 119 (0, 0))) := by
    have := heap_setCell_same w1 w.heap.size 0 #[.int .u64 (N : Int)] 119 (.int .u64 (X : Int)) hg1'
    show _ = _
    simpa using this
  have HB1 : Hid (Below w.heap.size w (w1.setCell ⟨w.heap.size, 0, none⟩ (.int .u64 (X : Int)))) := hb1.setCell (Nat.le_refl _) _
  clear hg1 hg1' HSp HP HC1 hb1
  go_wp2
  go_loopw [16] (fun iv wr => (iv = .int .i64 0 ∧ wr = w1) ∨ (iv = .int .i64 1 ∧ wr.heap[w.heap.size]? = some (.cells #[.int .u64 (X : Int)] 119 (0, 0)) ∧ Below w.heap.size w wr)) (fun iv _ => (1 - intOf iv).toNat)
  case atStart => exact .inl ⟨rfl, rfl⟩
  case round =>
    rcases hrel with ⟨rfl, rfl⟩ | ⟨rfl, hg, hb⟩
    · go_wp2
      go_roundw
      case rel => exact .inr ⟨rfl, HS1.out, HB1.out⟩
      case measure => simp [intOf]
    · have hcell2 : wr.cell? ⟨w.heap.size, 0, none⟩ = some (.int .u64 (X : Int)) := by simp only [World.cell?, hg]; rfl
      have hfr2 : wr.frozen? ⟨w.heap.size, 0, none⟩ = false := by simp [World.frozen?, hg]
      have HS2 : Hid ((wr.setCell ⟨w.heap.size, 0, none⟩ (.int .u64 (Y : Int))).heap[w.heap.size]? = some (.cells #[.int .u64 (Y : Int)] 119 (0, 0))) := by
        have := heap_setCell_same wr w.heap.size 0 #[.int .u64 (X : Int)] 119 (.int .u64 (Y : Int)) hg
        show _ = _
        simpa using this
      have HB2 : Hid (Below w.heap.size w (wr.setCell ⟨w.heap.size, 0, none⟩ (.int .u64 (Y : Int)))) := hb.setCell (Nat.le_refl _) _
      clear hg hb HS1 HB1 hcell hfr
      go_wp2
      go_region_with (fail)
      all_goals
        rw [HF.out]
        have HO : Hid (OwnL (wr.setCell ⟨w.heap.size, 0, none⟩ (.int .u64 (Y : Int))) w.heap.size (.slice (some ⟨w.heap.size, 0, none⟩) 1 1) Y) := ⟨[Y], .inr rfl, rfl, .inr ⟨w.heap.size, 1, #[.int .u64 (Y : Int)], rfl, Nat.le_refl _, HS2.out, Nat.le_refl _, by unfold maxLen; omega, rfl, rfl⟩⟩
        clear HF HS2
        go_wp2
        go_ret
        exact ⟨_, rfl, HO.out, below_drew1 HB2.out⟩
theorem lothers_any {ok : Nat → Prop} {w : World} {v : Value} {N m : Nat} (hm : m < 63) (hN : N < 2 ^ 64) (h : LenV ok w v N) : Calls Tryz.prog 97 #[v, .int .i64 m] w fun e w' => ∃ u, e = .returned u ∧ OwnL w' w.heap.size u ((18446744073709551615 ^^^ N) &&& (2 ^ (m + 1) - 1)) ∧ Below w.heap.size w w' := by
  rcases h with ⟨rfl, a, c, rfl⟩ | ⟨g, off, c, rfl, hg, _, hc⟩
  · exact lothers_raw (cs := []) hm hN rfl (by simp) (fun h => by simp at h) (fun v h => by simp at h) rfl
  · refine lothers_raw (cs := [.int .u64 (N : Int)]) hm hN rfl (by simp) (fun _ => ⟨_, rfl, fun j v hj => ?_⟩) (fun v h => by simp at h; subst h; rfl) rfl
    match j, hj with
    | 0, hj =>
      simp at hj
      subst hj
      rw [show (⟨g, off, none⟩ : Addr).add 0 = ⟨g, off, none⟩ by simp [Addr.add]]
      exact ((below_alloc w _).cell (p := ⟨g, off, none⟩) hg).trans hc
end Go.Proofs.YtbjohedenfindaaGreatDoor

namespace Go.Proofs.YtbjohedenfindaaGreatDoor
open Go.RowKit
set_option linter.unusedVariables false
set_option maxRecDepth 100000

set_option maxHeartbeats 400000 in
theorem phas_out (v : Value) (p : Int) (l : List Rg) (w : World) (h : p < 0 ∨ 1114111 < p) :
    Calls Tryz.prog 92 #[v, .int .i64 p] w fun e w' => e = .returned (.bool (hasB l p)) ∧ Below w.heap.size w w' := by
  have HB : Hid (hasB l p = false) := by
    show _ = _
    unfold hasB
    rcases h with h | h
    · have : decide (0 ≤ p) = false := by simp; omega
      simp [this]
    · have : decide (p ≤ 1114111) = false := by simp; omega
      simp [this]
  rcases h with h | h
  · go_enter Tryz.func92, Tryz.ntmps92
    go_wp2
    go_ret
    exact ⟨by rw [HB.out]; rfl, Below.refl _ _⟩
  · have h0 : ¬ p < 0 := by omega
    go_enter Tryz.func92, Tryz.ntmps92
    go_wp2
    go_ret
    exact ⟨by rw [HB.out]; rfl, Below.refl _ _⟩

set_option maxHeartbeats 1000000 in
theorem phas_row (b off c : Nat) (p : Int) (l : List Rg) (w : World) (hl : l.length ≤ 1000000) (h0 : 0 ≤ p) (h1 : p ≤ 1114111) (hb : b < w.heap.size) (hc : ∀ j, j < l.length → w.cell? ⟨b, off + j * 2, none⟩ = some (.int .i64 (l.getD j (0, 0)).1) ∧ w.cell? ⟨b, off + j * 2 + 1, none⟩ = some (.int .i64 (l.getD j (0, 0)).2)) :
    Calls Tryz.prog 92 #[.slice (some ⟨b, off, none⟩) l.length c, .int .i64 p] w fun e w' => e = .returned (.bool (hasB l p)) ∧ Below w.heap.size w w' := by
  have HB : Hid (hasB l p = hasL l p) := hasB_in l p h0 h1
  have hn0 : ¬ p < 0 := by omega
  have hn1 : ¬ 1114111 < p := by omega
  go_enter Tryz.func92, Tryz.ntmps92
  go_wp2
  go_loopw [15] (fun i wr => ∃ k : Nat, k ≤ l.length ∧ i = .int .i64 k ∧ hasL (l.take k) p = false ∧ Below w.heap.size w wr) (fun i _ => l.length - (intOf i).toNat)
  case atStart => exact ⟨0, Nat.zero_le _, rfl, rfl, Below.refl _ _⟩
  case round =>
    obtain ⟨k, hk, rfl, hno0, hbw⟩ := hrel
    have HN : Hid (hasL (l.take k) p = false) := hno0
    clear hno0
    by_cases hlt : k < l.length
    · obtain ⟨c0a, c1a⟩ := hc k hlt
      have c0 := (hbw.cell (p := ⟨b, off + k * 2, none⟩) hb).trans c0a
      have c1 := (hbw.cell (p := ⟨b, off + k * 2 + 1, none⟩) hb).trans c1a
      have hsz := hbw.size
      clear hc c0a c1a
      have ht := hasL_take l k p hlt
      generalize l.getD k (0, 0) = r at *
      by_cases g1 : r.1 ≤ p
      · by_cases g2 : p ≤ r.2
        · have HS : Hid (hasL l p = true) := by
            refine hasL_of_take l (k + 1) p ?_
            rw [ht]; simp [inR, g1, g2]
          clear ht
          go_wp2
          go_ret
          exact ⟨by rw [HB.out, HS.out]; rfl, hbw.alloc hsz _⟩
        · have HS : Hid (hasL (l.take (k + 1)) p = false) := by
            show _ = _
            rw [ht, HN.out]; simp [inR]; omega
          clear ht
          go_wp2
          go_roundw
          case rel => exact ⟨k + 1, by omega, by go_num, HS.out, hbw.alloc hsz _⟩
          case measure => simp [intOf]; omega
      · have HS : Hid (hasL (l.take (k + 1)) p = false) := by
          show _ = _
          rw [ht, HN.out]; simp [inR]; omega
        clear ht
        go_wp2
        go_roundw
        case rel => exact ⟨k + 1, by omega, by go_num, HS.out, hbw.alloc hsz _⟩
        case measure => simp [intOf]; omega
    · have HS : Hid (hasL l p = false) := by
        have := HN.out; rw [List.take_of_length_le (by omega)] at this; exact this
      go_wp2
      go_ret
      exact ⟨by rw [HB.out, HS.out]; rfl, hbw⟩

set_option maxHeartbeats 400000 in
theorem phas_empty (a : Option Addr) (c : Nat) (p : Int) (w : World) (h0 : 0 ≤ p) (h1 : p ≤ 1114111) :
    Calls Tryz.prog 92 #[.slice a 0 c, .int .i64 p] w fun e w' => e = .returned (.bool (hasB [] p)) ∧ Below w.heap.size w w' := by
  have HB : Hid (hasB [] p = false) := by show _ = _; simp [hasB, hasL]
  have hn0 : ¬ p < 0 := by omega
  have hn1 : ¬ 1114111 < p := by omega
  go_enter Tryz.func92, Tryz.ntmps92
  go_wp2
  refine wp_loop_rounds 1 ?_
  rw [rounds_succ]
  go_wp2
  go_ret
  exact ⟨by rw [HB.out]; rfl, Below.refl _ _⟩

theorem phas_any (v : Value) (p : Int) (l : List Rg) (w : World) (hl : l.length ≤ 1000000) (hv : Rngs w v l) :
    Calls Tryz.prog 92 #[v, .int .i64 p] w fun e w' => e = .returned (.bool (hasB l p)) ∧ Below w.heap.size w w' := by
  by_cases hp : p < 0 ∨ 1114111 < p
  · exact phas_out v p l w hp
  · rcases hv with ⟨rfl, a, c, rfl⟩ | ⟨b, off, c, rfl, hb, hc⟩
    · exact phas_empty a c p w (by omega) (by omega)
    · exact phas_row b off c p l w hl (by omega) (by omega) hb hc

end Go.Proofs.YtbjohedenfindaaGreatDoor
