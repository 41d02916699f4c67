import Derived.Test.YtbiiapdeincpbaaPMore
namespace Go.Proofs.Ytbiiapdeincpbaa
open Go.RowKit
set_option linter.unusedVariables false
set_option maxRecDepth 100000

theorem Rngs.drewN {w : World} {v : Value} {l : List Rg} (h : Rngs w v l) (n : Nat) : Rngs (w.drewN n) v l := h

set_option maxHeartbeats 400000 in
theorem law_sets_long (aa ba : Option Addr) (an ac bn bc : Nat) (p : Int) (w : World) (h : 12 < an ∨ 12 < bn) :
    Calls Try.prog 5 #[.slice aa an ac, .slice ba bn bc, .int .i64 p] w fun e w' => e = .returned (.bool true) ∧ Below w.heap.size w w' := by
  by_cases h1 : 12 < an
  · go_enter Try.func5, Try.ntmps5
    go_wp2_with fail
    go_ret
    exact ⟨rfl, Below.refl _ _⟩
  · have h2 : 12 < bn := by omega
    go_enter Try.func5, Try.ntmps5
    go_wp2_with fail
    go_ret
    exact ⟨rfl, Below.refl _ _⟩

set_option maxHeartbeats 4000000 in
theorem law_sets (va vb : Value) (a b : List Rg) (p : Int) (w : World) (hla : a.length ≤ 12) (hlb : b.length ≤ 12) (ha : Rngs w va a) (hb : Rngs w vb b) :
    Calls Try.prog 5 #[va, vb, .int .i64 p] w fun e w' => e = .returned (.bool true) ∧ Below w.heap.size w w' := by
  obtain ⟨aa, ac, rfl⟩ := rngs_slice ha
  obtain ⟨ba, bc, rfl⟩ := rngs_slice hb
  have HA : Hid (Rngs w (.slice aa a.length ac) a) := ha
  have HB : Hid (Rngs w (.slice ba b.length bc) b) := hb
  clear ha hb
  have hl12 : ¬ (12 : Int) < (a.length : Int) := by omega
  have hl12b : ¬ (12 : Int) < (b.length : Int) := by omega
  go_enter Try.func5, Try.ntmps5
  have hc0 : Below w.heap.size w w := Below.refl _ w
  go_wp2_with fail
  refine (pcanon_any (.slice aa a.length ac) a _ (by omega) (HA.out.below hc0)).mono ?_
  rintro e x0 ⟨vx0, ox0, rfl, hox0, hUx0, hbx0, hlx0⟩
  have hRx0 := hox0.rngs
  have hcx0 := hc0.trans (hbx0.mono hc0.size)
  clear hox0 hbx0
  go_wp2_with fail
  refine (rcanon_any (.slice aa a.length ac) a _ (by omega) (HA.out.below hcx0)).mono ?_
  rintro e y0 ⟨vy0, oy0, rfl, hoy0, hUy0, hby0, hly0⟩
  have hRy0 := hoy0.rngs
  have hRz0 := hRx0.below hby0
  have hcy0 := hcx0.trans (hby0.mono hcx0.size)
  have eq0 : ox0 = oy0 := upto_unique hUx0 hUy0 (fun q h0 h1 => rfl)
  subst eq0
  clear hoy0 hby0 hUx0 hUy0 hRx0
  go_wp2_with fail
  refine (sameset_any vx0 vy0 ox0 _ (by omega) hRz0 hRy0).mono ?_
  rintro e z0 ⟨rfl, nz0, rfl⟩
  have hc1 := below_drewN hcy0 nz0
  clear hRz0 hRy0 hcy0 hcx0 
  go_wp2_with fail
  refine (pjoin_any (.slice aa a.length ac) (.slice ba b.length bc) a b _ (by omega) (by omega) (HA.out.below hc1) (HB.out.below hc1)).mono ?_
  rintro e x1 ⟨vx1, ox1, rfl, hox1, hUx1, hbx1, hlx1⟩
  have hRx1 := hox1.rngs
  have hcx1 := hc1.trans (hbx1.mono hc1.size)
  clear hox1 hbx1
  go_wp2_with fail
  refine (both_any 1 (.slice aa a.length ac) (.slice ba b.length bc) a b _ (by omega) (by omega) (HA.out.below hcx1) (HB.out.below hcx1) (fun q W h1 h2 => wanted_1 _ _ a b q W (by omega) (by omega) h1 h2)).mono ?_
  rintro e y1 ⟨vy1, oy1, rfl, hoy1, hUy1, hby1, hly1⟩
  have hRy1 := hoy1.rngs
  have hRz1 := hRx1.below hby1
  have hcy1 := hcx1.trans (hby1.mono hcx1.size)
  have eq1 : ox1 = oy1 := upto_unique hUx1 hUy1 (fun q h0 h1 => by show _ = wantR 1 (hasB a q) (hasB b q); rw [hasB_in a q h0 h1, hasB_in b q h0 h1]; rfl)
  subst eq1
  clear hoy1 hby1 hUx1 hUy1 hRx1
  go_wp2_with fail
  refine (sameset_any vx1 vy1 ox1 _ (by omega) hRz1 hRy1).mono ?_
  rintro e z1 ⟨rfl, nz1, rfl⟩
  have hc2 := below_drewN hcy1 nz1
  clear hRz1 hRy1 hcy1 hcx1 
  go_wp2_with fail
  refine (pmeet_any (.slice aa a.length ac) (.slice ba b.length bc) a b _ (by omega) (by omega) (HA.out.below hc2) (HB.out.below hc2)).mono ?_
  rintro e x2 ⟨vx2, ox2, rfl, hox2, hUx2, hbx2, hlx2⟩
  have hRx2 := hox2.rngs
  have hcx2 := hc2.trans (hbx2.mono hc2.size)
  clear hox2 hbx2
  go_wp2_with fail
  refine (both_any 2 (.slice aa a.length ac) (.slice ba b.length bc) a b _ (by omega) (by omega) (HA.out.below hcx2) (HB.out.below hcx2) (fun q W h1 h2 => wanted_2 _ _ a b q W (by omega) (by omega) h1 h2)).mono ?_
  rintro e y2 ⟨vy2, oy2, rfl, hoy2, hUy2, hby2, hly2⟩
  have hRy2 := hoy2.rngs
  have hRz2 := hRx2.below hby2
  have hcy2 := hcx2.trans (hby2.mono hcx2.size)
  have eq2 : ox2 = oy2 := upto_unique hUx2 hUy2 (fun q h0 h1 => by show _ = wantR 2 (hasB a q) (hasB b q); rw [hasB_in a q h0 h1, hasB_in b q h0 h1]; rfl)
  subst eq2
  clear hoy2 hby2 hUx2 hUy2 hRx2
  go_wp2_with fail
  refine (sameset_any vx2 vy2 ox2 _ (by omega) hRz2 hRy2).mono ?_
  rintro e z2 ⟨rfl, nz2, rfl⟩
  have hc3 := below_drewN hcy2 nz2
  clear hRz2 hRy2 hcy2 hcx2 
  go_wp2_with fail
  refine (pless_any (.slice aa a.length ac) (.slice ba b.length bc) a b _ (by omega) (by omega) (HA.out.below hc3) (HB.out.below hc3)).mono ?_
  rintro e x3 ⟨vx3, ox3, rfl, hox3, hUx3, hbx3, hlx3⟩
  have hRx3 := hox3.rngs
  have hcx3 := hc3.trans (hbx3.mono hc3.size)
  clear hox3 hbx3
  go_wp2_with fail
  refine (both_any 3 (.slice aa a.length ac) (.slice ba b.length bc) a b _ (by omega) (by omega) (HA.out.below hcx3) (HB.out.below hcx3) (fun q W h1 h2 => wanted_3 _ _ a b q W (by omega) (by omega) h1 h2)).mono ?_
  rintro e y3 ⟨vy3, oy3, rfl, hoy3, hUy3, hby3, hly3⟩
  have hRy3 := hoy3.rngs
  have hRz3 := hRx3.below hby3
  have hcy3 := hcx3.trans (hby3.mono hcx3.size)
  have eq3 : ox3 = oy3 := upto_unique hUx3 hUy3 (fun q h0 h1 => by show _ = wantR 3 (hasB a q) (hasB b q); rw [hasB_in a q h0 h1, hasB_in b q h0 h1]; rfl)
  subst eq3
  clear hoy3 hby3 hUx3 hUy3 hRx3
  go_wp2_with fail
  refine (sameset_any vx3 vy3 ox3 _ (by omega) hRz3 hRy3).mono ?_
  rintro e z3 ⟨rfl, nz3, rfl⟩
  have hc4 := below_drewN hcy3 nz3
  clear hRz3 hRy3 hcy3 hcx3 
  go_wp2_with fail
  refine (pother_any (.slice aa a.length ac) a _ (by omega) (HA.out.below hc4)).mono ?_
  rintro e x4 ⟨vx4, ox4, rfl, hox4, hUx4, hbx4, hlx4⟩
  have hRx4 := hox4.rngs
  have hcx4 := hc4.trans (hbx4.mono hc4.size)
  clear hox4 hbx4
  go_wp2_with fail
  refine (all_any _).mono ?_
  rintro e xa ⟨vall, rfl, hRall, hball⟩
  have hRxa := hRx4.below hball
  have hcxa := hcx4.trans (hball.mono hcx4.size)
  clear hRx4 hball
  go_wp2_with fail
  refine (both_any 3 vall (.slice aa a.length ac) [(0, 1114111)] a _ (by simp) (by omega) hRall (HA.out.below hcxa) (fun q W h1 h2 => wanted_3 _ _ [(0, 1114111)] a q W (by simp) (by omega) h1 h2)).mono ?_
  rintro e y4 ⟨vy4, oy4, rfl, hoy4, hUy4, hby4, hly4⟩
  have hRy4 := hoy4.rngs
  have hRz4 := hRxa.below hby4
  have hcy4 := hcxa.trans (hby4.mono hcxa.size)
  have eq4 : ox4 = oy4 := upto_unique hUx4 hUy4 (fun q h0 h1 => by show _ = wantR 3 (hasB [(0, 1114111)] q) (hasB a q); rw [hasB_in _ q h0 h1, hasB_in a q h0 h1]; simp [wantR, hasL, inR, h0, h1])
  subst eq4
  clear hoy4 hby4 hUx4 hUy4 hRxa hRall
  go_wp2_with fail
  refine (sameset_any vx4 vy4 ox4 _ (by omega) hRz4 hRy4).mono ?_
  rintro e z4 ⟨rfl, nz4, rfl⟩
  have hc5 := below_drewN hcy4 nz4
  clear hRz4 hRy4 hcy4 hcx4 hcxa
  go_wp2_with fail
  refine (phas_any (.slice aa a.length ac) p a _ (by omega) (HA.out.below hc5)).mono ?_
  rintro e s1 ⟨rfl, hs1⟩
  have hd1 := hc5.trans (hs1.mono hc5.size)
  go_wp2_with fail
  refine (rhas_any (.slice aa a.length ac) p a _ (by omega) (HA.out.below hd1)).mono ?_
  rintro e s2 ⟨rfl, rfl⟩
  generalize hasB a p = hx
  cases hx
  all_goals
    go_wp2_with fail
    refine (psize_any (.slice aa a.length ac) a _ (by omega) (HA.out.below hd1)).mono ?_
    rintro e s3 ⟨o3, rfl, hU3, hs3⟩
    have hd3 := hd1.trans (hs3.mono hd1.size)
    go_wp2_with fail
    refine (rsize_any (.slice aa a.length ac) a _ (by omega) (HA.out.below hd3)).mono ?_
    rintro e s4 ⟨o4, rfl, hU4, hs4⟩
    have hd4 := hd3.trans (hs4.mono hd3.size)
    have e34 : o3 = o4 := upto_unique hU3 hU4 (fun q h0 h1 => rfl)
    subst e34
    clear hU3 hU4
    go_wp2
    go_ret
    exact ⟨rfl, hd4⟩

end Go.Proofs.Ytbiiapdeincpbaa
