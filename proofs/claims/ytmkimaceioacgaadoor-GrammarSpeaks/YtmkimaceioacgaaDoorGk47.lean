/- Texts of the proof, put together: GLawK. -/
import Derived.Test.YtmkimaceioacgaaDoorGk25
import Derived.Test.YtmkimaceioacgaaDoorGk34
import Derived.Test.YtmkimaceioacgaaDoorGk36
import Derived.Test.YtmkimaceioacgaaDoorGk46
import Derived.Test.YtmkimaceioacgaaDoorGk29
import Derived.Test.YtmkimaceioacgaaDoorGk21
import Derived.BigQuiet
namespace Go.Proofs.YtmkimaceioacgaaDoor
open Go.RowKit
set_option linter.unusedVariables false
set_option maxRecDepth 100000

set_option maxHeartbeats 4000000 in
theorem lawk_no (g : Gm) (pv lv sv : Value) (w : World) (h : GrM w g pv lv sv) (hwf : WfG g) (hs : smallG g = false ∨ (smallG g = true ∧ gOkB g = false)) :
    Calls Tryd.prog 3 #[gv g pv lv sv] w fun e w' => e = .returned (.bool true) ∧ Below w.heap.size w w' := by
  have hB0 := boxG_below w g pv lv sv
  have hB1 := boxG_size w g pv lv sv
  have hB2 := boxG_box w g pv lv sv
  have hC0 := speaks_any (boxG w g pv lv sv)
  have HBX : Hid (∀ W, Below (boxG w g pv lv sv).heap.size (boxG w g pv lv sv) W → BoxG W w.heap.size g pv lv sv ∧ Below w.heap.size w W) := fun W hb => ⟨hB2.below (by omega) hb, hB0.trans (hb.mono (by omega))⟩
  have HC1 : Hid (∀ W, Below w.heap.size w W → _) := fun W (hb : Below w.heap.size w W) => small_any g pv lv sv W (h.below hb)
  have HC2 : Hid (∀ W, Below w.heap.size w W → _) := fun W (hb : Below w.heap.size w W) => pok_any g pv lv sv W (h.below hb) hwf
  obtain ⟨q0, q1, q2, q3, q4, q5, q6⟩ := hB2
  clear h hB0
  unfold boxG at hC0
  unfold gv gvs at HC1 HC2 ⊢
  unfold gvs at hC0
  unfold boxG gvs at hB1 q0 q1 q2 q3 q4 q5 q6 HBX
  go_enter Tryd.func3, Tryd.ntmps3
  go_wp2_with fail
  refine hC0.mono ?_
  rintro e w1 ⟨rfl, hb1⟩
  clear hC0 q0 q1 q2 q3 q4 q5 q6
  generalize w.alloc (.cells #[.int .i64 g.terms, .int .i64 g.names, .int .i64 g.start, pv, lv, sv] 25) = w0 at *
  obtain ⟨⟨q0, q1, q2, q3, q4, q5, q6⟩, hbx⟩ := HBX.out w1 hb1
  have hC1 := HC1.out w1 hbx
  clear hB1
  go_wp2_with fail
  refine hC1.mono ?_
  rintro e w2 ⟨rfl, hb2⟩
  have hbw2 := hb1.trans (hb2.mono hb1.size)
  clear hC1 q0 q1 q2 q3 q4 q5 q6 hbx
  obtain ⟨⟨q0, q1, q2, q3, q4, q5, q6⟩, hbx⟩ := HBX.out w2 hbw2
  rcases hs with hs | ⟨hs, hno⟩
  · rw [hs]
    clear q0 q1 q2 q3 q4 q5 q6
    go_wp2
    go_ret
    exact ⟨rfl, hbx⟩
  · rw [hs]
    have hC2 := HC2.out w2 hbx
    rw [hno] at hC2
    go_wp2_with fail
    refine hC2.mono ?_
    rintro e w3 ⟨rfl, hb3⟩
    have hbw3 := hbx.trans (hb3.mono hbx.size)
    clear hC2 q0 q1 q2 q3 q4 q5 q6
    go_wp2
    go_ret
    exact ⟨rfl, hbw3⟩

set_option maxHeartbeats 16000000 in
theorem lawk_yes (T s N : Nat) (ps : List PdR) (ls ss : List Int) (pv lv sv : Value) (w : World) (hG : GOkM N ps) (hN1 : 1 ≤ N) (hN8 : N ≤ 8) (hT8 : T ≤ 8) (hsN : s < N) (hTr : TrmP T ps) (h3 : ∀ p ∈ ps, ∀ x ∈ p.right, x ≤ 300) (h : GrM w ⟨T, N, s, ps, ls, ss⟩ pv lv sv) (hwf : WfG ⟨T, N, s, ps, ls, ss⟩) (hs : smallG ⟨T, N, s, ps, ls, ss⟩ = true) (hyes : gOkB ⟨T, N, s, ps, ls, ss⟩ = true) (hGl : 0 < w.heap.size) (hTb : TabAt 0 Lib.deBruijn64tab w) :
    Calls Tryd.prog 3 #[gv ⟨T, N, s, ps, ls, ss⟩ pv lv sv] w fun e w' => e = .returned (.bool true) ∧ Below w.heap.size w w' := by
  have hB0 := boxG_below w ⟨T, N, s, ps, ls, ss⟩ pv lv sv
  have hB1 := boxG_size w ⟨T, N, s, ps, ls, ss⟩ pv lv sv
  have hB2 := boxG_box w ⟨T, N, s, ps, ls, ss⟩ pv lv sv
  have hC0 := speaks_any (boxG w ⟨T, N, s, ps, ls, ss⟩ pv lv sv)
  have HBX : Hid (∀ W, Below (boxG w ⟨T, N, s, ps, ls, ss⟩ pv lv sv).heap.size (boxG w ⟨T, N, s, ps, ls, ss⟩ pv lv sv) W → BoxG W w.heap.size ⟨T, N, s, ps, ls, ss⟩ pv lv sv ∧ Below w.heap.size w W) := fun W hb => ⟨hB2.below (by omega) hb, hB0.trans (hb.mono (by omega))⟩
  have HC1 : Hid (∀ W, Below w.heap.size w W → Calls Tryd.prog 5 #[gv ⟨T, N, s, ps, ls, ss⟩ pv lv sv] W fun e w' => e = .returned (.bool true) ∧ Below W.heap.size W w') := fun W (hb : Below w.heap.size w W) => by
    have := small_any ⟨T, N, s, ps, ls, ss⟩ pv lv sv W (h.below hb)
    rw [hs] at this
    exact this
  have HC2 : Hid (∀ W, Below w.heap.size w W → Calls Tryd.prog 6 #[gv ⟨T, N, s, ps, ls, ss⟩ pv lv sv] W fun e w' => e = .returned (.bool true) ∧ Below W.heap.size W w') := fun W (hb : Below w.heap.size w W) => by
    have := pok_any ⟨T, N, s, ps, ls, ss⟩ pv lv sv W (h.below hb) hwf
    rw [hyes] at this
    exact this
  have HC3 : Hid (∀ W, Below w.heap.size w W → Calls Tryd.prog 7 #[gv ⟨T, N, s, ps, ls, ss⟩ pv lv sv, .int .i64 (s : Int)] W fun e w' => ∃ va vc L, e = .returned (.tuple #[.slice va (txF (factF L s)).length vc, .bool (decide (knF (factF L s) = 2))]) ∧ IntsR w' (.slice va (txF (factF L s)).length vc) (txF (factF L s)) ∧ WkT ps N L (fun _ => False) ∧ Below W.heap.size W w') := fun W (hb : Below w.heap.size w W) => by
    refine (pshortest_yes T s N s ps ls ss pv lv sv W hG hN1 h3 (h.below hb) hwf hyes hsN).mono ?_
    rintro e w' ⟨v, L, rfl, hI, hW, hb'⟩
    obtain ⟨va, vc, rfl⟩ := hI.slice
    exact ⟨va, vc, L, rfl, hI, hW, hb'⟩
  have HC4 : Hid (∀ W, Below w.heap.size w W → _) := fun W (hb : Below w.heap.size w W) => pshort_yes T s N ps ls ss pv lv sv W hG (h.below hb) hwf hyes
  have HC5 : Hid (∀ W, Below w.heap.size w W → _) := fun W (hb : Below w.heap.size w W) => plives_yes T s N ps ls ss pv lv sv W hG (h.below hb) hwf hyes
  have HC6 : Hid (∀ W, Below w.heap.size w W → _) := fun W (hb : Below w.heap.size w W) => pfirst_yes T s N ps ls ss pv lv sv W hN1 hN8 hT8 hsN hTr hG (h.below hb) hwf hyes (Nat.lt_of_lt_of_le hGl hb.size) (tab_below hTb hGl hb)
  have HC7 : Hid (∀ W (inp : List Int) (iv : Value), Below w.heap.size w W → inp.length ≤ 200 → IntsR W iv inp → _) := fun W inp iv (hb : Below w.heap.size w W) (hl : inp.length ≤ 200) (hi : IntsR W iv inp) => rhas_any T s N ps ls ss pv lv sv inp iv W hG hN1 hsN h3 hl (h.prods.below hb) hi
  have HALL : Hid (∀ (L : List SF) (L' : List Int), WkT ps N L (fun _ => False) → WkI (prsS ps) N L' (fun _ => False) → SpkQ N ps s (decide (knF (factF L s) = 2)) (txF (factF L s)) (L'.getD s 0) (hgtB true (prsS ps) N s)) := fun L L' h1 h2 => speak_all hG hTr hT8 h1 h2 hsN
  obtain ⟨q0, q1, q2, q3, q4, q5, q6⟩ := hB2
  clear h hB0 hTb hGl hG hTr h3 hwf hs hyes
  unfold boxG at hC0
  unfold gv gvs at HC1 HC2 HC3 HC4 HC5 HC6 HC7 ⊢
  unfold gvs at hC0
  unfold boxG gvs at hB1 q0 q1 q2 q3 q4 q5 q6 HBX
  simp only at *
  go_enter Tryd.func3, Tryd.ntmps3
  go_wp2_with fail
  refine hC0.mono ?_
  rintro e w1 ⟨rfl, hb1⟩
  clear hC0 q0 q1 q2 q3 q4 q5 q6
  generalize w.alloc (.cells #[.int .i64 T, .int .i64 N, .int .i64 s, pv, lv, sv] 25) = w0 at *
  obtain ⟨⟨q0, q1, q2, q3, q4, q5, q6⟩, hbx⟩ := HBX.out w1 hb1
  simp only at q0 q1 q2 q3 q4 q5 q6
  have hC1 := HC1.out w1 hbx
  clear hB1
  go_wp2_with fail
  refine hC1.mono ?_
  rintro e w2 ⟨rfl, hb2⟩
  have hbw2 := hb1.trans (hb2.mono hb1.size)
  clear hC1 q0 q1 q2 q3 q4 q5 q6 hbx hb1 hb2
  obtain ⟨⟨q0, q1, q2, q3, q4, q5, q6⟩, hbx⟩ := HBX.out w2 hbw2
  simp only at q0 q1 q2 q3 q4 q5 q6
  have hC2 := HC2.out w2 hbx
  go_wp2_with fail
  refine hC2.mono ?_
  rintro e w3 ⟨rfl, hb3⟩
  have hbw3 := hbw2.trans (hb3.mono hbw2.size)
  clear hC2 q0 q1 q2 q3 q4 q5 q6 hbx hb3 hbw2
  obtain ⟨⟨q0, q1, q2, q3, q4, q5, q6⟩, hbx⟩ := HBX.out w3 hbw3
  simp only at q0 q1 q2 q3 q4 q5 q6
  have hC3 := HC3.out w3 hbx
  go_wp2_with fail
  refine hC3.mono ?_
  rintro e w4 ⟨va, vc, L, rfl, hI4, hW4, hb4⟩
  have hbw4 := hbw3.trans (hb4.mono hbw3.size)
  clear hC3 q0 q1 q2 q3 q4 q5 q6 hbx hb4 hbw3
  have HI4 : Hid (IntsR w4 (.slice va (txF (factF L s)).length vc) (txF (factF L s))) := hI4
  have HW4 : Hid (WkT ps N L fun _ => False) := hW4
  clear hI4 hW4
  obtain ⟨⟨q0, q1, q2, q3, q4, q5, q6⟩, hbx⟩ := HBX.out w4 hbw4
  simp only at q0 q1 q2 q3 q4 q5 q6
  have hC4 := HC4.out w4 hbx
  go_wp2_with fail
  refine hC4.mono ?_
  rintro e w5 ⟨B5, L', rfl, hR5, hW5, hb5⟩
  have HQ : Hid (SpkQ N ps s (decide (knF (factF L s) = 2)) (txF (factF L s)) (L'.getD s 0) (hgtB true (prsS ps) N s)) := HALL.out L L' HW4.out hW5
  have hL5 : L'.length = N := hW5.lens.len
  have HI5 : Hid (IntsR w5 (.slice va (txF (factF L s)).length vc) (txF (factF L s))) := HI4.out.below hb5
  have HR5 : Hid (Row w5 B5 L') := hR5
  have HL5 : Hid (L'.length = N) := hL5
  have hbw5 := hbw4.trans (hb5.mono hbw4.size)
  clear hC4 q0 q1 q2 q3 q4 q5 q6 hbx hb5 hbw4 HI4 hR5 hW5 hL5 HALL HW4
  generalize decide (knF (factF L s) = 2) = fd at *
  generalize txF (factF L s) = sl at *
  obtain ⟨⟨q0, q1, q2, q3, q4, q5, q6⟩, hbx⟩ := HBX.out w5 hbw5
  simp only at q0 q1 q2 q3 q4 q5 q6
  have hC5 := HC5.out w5 hbx
  go_wp2_with fail
  refine hC5.mono ?_
  rintro e w6 ⟨B6, LV, rfl, hR6, hL6, hE6, hb6⟩
  have HI6 : Hid (IntsR w6 (.slice va sl.length vc) sl) := HI5.out.below hb6
  have hR5' : Row w6 B5 L' := HR5.out.grown (below_grownN hb6) (by simp)
  have hbw6 := hbw5.trans (hb6.mono hbw5.size)
  have c5 := hR5'.cell (j := s) (by rw [HL5.out]; exact hsN)
  have l5 := hR5'.lt
  have c6 := hR6.cell (j := s) (by rw [hL6]; exact hsN)
  have l6 := hR6.lt
  rw [hE6 s] at c6
  clear hC5 q0 q1 q2 q3 q4 q5 q6 hbx hb6 hbw5 HI5 hR5' hR6 hL6 hE6 HR5 HL5
  generalize L'.getD s 0 = ln at *
  generalize hgtB true (prsS ps) N s = lvs at *
  obtain ⟨⟨q0, q1, q2, q3, q4, q5, q6⟩, hbx⟩ := HBX.out w6 hbw6
  simp only at q0 q1 q2 q3 q4 q5 q6
  cases fd with
  | false =>
    have hno := HQ.out.no rfl
    clear HQ HC1 HC2 HC3 HC4 HC5 HC6 HC7
    cases lvs with
    | false =>
      clear hno
      go_wp2
      go_ret
      exact ⟨rfl, hbx⟩
    | true =>
      have hgt : 1000 < ln := by rcases hno with h | h; cases h; exact h
      have d1 : decide (ln > 1000) = true := decide_eq_true hgt
      clear hno
      go_wp2
      go_ret
      exact ⟨by simp, hbx⟩
  | true =>
    have hlen := HQ.out.len rfl
    have hlv := HQ.out.live rfl
    have HF : Hid (∀ x r, sl = x :: r → ∃ t : Nat, x = (t : Int) ∧ t < 9 ∧ fstP N ps s t) := HQ.out.fst rfl
    have HS : Hid (stdP ps sl s 0 sl.length) := HQ.out.std rfl
    have hmx := HQ.out.max
    subst hlv
    subst hlen
    clear HQ HC1 HC2 HC3 HC4 HC5
    obtain ⟨n, hn⟩ : ∃ n, sl.length = n := ⟨_, rfl⟩
    have Hn : Hid (sl.length = n) := hn
    rw [hn] at HI6 hmx c5 ⊢
    clear hn
    by_cases hz : n = 0
    · subst hz
      have HI7 : Hid (IntsR w6 (.slice va 0 vc) sl) := HI6.out
      go_wp2_with fail
      · clear c5 c6 l5 l6
        have hC7 := HC7.out w6 sl (.slice va 0 vc) hbx (by rw [Hn.out]; omega) HI7.out
        go_wp2_with fail
        refine hC7.mono ?_
        rintro e w8 ⟨⟨b8, rfl, hb8⟩, hb8b⟩
        have hb8t : b8 = true := hb8.2 HS.out
        subst hb8t
        have hbx8 := hbx.trans (hb8b.mono hbx.size)
        clear hC7 q0 q1 q2 q3 q4 q5 q6 hb8 hb8b
        go_wp2
        go_ret
        exact ⟨rfl, hbx8⟩
    · obtain ⟨x, r, hsl⟩ : ∃ x r, sl = x :: r := by
        cases hsl : sl with
        | nil => exact absurd (by rw [← Hn.out, hsl]; rfl) hz
        | cons x r => exact ⟨x, r, rfl⟩
      obtain ⟨t, hxt, ht9, hft⟩ := HF.out x r hsl
      obtain ⟨xb, xo, rfl, hxb, hxc⟩ := HI6.out.at (k := 0) (by rw [Hn.out]; omega)
      have hx0 : sl.getD 0 0 = x := by rw [hsl]; rfl
      rw [hx0] at hxc
      have HFT : Hid (fstP N ps s t) := hft
      have HXT : Hid (x = (t : Int)) := hxt
      have hn0 : (n : Int) > 0 := by omega
      have d0 : decide ((n : Int) > 0) = true := decide_eq_true hn0
      clear hft hxt hsl hx0 HF
      have hC6 := HC6.out w6 hbx
      go_wp2_with fail
      refine hC6.mono ?_
      rintro e w7 ⟨v7, FL, rfl, hls, hbits, hb7⟩
      obtain ⟨fa, fc, rfl⟩ := hls.slice
      have hrl : ((List.range N).map fun n => bitsZ (factM FL n)).length = N := by simp
      rw [hrl] at hls ⊢
      obtain ⟨fb, fo, rv, rfl, hfb, hfc, hZ⟩ := hls.at (k := s) (by rw [hrl]; exact hsN)
      have hgz : ((List.range N).map fun n => bitsZ (factM FL n)).getD s [] = bitsZ (factM FL s) := by simp [List.getD, hsN]
      rw [hgz] at hZ
      have HXZ : Hid (x ∈ bitsZ (factM FL s)) := by
        show x ∈ _
        rw [HXT.out]
        exact bits_mem ht9 ((hbits s hsN t).2 HFT.out)
      obtain ⟨za, zc, rfl⟩ := hZ.slice
      have hZl := bitsZ_len (factM FL s)
      generalize bitsZ (factM FL s) = Z at *
      have HZ : Hid (∀ W, Below w7.heap.size w7 W → W.cell? ⟨fb, fo + s, none⟩ = some (.slice za Z.length zc) ∧ IntsR W (.slice za Z.length zc) Z ∧ fb < W.heap.size) := fun W hb => ⟨(hb.cell (p := ⟨fb, fo + s, none⟩) hfb).trans hfc, hZ.below hb, Nat.lt_of_lt_of_le hfb hb.size⟩
      have HX7 : Hid (∀ W, Below w7.heap.size w7 W → W.cell? ⟨xb, xo, none⟩ = some (.int .i64 x) ∧ xb < W.heap.size) := fun W hb => by
        have hb' : Below w6.heap.size w6 W := hb7.trans (hb.mono hb7.size)
        exact ⟨(hb'.cell (p := ⟨xb, xo, none⟩) hxb).trans hxc, Nat.lt_of_lt_of_le hxb hb'.size⟩
      have HI7' : Hid (∀ W, Below w7.heap.size w7 W → IntsR W (.slice (some ⟨xb, xo, none⟩) n vc) sl) := fun W hb => HI6.out.below (hb7.trans (hb.mono hb7.size))
      have hbw7 := hbw6.trans (hb7.mono hbw6.size)
      have HB7 : Hid (∀ W, Below w7.heap.size w7 W → BoxG W w.heap.size ⟨T, N, s, ps, ls, ss⟩ pv lv sv ∧ Below w.heap.size w W) := fun W hb => HBX.out W (hbw7.trans (hb.mono hbw7.size))
      clear hC6 q0 q1 q2 q3 q4 q5 q6 hbx hls hrl hgz hbits hb7 hbw7 HFT HXT hfb hfc hZ hxb hxc HI6 hbw6 c5 c6 l5 l6 HBX HC6
      have hb0 : Below w7.heap.size w7 w7 := Below.refl _ _
      go_wp2
      go_loopw [10, 11] (fun nv kv wr => ∃ (i : Nat), i ≤ Z.length ∧ kv = .int .i64 i ∧ nv = .bool (inP Z x i) ∧ Below w7.heap.size w7 wr) (fun _ kv _ => Z.length - (intOf kv).toNat)
      case atStart => exact ⟨0, Nat.zero_le _, rfl, by rw [inP_zero], hb0⟩
      case round =>
        clear hb0
        obtain ⟨i, hi, rfl, rfl, hbw⟩ := hrel
        obtain ⟨⟨q0, q1, q2, q3, q4, q5, q6⟩, hbx⟩ := HB7.out wr hbw
        simp only at q0 q1 q2 q3 q4 q5 q6
        obtain ⟨z1, hZw, z2⟩ := HZ.out wr hbw
        obtain ⟨x1, x2⟩ := HX7.out wr hbw
        by_cases hil : i < Z.length
        · obtain ⟨zb, zo, hze, hzb, hzc⟩ := hZw.at hil
          have HST : Hid (inP Z x (i + 1) = (inP Z x i || (Z.getD i 0 == x))) := inP_step hil
          have hrb : ∀ k, Below w7.heap.size w7 (wr.drewN k) := fun k => below_drewG hbw k
          have HRB : Hid (∀ k, Below w7.heap.size w7 (wr.drewN k)) := hrb
          subst hze
          clear hrb hZw
          generalize Z.getD i 0 = zi at *
          obtain ⟨ii, hii⟩ : ∃ ii, inP Z x i = ii := ⟨_, rfl⟩
          rw [hii] at HST ⊢
          clear hii
          cases ii with
          | true =>
            have HN : Hid (inP Z x (i + 1) = true) := by show _ = _; rw [HST.out]; rfl
            clear HST
            go_wp2
            go_quiet (fail)
            go_wp2
            go_roundw
            case rel => exact ⟨i + 1, by omega, by go_num, by rw [HN.out], HRB.out _⟩
            case measure => simp [intOf]; omega
          | false =>
            obtain ⟨bz, hbz⟩ : ∃ bz, (zi == x) = bz := ⟨_, rfl⟩
            have HN : Hid (inP Z x (i + 1) = bz) := by show _ = _; rw [HST.out, hbz]; rfl
            clear HST
            go_wp2
            go_quiet (fail)
            go_wp2
            go_roundw
            case rel => exact ⟨i + 1, by omega, by go_num, by rw [HN.out], HRB.out _⟩
            case measure => simp [intOf]; omega
        · obtain rfl : i = Z.length := by omega
          have hin : inP Z x Z.length = true := inP_all HXZ.out
          rw [hin]
          clear hin
          have HI7 : Hid (IntsR wr (.slice (some ⟨xb, xo, none⟩) n vc) sl) := HI7'.out wr hbw
          by_cases h12 : n > 12
          · have d12 : decide ((n : Int) > 12) = true := decide_eq_true (by omega)
            go_wp2
            go_ret
            exact ⟨rfl, hbx⟩
          · have d12 : decide ((n : Int) > 12) = false := decide_eq_false (by omega)
            have hC7 := HC7.out wr sl (.slice (some ⟨xb, xo, none⟩) n vc) hbx (by rw [Hn.out]; omega) HI7.out
            go_wp2_with fail
            refine hC7.mono ?_
            rintro e w8 ⟨⟨b8, rfl, hb8⟩, hb8b⟩
            have hb8t : b8 = true := hb8.2 HS.out
            subst hb8t
            have hbx8 := hbx.trans (hb8b.mono hbx.size)
            clear hC7 q0 q1 q2 q3 q4 q5 q6 hb8 hb8b
            go_wp2
            go_ret
            exact ⟨rfl, hbx8⟩

end Go.Proofs.YtmkimaceioacgaaDoor
