/- Texts of the proof, put together: GChC. -/
import Derived.Test.YtmkimaceioacgaaDoorGk27
import Derived.Test.YtmkimaceioacgaaDoorGk35
import Derived.Test.YtmkimaceioacgaaDoorGk11
import Derived.Deep.LoopGhost
import Derived.Deep.RegionHeld3
import Derived.Deep.AppendLies
namespace Go.Proofs.YtmkimaceioacgaaDoor
open Go.RowKit
set_option linter.unusedVariables false
set_option maxRecDepth 100000

theorem Tryd.infoBoolss : (Tryd.prog.info? 51).map (fun i => (i.zero, i.size, i.bytes)) = some (some (.slice none 0 0), 1, 24) := by kernel_rfl
theorem cellOneC (W : World) (v : Value) (t : TypeId) : ∀ j u, [v][j]? = some u → (W.alloc (.cells #[v] t)).cell? ((⟨W.heap.size, 0, none⟩ : Addr).add j) = some u := cell_one_new W v t

set_option maxHeartbeats 16000000 in
theorem rchart_any (t s : Int) (N : Nat) (ps : List PdR) (ls ss : List Int) (pv lv sv : Value) (inp : List Int) (iv : Value) (w : World) (hG : GOkM N ps) (hN1 : 1 ≤ N) (h3 : ∀ p ∈ ps, ∀ x ∈ p.right, x ≤ 300) (hl : inp.length ≤ 200) (h : PdsM w pv ps) (hi : IntsR w iv inp) :
    Calls Tryd.prog 22 #[gv ⟨t, N, s, ps, ls, ss⟩ pv lv sv, iv] w fun e w' => ∃ CD cc D cp bl C, e = .returned (.slice (some ⟨CD, 0, none⟩) N cc) ∧ ChM w' CD N (inp.length + 1) D cp bl C ∧ (∀ n i j, n < N → i ≤ j → j ≤ inp.length → (factB (C n i) j = true ↔ stdP ps inp n i j)) ∧ Below w.heap.size w w' := by
  have hB0 := boxG_below w ⟨t, N, s, ps, ls, ss⟩ pv lv sv
  have hB1 := boxG_size w ⟨t, N, s, ps, ls, ss⟩ pv lv sv
  have hB2 := boxG_box w ⟨t, N, s, ps, ls, ss⟩ pv lv sv
  obtain ⟨M, hM⟩ : ∃ M, M = inp.length + 1 := ⟨_, rfl⟩
  obtain ⟨i0, hi0, hz0, hz1, hz2⟩ := infoParts Tryd.infoBoolss
  have hw1 : IntKind.i64.wrap ((inp.length : Int) + 1) = (M : Int) := by rw [IntKind.wrap_i64, hM]; omega
  obtain ⟨pa, pc, rfl⟩ := h.slice
  obtain ⟨ia, ic, rfl⟩ := hi.slice
  have HBX : Hid (∀ W, Below (boxG w ⟨t, N, s, ps, ls, ss⟩ (.slice pa ps.length pc) lv sv).heap.size (boxG w ⟨t, N, s, ps, ls, ss⟩ (.slice pa ps.length pc) lv sv) W → BoxG W w.heap.size ⟨t, N, s, ps, ls, ss⟩ (.slice pa ps.length pc) lv sv ∧ Below w.heap.size w W) := fun W hb => ⟨hB2.below (by omega) hb, hB0.trans (hb.mono (by omega))⟩
  have HP : Hid (∀ W, Below w.heap.size w W → PdsM W (.slice pa ps.length pc) ps) := fun W hb => h.below hb
  have hN3 := hG.n
  have hpl := hG.len
  have HSTD : Hid (∀ W (CD cc : Nat) (D cp : Nat → Nat) (bl : Nat → Nat → Nat) (C : Nat → Nat → List Bool) (q fr to : Nat) (rv : Value), Below w.heap.size w W → ChM W CD N M D cp bl C → q < ps.length → IntsR W rv (ps.getD q noPd).right → fr ≤ to → to ≤ inp.length → _) := fun W CD cc D cp bl C q fr to rv (hb : Below w.heap.size w W) (hC : ChM W CD N M D cp bl C) (hq : q < ps.length) (hr : IntsR W rv (ps.getD q noPd).right) (h1 : fr ≤ to) (h2 : to ≤ inp.length) => rstands_any ⟨t, N, s, ps, ls, ss⟩ (.slice pa ps.length pc) lv sv CD cc N D cp bl C inp (.slice ia inp.length ic) (ps.getD q noPd).right rv fr to W (by omega) (fun k hk => ⟨(hG.mem (p := ps.getD q noPd) (by simp [List.getD, hq])).2.2 k hk |>.1, by have := h3 (ps.getD q noPd) (by simp [List.getD, hq]) _ (getD_memI _ k hk); omega⟩) (by have := (hG.mem (p := ps.getD q noPd) (by simp [List.getD, hq])).2.1; omega) h1 h2 (by omega) (hM ▸ hC) (hi.below hb) hr
  have HCLS : Hid (∀ (C : Nat → Nat → List Bool) (size fr : Nat), ChI ps inp N (chF C) size fr → ClC ps inp C fr (fr + size) ps.length → ChI ps inp N (chF C) size (fr + 1)) := fun C size fr h1 h2 => h1.close (fun q hq x hx => by
      obtain ⟨j, hj, rfl⟩ := List.mem_iff_getElem.1 hx
      have h5 := (hG.mem (p := ps.getD q noPd) (by simp [List.getD, hq])).2.2 j hj
      have e5 : (ps.getD q noPd).right.getD j 0 = (ps.getD q noPd).right[j] := by rw [List.getD, List.getElem?_eq_getElem hj]; rfl
      rw [e5] at h5
      exact h5.1) (fun q n hq hn hle hr => h2 q n hq hq hle hr)
  have HLF : Hid (∀ q, q < ps.length → ∃ lf : Nat, (ps.getD q noPd).left = (lf : Int) ∧ lf < N) := fun q hq => by
    obtain ⟨a1, a2, _⟩ := (hG.mem (p := ps.getD q noPd) (by simp [List.getD, hq])).1
    exact ⟨(ps.getD q noPd).left.toNat, by omega, by omega⟩
  have HROW : Hid (∀ (C : Nat → Nat → List Bool) (q lf z f tt : Nat), q < ps.length → (ps.getD q noPd).left = (lf : Int) → ChI ps inp N (chF C) z f → rowP inp (chB C) (ps.getD q noPd).right f tt → stdP ps inp lf f tt) := fun C q lf z f tt hq hle hI hr => std_step hq hle (rowP_monoN (N := N) _ _ _ (fun k hk => ((hG.mem (p := ps.getD q noPd) (by simp [List.getD, hq])).2.2 k hk).1) (fun n a b hn hh => hI.sound n a b hn hh) hr)
  clear h hi hG h3 hB2
  have HMe : Hid (M = inp.length + 1) := hM
  have hM1 : 1 ≤ M := by omega
  have hM2 : M ≤ 201 := by omega
  clear hM
  unfold boxG gvs at *
  unfold gv gvs at *
  simp only at *
  go_enter Tryd.func22, Tryd.ntmps22
  go_wp2
  generalize w.alloc (.cells #[.int .i64 t, .int .i64 N, .int .i64 s, .slice pa ps.length pc, lv, sv] 25) = w0 at *
  have HW0 : Hid (w0.heap.size = w.heap.size + 1) := hB1
  clear hB1 hB0
  have hb0 : Below w0.heap.size w0 w0 := Below.refl _ _
  go_loopw [5, 7] (fun cv kv wr => ∃ (ts : List TbE), ts.length ≤ N ∧ kv = .int .i64 ts.length ∧ Hid (ChO w0.heap.size wr M cv ts) ∧ Below w0.heap.size w0 wr) (fun _ kv _ => N - (intOf kv).toNat)
  case atStart => exact ⟨[], Nat.zero_le _, rfl, ChO.start _ _ _, hb0⟩
  case round =>
    clear hb0
    obtain ⟨ts, htl, rfl, HO, hbw⟩ := hrel
    obtain ⟨oa, oc, hoe⟩ := HO.out.slice
    subst hoe
    obtain ⟨⟨q0, q1, q2, q3, q4, q5, q6⟩, hbx⟩ := HBX.out wr hbw
    simp only at q0 q1 q2 q3 q4 q5 q6
    by_cases hlt : ts.length < N
    · have hCt := rtable_any M M hM1 (by omega) (by omega) wr
      go_wp2_with fail
      refine hCt.mono ?_
      rintro e w1 ⟨D, c, bl, rfl, htab, hD, hbl, hb1⟩
      have HOW : Hid (∀ o, (w1.alloc o).ownsRow w0.heap.size 51 1 (.slice oa ts.length oc) ts.length (tsV M ts)) := fun o => HO.out.ownB hb1 o
      have hwl : w0.heap.size ≤ wr.heap.size := hbw.size
      have hwl1 : w0.heap.size ≤ w1.heap.size := Nat.le_trans hwl hb1.size
      have HSTP : Hid (∀ o w9 g9 cap9, w9.ownsRow w0.heap.size 51 1 (.slice (some ⟨g9, 0, none⟩) (ts.length + 1) cap9) (ts.length + 1) (tsV M ts ++ [.slice (some ⟨D, 0, none⟩) M c]) → (w1.alloc o).grownBy w9 (Value.slice oa ts.length oc).ownBlock → ((Value.slice oa ts.length oc).ownBlock = some g9 ∨ g9 = w1.heap.size + 1) → ChO w0.heap.size w9 M (.slice (some ⟨g9, 0, none⟩) (ts.length + 1) cap9) (ts ++ [⟨D, c, bl⟩]) ∧ Below w0.heap.size w0 w9) := fun o w9 g9 cap9 h1 h2 h3 => by
        refine ⟨HO.out.step hwl hM1 hb1 htab hD hbl h1 h2 h3, ?_⟩
        have hol : ∀ b, (Value.slice oa ts.length oc).ownBlock = some b → w0.heap.size ≤ b ∧ b < wr.heap.size := fun b hb => HO.out.own.lt b hb
        have hA2 := alloc_below w1 o
        have hs2 := alloc_size w1 o
        have hb9 : Below w0.heap.size (w1.alloc o) w9 := ⟨h2.os, h2.tape, h2.output, h2.size, fun q hq => h2.block q (by omega) (fun e => by have := hol q e.symm; omega)⟩
        exact ((hbw.trans (hb1.mono hwl)).trans (hA2.mono hwl1)).trans hb9
      clear HO hCt htab hD hbl hb1 hbw hbx q0 q1 q2 q3 q4 q5 q6
      go_wp2_with (at_builtin; refine wpList_append_lies _ rfl _ _ 49 rfl w0.heap.size 51 i0 (.slice none 0 0) 1 24 Tryd.underlying49 hi0 hz0 hz1 hz2 rfl (by decide) (.slice oa ts.length oc) ts.length (tsV M ts) rfl (HOW.out _) ⟨w1.heap.size, 0, none⟩ 1 1 [.slice (some ⟨D, 0, none⟩) M c] rfl rfl ?c1 ?c2 ?c3 ?c4 ?c5 ?c6 (w1.heap.size + 1) ?c7 ?_)
      case c1 => exact cellOneC w1 _ _
      case c2 => intro x hx; simp at hx; subst hx; rfl
      case c3 => omega
      case c4 => unfold maxLen; omega
      case c5 => omega
      case c6 => simp; omega
      case c7 => simp
      intro g9 cap9 w9 hown9 hg9 hat9 hlt9
      obtain ⟨q1, q2⟩ := HSTP.out _ w9 g9 cap9 hown9 hg9 hat9
      have Q1 : Hid (ChO w0.heap.size w9 M (.slice (some ⟨g9, 0, none⟩) (ts.length + 1) cap9) (ts ++ [⟨D, c, bl⟩])) := q1
      have HLN : Hid ((ts ++ [(⟨D, c, bl⟩ : TbE)]).length = ts.length + 1) := by show _ = _; simp
      clear q1 hown9 hg9 hat9 hlt9 HSTP HOW
      go_wp2
      go_roundw
      case rel => exact ⟨ts ++ [⟨D, c, bl⟩], by rw [HLN.out]; omega, by rw [HLN.out]; go_num, Q1, q2⟩
      case measure => simp [intOf]; omega
    · obtain ⟨CD, hD⟩ : ∃ D, oa = some ⟨D, 0, none⟩ := by
        rcases HO.out.own.2 with ⟨e, h0⟩ | ⟨g, cap, cur, e, _⟩
        · omega
        · exact ⟨g, by simpa using (show oa = some ⟨g, 0, none⟩ ∧ oc = cap by simpa using e).1⟩
      subst hD
      have hln : ts.length = N := by omega
      have hX := HO.out
      rw [hln] at hX
      have HX0 : Hid (ChX w0.heap.size wr CD N M (fun n => (ts.getD n noTb).D) (fun n => (ts.getD n noTb).c) (fun n => (ts.getD n noTb).bl) (fun _ _ => List.replicate M false)) := hX.done hln
      have HI0 : Hid (ChI ps inp N (chF (fun _ _ => List.replicate M false)) 0 0) := ChI.start
      clear HO hX
      rw [hln] at *
      clear hln hlt htl
      generalize (fun n => (ts.getD n noTb).D) = D at *
      generalize (fun n => (ts.getD n noTb).c) = cp at *
      generalize (fun n => (ts.getD n noTb).bl) = bl at *
      generalize (fun (_ _ : Nat) => List.replicate M false) = C0 at *
      rename World => wz
      go_wp2
      clear q0 q1 q2 q3 q4 q5 q6 hbx
      go_loopw [9] (fun zv wr => ∃ (z : Nat) (C : Nat → Nat → List Bool), z ≤ M ∧ zv = .int .i64 z ∧ Hid (ChX w0.heap.size wr CD N M D cp bl C) ∧ Hid (ChI ps inp N (chF C) z 0) ∧ Below w0.heap.size w0 wr) (fun zv _ => M - (intOf zv).toNat)
      case atStart => exact ⟨0, C0, Nat.zero_le _, rfl, HX0, HI0, hbw⟩
      case round =>
        clear HX0 HI0 hbw C0
        obtain ⟨z, C, hz, rfl, HX, HI, hbw⟩ := hrel
        by_cases hzn : z ≤ inp.length
        · rename World => wy
          go_wp2
          go_loopw [10] (fun fv wr => ∃ (f : Nat) (C : Nat → Nat → List Bool), f + z ≤ M ∧ fv = .int .i64 f ∧ Hid (ChX w0.heap.size wr CD N M D cp bl C) ∧ Hid (ChI ps inp N (chF C) z f) ∧ Below w0.heap.size w0 wr) (fun fv _ => M - (intOf fv).toNat)
          case atStart => exact ⟨0, C, by omega, rfl, HX, HI, hbw⟩
          case round =>
            clear HX HI hbw C
            obtain ⟨f, C, hf, rfl, HX, HI, hbw⟩ := hrel
            obtain ⟨tt, htt⟩ : ∃ tt, tt = f + z := ⟨_, rfl⟩
            have hwt : IntKind.i64.wrap ((f : Int) + (z : Int)) = (tt : Int) := by rw [IntKind.wrap_i64, htt]; omega
            have HTT : Hid (tt = f + z) := htt
            have HME : inp.length + 1 = M := HMe.out.symm
            have hft : f ≤ tt := by omega
            have htM : tt ≤ M := by omega
            have hfM : f ≤ M := by omega
            clear htt HME
            by_cases hfz : tt ≤ inp.length
            · rename World => wx
              have hfM2 : f < M := by have := HMe.out; omega
              have htM2 : tt < M := by have := HMe.out; omega
              go_wp2
              go_loopg [11] (2 * cntC (fun n => factB (C n f) tt) N + 1) (fun g ag wr => ∃ (C : Nat → Nat → List Bool) (b : Bool), ag = .bool b ∧ Hid (ChX w0.heap.size wr CD N M D cp bl C) ∧ Hid (ChI ps inp N (chF C) z f) ∧ Hid (2 * cntC (fun n => factB (C n f) tt) N + (if b = true then 1 else 0) ≤ g) ∧ Hid (b = false → ClC ps inp C f tt ps.length) ∧ Below w0.heap.size w0 wr)
              case atStart => exact ⟨C, true, rfl, HX, HI, (show _ ≤ _ from Nat.le_refl _), (fun e => by cases e), hbw⟩
              case round =>
                clear HX HI hbw C
                obtain ⟨C, b, rfl, HX, HI, HRK, HCL, hbw⟩ := hrel
                cases b with
                | false =>
                  have HN : Hid (ChI ps inp N (chF C) z (f + 1)) := HCLS.out C z f HI.out (by have := HCL.out rfl; rw [HTT.out] at this; exact this)
                  clear HI HRK HCL
                  have hf1 : f + 1 + z ≤ M := by have := HMe.out; have := HTT.out; omega
                  go_wp2
                  go_roundw
                  case rel => exact ⟨f + 1, C, hf1, by go_num, HX, HN, hbw⟩
                  case measure => simp [intOf]; omega
                | true =>
                  have HK0 : Hid (2 * cntC (fun n => factB (C n f) tt) N + 1 ≤ gk) := HRK.out
                  clear HRK HCL
                  rename World => wv
                  go_wp2
                  go_loopw [11, 12] (fun ag kv wr => ∃ (C' : Nat → Nat → List Bool) (b : Bool) (k : Nat), k ≤ ps.length ∧ ag = .bool b ∧ kv = .int .i64 k ∧ Hid (ChX w0.heap.size wr CD N M D cp bl C') ∧ Hid (ChI ps inp N (chF C') z f) ∧ Hid (b = true → cntC (fun n => factB (C' n f) tt) N < cntC (fun n => factB (C n f) tt) N) ∧ Hid (b = false → C' = C ∧ ClC ps inp C f tt k) ∧ Below w0.heap.size w0 wr) (fun _ kv _ => ps.length - (intOf kv).toNat)
                  case atStart => exact ⟨C, false, 0, Nat.zero_le _, rfl, rfl, HX, HI, (fun e => by cases e), (fun _ => ⟨rfl, fun q n hq => by omega⟩), hbw⟩
                  case round =>
                    clear HX HI hbw
                    obtain ⟨C', b, k, hk, rfl, rfl, HX, HI, HT, HFa, hbw⟩ := hrel
                    obtain ⟨⟨q0, q1, q2, q3, q4, q5, q6⟩, hbx⟩ := HBX.out wr hbw
                    simp only at q0 q1 q2 q3 q4 q5 q6
                    by_cases hkl : k < ps.length
                    · obtain ⟨pb, off, rv, rfl, hpb, hpd⟩ := (HP.out wr hbx).at hkl
                      obtain ⟨lf, hlf, hlN⟩ := HLF.out k hkl
                      have p0 := hpd.c0
                      have p1 := hpd.c1
                      rw [hlf] at p0
                      have c1 := HX.out.m.at_ lf hlN
                      have l1 := HX.out.m.lt
                      have hT := HX.out.m.tab lf hlN
                      have c2 := hT.at_ f hfM2
                      have l2 := hT.lt
                      have c3 := hT.cell (i := f) (k := tt) hfM2 htM2
                      have l3 := hT.blLt (i := f) hfM2
                      obtain ⟨fb, hfb⟩ : ∃ fb, factB (C' lf f) tt = fb := ⟨_, rfl⟩
                      rw [hfb] at c3
                      have HFB : Hid (factB (C' lf f) tt = fb) := hfb
                      have HLf : Hid ((ps.getD k noPd).left = (lf : Int)) := hlf
                      have HRR : Hid (IntsR wr rv (ps.getD k noPd).right) := hpd.right
                      clear hfb hlf hpd hT
                      cases fb with
                      | true =>
                        have HF2 : Hid (b = false → C' = C ∧ ClC ps inp C f tt (k + 1)) := fun e => by
                          obtain ⟨e1, e2⟩ := HFa.out e
                          refine ⟨e1, fun q n hq hq2 hl2 hr => ?_⟩
                          by_cases e3 : q = k
                          · subst e3
                            have : n = lf := by have := HLf.out; omega
                            subst this
                            rw [← e1]; exact HFB.out
                          · exact e2 q n (by omega) hq2 hl2 hr
                        clear HFa HRR
                        generalize D lf = dn at *
                        generalize cp lf = cn at *
                        generalize bl lf f = bn at *
                        go_wp2
                        go_roundw
                        case rel => exact ⟨C', b, k + 1, by omega, rfl, by go_num, HX, HI, HT, HF2, hbw⟩
                        case measure => simp [intOf]; omega
                      | false =>
                        have hdr : Below wr.heap.size wr wr.drew := ⟨rfl, rfl, rfl, Nat.le_refl _, fun _ _ => rfl⟩
                        have hCall := HSTD.out wr.drew CD oc D cp bl C' k f tt rv (hbx.trans (hdr.mono hbx.size)) (HX.out.m.below hdr) hkl (HRR.out.below hdr) hft hfz
                        have HCall : Hid (Calls Tryd.prog 49 #[.agg #[.int .i64 t, .int .i64 N, .int .i64 s, .slice (some ⟨pb, off, none⟩) ps.length pc, lv, sv], .slice (some ⟨CD, 0, none⟩) N oc, .slice ia inp.length ic, rv, .int .i64 f, .int .i64 tt] wr.drew fun e w' => SaysP e (rowP inp (chB C') (ps.getD k noPd).right f tt) ∧ Below wr.drew.heap.size wr.drew w') := hCall
                        have HFX : Hid (∀ w', Below wr.drew.heap.size wr.drew w' → w'.cell? ⟨w.heap.size, 0, none⟩ = some (.int .i64 t) ∧ w'.cell? ⟨w.heap.size, 1, none⟩ = some (.int .i64 N) ∧ w'.cell? ⟨w.heap.size, 2, none⟩ = some (.int .i64 s) ∧ w'.cell? ⟨w.heap.size, 3, none⟩ = some (.slice (some ⟨pb, off, none⟩) ps.length pc) ∧ w'.cell? ⟨w.heap.size, 4, none⟩ = some lv ∧ w'.cell? ⟨w.heap.size, 5, none⟩ = some sv ∧ w'.cell? ⟨pb, off + k * 3 + 1, none⟩ = some rv) := fun w' hb => by
                          have hb' : Below wr.heap.size wr w' := hdr.trans (hb.mono (Nat.le_refl _))
                          exact ⟨(hb'.cell (p := ⟨w.heap.size, 0, none⟩) q0).trans q1, (hb'.cell (p := ⟨w.heap.size, 1, none⟩) q0).trans q2, (hb'.cell (p := ⟨w.heap.size, 2, none⟩) q0).trans q3, (hb'.cell (p := ⟨w.heap.size, 3, none⟩) q0).trans q4, (hb'.cell (p := ⟨w.heap.size, 4, none⟩) q0).trans q5, (hb'.cell (p := ⟨w.heap.size, 5, none⟩) q0).trans q6, (hb'.cell (p := ⟨pb, off + k * 3 + 1, none⟩) hpb).trans p1⟩
                        have HX4 : Hid (∀ w', Below wr.drew.heap.size wr.drew w' → ChX w0.heap.size w' CD N M D cp bl C' ∧ Below w0.heap.size w0 w') := fun w' hb => by
                          have hb' : Below wr.heap.size wr w' := hdr.trans (hb.mono (Nat.le_refl _))
                          exact ⟨HX.out.below hb', hbw.trans (hb'.mono hbw.size)⟩
                        have HNO : Hid (¬ rowP inp (chB C') (ps.getD k noPd).right f tt → b = false → C' = C ∧ ClC ps inp C f tt (k + 1)) := fun hno e => by
                          obtain ⟨e1, e2⟩ := HFa.out e
                          refine ⟨e1, fun q n hq hq2 hl2 hr => ?_⟩
                          by_cases e3 : q = k
                          · subst e3
                            subst e1
                            exact absurd hr hno
                          · exact e2 q n (by omega) hq2 hl2 hr
                        have hlen : (C' lf f).length = M := (HX.out.m.tab lf hlN).len f hfM2
                        have HYES : Hid (rowP inp (chB C') (ps.getD k noPd).right f tt → ChI ps inp N (chF (setC C' lf f tt)) z f) := fun hr => HI.out.put hlen htM2 (HROW.out C' k lf z f tt hkl HLf.out HI.out hr)
                        have HCNT : Hid (cntC (fun n => factB (setC C' lf f tt n f) tt) N < cntC (fun n => factB (C n f) tt) N) := by
                          have h1 : cntC (fun n => factB (setC C' lf f tt n f) tt) N < cntC (fun n => factB (C' n f) tt) N := cntC_lt (k := lf) (fun n hn => by rw [setC_fact hlen htM2]; split; rfl; exact hn) HFB.out (by rw [setC_fact hlen htM2, if_pos ⟨rfl, rfl, rfl⟩]) N hlN
                          show _ < _
                          cases b with
                          | true => exact Nat.lt_trans h1 (HT.out rfl)
                          | false =>
                            have e1 := (HFa.out rfl).1
                            subst e1
                            exact h1
                        have HLOW : Hid (w0.heap.size ≤ bl lf f) := HX.out.low lf f hlN hfM2
                        generalize hRow : rowP inp (chB C') (ps.getD k noPd).right f tt = RP at *
                        clear hCall HX HRR HFB HLf HFa hlen hRow
                        go_wp2_with fail
                        go_region_held3 (fun w' => w'.cell? ⟨w.heap.size, 0, none⟩ = some (.int .i64 t) ∧ w'.cell? ⟨w.heap.size, 1, none⟩ = some (.int .i64 N) ∧ w'.cell? ⟨w.heap.size, 2, none⟩ = some (.int .i64 s) ∧ w'.cell? ⟨w.heap.size, 3, none⟩ = some (.slice (some ⟨pb, off, none⟩) ps.length pc) ∧ w'.cell? ⟨w.heap.size, 4, none⟩ = some lv ∧ w'.cell? ⟨w.heap.size, 5, none⟩ = some sv ∧ w'.cell? ⟨pb, off + k * 3 + 1, none⟩ = some rv) (go_keep) ((go_at_call 49; refine HCall.out.mono ?_; rintro e w4 ⟨⟨b4, rfl, hb4⟩, hbl4⟩; have f1 := HFX.out w4 hbl4; obtain ⟨f0, f1, f2, f3, f4, f5, f6⟩ := f1))
                        all_goals
                          obtain ⟨hX4, hbw4⟩ := HX4.out w4 hbl4
                          clear q0 q1 q2 q3 q4 q5 q6 hbx p0 p1 c1 c2 c3 l1 l2 l3 f0 f1 f2 f3 f4 f5 f6 HFX HX4 HCall hbl4 hdr hpb hbw
                          cases b4 with
                          | false =>
                            have HF2 : Hid (b = false → C' = C ∧ ClC ps inp C f tt (k + 1)) := HNO.out (fun hr => by have := hb4.2 hr; cases this)
                            have HXn : Hid (ChX w0.heap.size w4 CD N M D cp bl C') := hX4
                            clear HNO HYES HCNT hb4 hX4
                            go_wp2
                            go_roundw
                            case rel => exact ⟨C', b, k + 1, by omega, rfl, by go_num, HXn, HI, HT, HF2, hbw4⟩
                            case measure => simp [intOf]; omega
                          | true =>
                            have HIn : Hid (ChI ps inp N (chF (setC C' lf f tt)) z f) := HYES.out (hb4.1 rfl)
                            have c1 := hX4.m.at_ lf hlN
                            have l1 := hX4.m.lt
                            have hT := hX4.m.tab lf hlN
                            have c2 := hT.at_ f hfM2
                            have l2 := hT.lt
                            have c3 := hT.cell (i := f) (k := tt) hfM2 htM2
                            have l3 := hT.blLt (i := f) hfM2
                            have fz := (hT.row f hfM2).fz tt
                            have HXn : Hid (ChX w0.heap.size (w4.setCell ⟨bl lf f, tt, none⟩ (.bool true)) CD N M D cp bl (setC C' lf f tt)) := hX4.set hlN hfM2 tt
                            have Hbn : Hid (Below w0.heap.size w0 (w4.setCell ⟨bl lf f, tt, none⟩ (.bool true))) := below_set hbw4 HLOW.out _ _
                            clear HNO HYES hb4 hX4 hT HI HT hbw4 HLOW
                            generalize D lf = dn at c1 c2 l2
                            generalize cp lf = cn at c1
                            generalize bl lf f = bn at *
                            generalize factB (C' lf f) tt = ff at c3
                            go_wp2
                            go_roundw
                            case rel => exact ⟨setC C' lf f tt, true, k + 1, by omega, rfl, by go_num, HXn, HIn, (fun _ => HCNT.out), (fun e => by cases e), Hbn.out⟩
                            case measure => simp [intOf]; omega
                    · obtain rfl : k = ps.length := by omega
                      go_wp2
                      go_roundg (2 * cntC (fun n => factB (C' n f) tt) N + (if b = true then 1 else 0))
                      case rel => exact ⟨C', b, rfl, HX, HI, (show _ ≤ _ from Nat.le_refl _), (fun e => by obtain ⟨e1, e2⟩ := HFa.out e; subst e1; exact e2), hbw⟩
                      case measure =>
                        have := HK0.out
                        cases b
                        · obtain ⟨e1, _⟩ := HFa.out rfl
                          subst e1
                          simp; omega
                        · have := HT.out rfl
                          simp; omega
            · obtain rfl : tt = M := by have := HMe.out; omega
              have HN : Hid (ChI ps inp N (chF C) (z + 1) 0) := HI.out.next (by have := HMe.out; have := HTT.out; omega)
              clear HI
              go_wp2
              go_roundw
              case rel => exact ⟨z + 1, C, by have := HMe.out; omega, by go_num, HX, HN, hbw⟩
              case measure => simp [intOf]; have := HMe.out; omega
        · have hzM : z = inp.length + 1 := by have := HMe.out; omega
          have HE : Hid (∀ n i j, n < N → i ≤ j → j ≤ inp.length → (factB (C n i) j = true ↔ stdP ps inp n i j)) := (by have := HI.out; rw [hzM] at this; exact this.final)
          have HXM : Hid (ChM wr CD N (inp.length + 1) D cp bl C) := HMe.out ▸ HX.out.m
          obtain ⟨_, hbx⟩ := HBX.out wr hbw
          clear HI HX hzM
          go_wp2
          go_ret
          first | exact ⟨CD, oc, D, cp, bl, C, rfl, HXM.out, HE.out, hbx⟩ | exact ⟨CD, ⟨oc, rfl⟩, D, cp, bl, C, HXM.out, HE.out, hbx⟩

set_option maxHeartbeats 4000000 in
theorem rhas_any (t : Int) (s N : Nat) (ps : List PdR) (ls ss : List Int) (pv lv sv : Value) (inp : List Int) (iv : Value) (w : World) (hG : GOkM N ps) (hN1 : 1 ≤ N) (hs : s < N) (h3 : ∀ p ∈ ps, ∀ x ∈ p.right, x ≤ 300) (hl : inp.length ≤ 200) (h : PdsM w pv ps) (hi : IntsR w iv inp) :
    Calls Tryd.prog 11 #[gv ⟨t, N, s, ps, ls, ss⟩ pv lv sv, iv] w fun e w' => SaysP e (stdP ps inp s 0 inp.length) ∧ Below w.heap.size w w' := by
  have hB0 := boxG_below w ⟨t, N, s, ps, ls, ss⟩ pv lv sv
  have hB1 := boxG_size w ⟨t, N, s, ps, ls, ss⟩ pv lv sv
  have hB2 := boxG_box w ⟨t, N, s, ps, ls, ss⟩ pv lv sv
  have hC := rchart_any t s N ps ls ss pv lv sv inp iv (boxG w ⟨t, N, s, ps, ls, ss⟩ pv lv sv) hG hN1 h3 hl (h.below hB0) (hi.below hB0)
  obtain ⟨ia, ic, rfl⟩ := hi.slice
  have HBX : Hid (∀ W, Below (boxG w ⟨t, N, s, ps, ls, ss⟩ pv lv sv).heap.size (boxG w ⟨t, N, s, ps, ls, ss⟩ pv lv sv) W → BoxG W w.heap.size ⟨t, N, s, ps, ls, ss⟩ pv lv sv ∧ Below w.heap.size w W) := fun W hb => ⟨hB2.below (by omega) hb, hB0.trans (hb.mono (by omega))⟩
  obtain ⟨q0, q1, q2, q3, q4, q5, q6⟩ := hB2
  clear h hi h3 hB0 hG
  unfold boxG gv gvs at hC
  unfold boxG gvs at hB1 q0 q1 q2 q3 q4 q5 q6 HBX
  unfold gv gvs
  simp only at *
  go_enter Tryd.func11, Tryd.ntmps11
  go_wp2_with fail
  refine hC.mono ?_
  rintro e w2 ⟨CD, cc, D, cp, bl, C, rfl, hM, hE, hb2⟩
  clear q0 q1 q2 q3 q4 q5 q6 hC
  obtain ⟨⟨q0, q1, q2, q3, q4, q5, q6⟩, hbx⟩ := HBX.out w2 hb2
  simp only at q0 q1 q2 q3 q4 q5 q6
  have c1 := hM.at_ s hs
  have l1 := hM.lt
  have hT := hM.tab s hs
  have c2 := hT.at_ 0 (by omega)
  have l2 := hT.lt
  have c3 := hT.cell (i := 0) (k := inp.length) (by omega) (by omega)
  have l3 := hT.blLt (i := 0) (by omega)
  have HE : Hid (factB (C s 0) inp.length = true ↔ stdP ps inp s 0 inp.length) := hE s 0 inp.length hs (Nat.zero_le _) (Nat.le_refl _)
  clear hM hT hE HBX hb2 hB1
  have hln : (inp.length : Int) < (inp.length : Int) + 1 := by omega
  generalize factB (C s 0) inp.length = fb at *
  generalize D s = dn at *
  generalize cp s = cn at *
  generalize bl s 0 = bn at *
  go_wp2
  go_ret
  exact ⟨⟨fb, rfl, HE.out⟩, hbx⟩

end Go.Proofs.YtmkimaceioacgaaDoor
