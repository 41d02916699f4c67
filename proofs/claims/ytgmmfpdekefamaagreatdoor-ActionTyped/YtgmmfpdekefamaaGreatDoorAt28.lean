/- Texts of the proof, put together: QPsk, QApp, QPsl. -/
import Derived.Test.YtgmmfpdekefamaaGreatDoorAt27
import Derived.Deep.DeepCutAuto
import Derived.OwnWalk
import Derived.ArgAppend
namespace Go.Proofs.YtgmmfpdekefamaaGreatDoor
open Go.RowKit
set_option linter.unusedVariables false
set_option maxRecDepth 100000

theorem Tryz.infoShape : (Tryz.prog.info? 89).map (fun i => (i.zero, i.size, i.bytes)) = some (some (.agg #[.int .i64 0, .int .i64 0]), 2, 16) := by kernel_rfl
def finM (kind : Int) (tx : ByteArray) : Except Bool (List Sh) → CkR
 | .error b => .error b
 | .ok l => match mdP kind tx.toList l with
  | some s => .ok s
  | none => .error false

set_option maxHeartbeats 16000000 in
theorem pse_kids {B : Nat} {an at' : Addr} {W : World} {C b : Nat} {kind num : Int} {tx : ByteArray} {ka : Option Addr} {kc : Nat} {ks : List Ex} {nv : Value} {args : List Sh} {ns : List Nm} (hE : ShE B W C args an at') (hN : NmP B W nv ns) (hb : b < B) (e0 : W.cell? ⟨b, 0, none⟩ = some (.int .i64 kind)) (e2 : W.cell? ⟨b, 2, none⟩ = some (.string tx)) (e3 : W.cell? ⟨b, 3, none⟩ = some (.slice ka ks.length kc)) (k3 : kind ≠ 3) (k4 : kind ≠ 4) (k5 : kind ≠ 5) (hs : shapeB kind num tx ks.length = true) (hks : ks.length ≤ 1000)
  (hgd : Hid (∀ l, runK kind tx ns (ks.map (chk args)) [] = .ok l → ∀ s ∈ l, Gd 100000 s))
  (HK : Hid (∀ i, i < ks.length → ∀ V, W.grownBy V nv.ownBlock → NmP B V nv ns → ∃ g off u, ka = some ⟨g, off, none⟩ ∧ g < B ∧ W.cell? ⟨g, off + i, none⟩ = some u ∧ Calls Tryz.prog 37 #[.pointer (some ⟨C, 0, none⟩), u, nv] V (GotKp B an at' V nv ns (chk args (ks.getD i nilE) ns)))) :
  Calls Tryz.prog 37 #[.pointer (some ⟨C, 0, none⟩), .pointer (some ⟨b, 0, none⟩), nv] W (GotKp B an at' W nv ns (finM kind tx (runK kind tx ns (ks.map (chk args)) []))) := by
 obtain ⟨i1, hj0, hj1, hj2, hj3⟩ := info_parts Tryz.infoShape
 have HR : Hid (runK kind tx ns ((ks.map (chk args)).drop 0) [] = runK kind tx ns (ks.map (chk args)) []) := rfl
 generalize runK kind tx ns (ks.map (chk args)) [] = RR at *
 have HI : Hid (PkI B W (W.alloc (.cells #[.int .i64 0, .int .i64 0] 89)) nv ns (.slice none 0 0) []) := PkI.new hE.le hN
 have h3 : (kind == 3) = false := by rw [beq_eq_false_iff_ne]; exact k3
 have h4 : (kind == 4) = false := by rw [beq_eq_false_iff_ne]; exact k4
 have h5 : (kind == 5) = false := by rw [beq_eq_false_iff_ne]; exact k5
 have HE : Hid (ShE B W C args an at') := hE
 have HS : Hid (shapeB kind num tx ks.length = true ∧ kind ≠ 3 ∧ kind ≠ 4 ∧ kind ≠ 5) := ⟨hs, k3, k4, k5⟩
 have hle := hE.le
 have hbW : b < W.heap.size := Nat.lt_of_lt_of_le hb hle
 clear hE hN hs k3 k4 k5
 go_enter Tryz.func37, Tryz.ntmps37
 go_wp2
 generalize W.alloc (.cells #[.int .i64 0, .int .i64 0] 89) = w1 at *
 go_loopw [12, 106] (fun lv iv wr => ∃ (i : Nat) (acc : List Sh) (a : Option Addr) (c : Nat), iv = .int .i64 i ∧ lv = .slice a i c ∧ i ≤ ks.length ∧ Hid (acc.length = i) ∧ Hid (PkI B W wr nv ns (.slice a i c) acc) ∧ Hid (runK kind tx ns ((ks.map (chk args)).drop i) acc = RR)) (fun _ iv _ => ks.length - (intOf iv).toNat)
 case atStart => exact ⟨0, [], none, 0, rfl, rfl, Nat.zero_le _, rfl, HI, HR⟩
 case round =>
  clear HI HR
  obtain ⟨i, acc, a, c, rfl, rfl, hil, HL, HIr, HRr⟩ := hrel
  have hbr := HIr.out.bel
  by_cases hlt : i < ks.length
  ·have hltI : (i : Int) < (ks.length : Int) := by omega
   obtain ⟨g, off, u, rfl, hg, hcu, hC⟩ := HK.out i hlt wr HIr.out.grn HIr.out.nam
   have HC : Hid (Calls Tryz.prog 37 #[.pointer (some ⟨C, 0, none⟩), u, nv] wr (GotKp B an at' wr nv ns (chk args (ks.getD i nilE) ns))) := hC
   have du : wr.cell? ⟨g, off + i, none⟩ = some u := (hbr.cell (p := ⟨g, off + i, none⟩) hg).trans hcu
   have hgl : g < wr.heap.size := Nat.lt_of_lt_of_le hg (Nat.le_trans hle hbr.size)
   clear hC hcu hbr
   go_wp2_with fail
   go_at_call 37
   refine HC.out.mono ?_
   rintro e w6 ⟨hg6, hN6, hres⟩
   have HI6 : Hid (PkI B W w6 nv ns (.slice a i c) acc) := HIr.out.after hg6 hN6
   clear hg6 hN6 HC HIr du hgl
   have HRn : Hid (RR = match chk args (ks.getD i nilE) ns with | .error b => .error b | .ok s => runK kind tx ns ((ks.map (chk args)).drop (i + 1)) (acc ++ [s])) := by
    have e := HRr.out
    rw [runK_step hlt HL.out, if_neg (fun h => HS.out.2.2.2 h.1)] at e
    exact e.symm
   clear HRr
   rcases hres with ⟨s, hr, rfl⟩ | ⟨bb, u', hr, rfl⟩
   ·have HR6 : Hid (runK kind tx ns ((ks.map (chk args)).drop (i + 1)) (acc ++ [s]) = RR) := by
     have e := HRn.out
     rw [hr] at e
     exact e.symm
    obtain ⟨ls, bs⟩ := s
    unfold shV
    simp only at *
    have hown := HI6.out.own
    rw [HL.out] at hown
    have hown8 := (hown.alloc (.cells #[.int .i64 (ls : Int), .int .i64 bs] 89)).alloc (.cells #[.int .i64 (ls : Int), .int .i64 bs] 89)
    have hA8 := allocAtA (w6.alloc (.cells #[.int .i64 (ls : Int), .int .i64 bs] 89)) (.cells #[.int .i64 (ls : Int), .int .i64 bs] 89)
    rw [alloc_size] at hA8
    have hlt6 := HI6.out.res.lt
    have HN8 : Hid (∀ j u, [Value.int .i64 (ls : Int), .int .i64 bs][j]? = some u → ((w6.alloc (.cells #[.int .i64 (ls : Int), .int .i64 bs] 89)).alloc (.cells #[.int .i64 (ls : Int), .int .i64 bs] 89)).cell? ((⟨w6.heap.size + 1, 0, none⟩ : Addr).add j) = some u) := World.news_of_block hA8
    have H18 : Hid (∀ u ∈ [Value.int .i64 (ls : Int), .int .i64 bs], u.oneCell' = true) := by
     intro u hu
     simp only [List.mem_cons, List.not_mem_nil, or_false] at hu
     rcases hu with rfl | rfl <;> rfl
    have HZ8 : Hid (W.heap.size + 1 ≤ ((w6.alloc (.cells #[.int .i64 (ls : Int), .int .i64 bs] 89)).alloc (.cells #[.int .i64 (ls : Int), .int .i64 bs] 89)).heap.size) := by show _ ≤ _; rw [alloc_size, alloc_size]; omega
    have HS8 : Hid (((w6.alloc (.cells #[.int .i64 (ls : Int), .int .i64 bs] 89)).alloc (.cells #[.int .i64 (ls : Int), .int .i64 bs] 89)).heap.size = w6.heap.size + 2) := by show _ = _; rw [alloc_size, alloc_size]
    clear hr hown hA8 HRn
    go_wp2_with (at_builtin; refine wpList_append_lies _ rfl _ _ 85 rfl (W.heap.size + 1) 89 i1 (.agg #[.int .i64 0, .int .i64 0]) 2 16 Tryz.underlying85 hj0 hj1 hj2 hj3 rfl (by decide) (.slice a i c) i (clS acc) rfl hown8 ⟨w6.heap.size + 1, 0, none⟩ 1 1 [.int .i64 (ls : Int), .int .i64 bs] rfl rfl HN8.out H18.out (by omega) (by unfold maxLen; omega) (by omega) HZ8.out (w6.heap.size + 2) HS8.out ?_)
    intro g9 cap9 w9 hown9 hg9 hat9 hlt9
    have HI9 : Hid (PkI B W w9 nv ns (.slice (some ⟨g9, 0, none⟩) (i + 1) cap9) (acc ++ [(ls, bs)])) := HI6.out.put (s := (ls, bs)) HL.out hown9 hg9
    have HL9 : Hid ((acc ++ [(ls, bs)]).length = i + 1) := by show _ = _; rw [List.length_append, HL.out]; rfl
    clear hown9 hg9 hat9 hlt9 hown8 HN8 H18 HZ8 HS8 HI6 HL hlt6
    go_wp2_with fail
    go_roundw
    case rel => exact ⟨i + 1, _, _, _, by go_num, rfl, by omega, HL9, HI9, HR6⟩
    case measure => simp [intOf]; omega
   ·have HR6 : Hid (RR = .error bb) := by
     have e := HRn.out
     rw [hr] at e
     exact e
    obtain ⟨lu, bu⟩ := u'
    unfold shV
    have hev : errV an at' bb = .iface 294 (.pointer (some (if bb = true then an else at'))) := rfl
    have HEV : Hid (.iface 294 (.pointer (some (if bb = true then an else at'))) = errV an at' bb) := rfl
    rw [hev]
    generalize (if bb = true then an else at') = av' at *
    have hb6 : Below W.heap.size w6 (putS w6 W.heap.size 0 0) := below_putS (Below.refl _ _) (Nat.le_refl _) 0 0
    have ha7 := alloc_below (putS w6 W.heap.size 0 0) (.cells #[.int .i64 (lu : Int), .int .i64 bu] 89)
    have hTW2 : ShAt ((putS w6 W.heap.size 0 0).alloc (.cells #[.int .i64 (lu : Int), .int .i64 bu] 89)) W.heap.size 0 0 := (HI6.out.res.put 0 0).below ha7 (HI6.out.res.put 0 0).lt
    have HG : Hid (GotKp B an at' W nv ns (finM kind tx RR) (.returned (.tuple #[shV (0, 0), .iface 294 (.pointer (some av'))])) ((putS w6 W.heap.size 0 0).alloc (.cells #[.int .i64 (lu : Int), .int .i64 bu] 89))) := by
     rw [HR6.out]
     obtain ⟨o1, o2⟩ := HI6.out.out (hb6.trans (ha7.mono (Nat.le_trans (Nat.le_of_lt HI6.out.res.lt) hb6.size)))
     rw [HEV.out]
     exact GotKp.no (0, 0) rfl o1 o2
    have s0 := hTW2.c0
    have s1 := hTW2.c1
    have r0 := HI6.out.res.c0
    have r1 := HI6.out.res.c1
    have f0 := HI6.out.res.fz 0
    have f1 := HI6.out.res.fz 1
    have rr := HI6.out.res.lt
    generalize hVV : putS w6 W.heap.size 0 0 = VV at s0 s1 HG
    have HW : Hid (putS w6 W.heap.size 0 0 = VV) := hVV
    clear hev HEV hTW2 ha7 hb6 hr HI6 HR6 HRn hVV
    go_wp2
    have hW := HW.out
    unfold putS at hW
    rw [hW]
    generalize VV.alloc (.cells #[.int .i64 (lu : Int), .int .i64 bu] 89) = W2 at *
    refine bodyPost_ret (v := .tuple #[shV (0, 0), .iface 294 (.pointer (some av'))]) ?_ rfl ?_
    ·simp [results, go_sem, s0, s1, shV]
    ·exact HG.out
  ·obtain rfl : i = ks.length := by omega
   have HRR : Hid (RR = .ok acc) := by
    have e := HRr.out
    rw [List.drop_eq_nil_of_le (by simp)] at e
    exact e.symm
   have HM : Hid (Calls Tryz.prog 70 #[.pointer (some ⟨b, 0, none⟩), .slice a ks.length c] wr (GotS wr (mdP kind tx.toList acc))) :=
    amade_any (num := num) (Nat.lt_of_lt_of_le hbW HIr.out.grn.size) ((hbr.cell (p := ⟨b, 0, none⟩) hb).trans e0) ((hbr.cell (p := ⟨b, 2, none⟩) hb).trans e2) (own_shs HIr.out.own) (by rw [HL.out]; exact HS.out.1) HS.out.2.1 HS.out.2.2.1 HS.out.2.2.2 (by rw [HL.out]; omega) (hgd.out acc HRR.out)
   have HEr : Hid (ShE B wr C args an at') := HE.out.below hbr
   clear HRr hbr HL
   go_wp2_with fail
   go_at_call 70
   refine HM.out.mono ?_
   rintro e w6 ⟨hb6, u, yes, rfl, hy, hu⟩
   have HI6 : Hid (PkI B W w6 nv ns (.slice a ks.length c) acc) := HIr.out.below hb6
   have hE6 := (HEr.out.env.below hb6).typ
   have r0 := HI6.out.res.c0
   have r1 := HI6.out.res.c1
   have f0 := HI6.out.res.fz 0
   have f1 := HI6.out.res.fz 1
   have rr := HI6.out.res.lt
   have HFn : Hid (finM kind tx RR = match mdP kind tx.toList acc with | some s => .ok s | none => .error false) := by show _ = _; rw [HRR.out]; rfl
   obtain ⟨lu, bu⟩ := u
   unfold shV
   clear hb6 HM HEr HIr HRR
   generalize mdP kind tx.toList acc = O at *
   cases O with
   | none =>
    have hy' : yes = false := hy
    subst hy'
    have hTl := World.block_lt_of_cell? w6 _ hE6
    have hnT : W.heap.size ≠ 4 := by
     have h1 := World.block_lt_of_cell? W _ HE.out.env.typ
     have : (4 : Nat) < W.heap.size := h1
     omega
    have hnT2 : w6.heap.size ≠ 4 := by have : (4 : Nat) < w6.heap.size := hTl; omega
    have hne6 : w6.heap.size ≠ W.heap.size := by omega
    have hb6 : Below W.heap.size w6 (putS w6 W.heap.size 0 0) := below_putS (Below.refl _ _) (Nat.le_refl _) 0 0
    have ha7 := alloc_below (putS w6 W.heap.size 0 0) (.cells #[.int .i64 (lu : Int), .int .i64 bu] 89)
    have hd7 : Below ((putS w6 W.heap.size 0 0).alloc (.cells #[.int .i64 (lu : Int), .int .i64 bu] 89)).heap.size ((putS w6 W.heap.size 0 0).alloc (.cells #[.int .i64 (lu : Int), .int .i64 bu] 89)) ((putS w6 W.heap.size 0 0).alloc (.cells #[.int .i64 (lu : Int), .int .i64 bu] 89)).drew := below_drewG (Below.refl _ _) 1
    have hTW2 : ShAt ((putS w6 W.heap.size 0 0).alloc (.cells #[.int .i64 (lu : Int), .int .i64 bu] 89)) W.heap.size 0 0 := (HI6.out.res.put 0 0).below ha7 (HI6.out.res.put 0 0).lt
    have hTW3 := hTW2.below hd7 hTW2.lt
    have HG : Hid (GotKp B an at' W nv ns (finM kind tx RR) (.returned (.tuple #[shV (0, 0), .iface 294 (.pointer (some at'))])) ((putS w6 W.heap.size 0 0).alloc (.cells #[.int .i64 (lu : Int), .int .i64 bu] 89)).drew) := by
     rw [HFn.out]
     have hm1 := hb6.trans (ha7.mono (Nat.le_trans (Nat.le_of_lt HI6.out.res.lt) hb6.size))
     obtain ⟨o1, o2⟩ := HI6.out.out (hm1.trans (hd7.mono (Nat.le_trans (Nat.le_of_lt HI6.out.res.lt) hm1.size)))
     exact GotKp.no (b := false) (0, 0) rfl o1 o2
    have s0 := hTW3.c0
    have s1 := hTW3.c1
    generalize hVV : putS w6 W.heap.size 0 0 = VV at s0 s1 HG
    have HW : Hid (putS w6 W.heap.size 0 0 = VV) := hVV
    clear hu hy hb6 ha7 hd7 hTW2 hTW3 HI6 HFn hVV
    go_wp2_with fail
    go_big_region
    go_wp2
    have hW := HW.out
    unfold putS at hW
    rw [hW]
    generalize (VV.alloc (.cells #[.int .i64 (lu : Int), .int .i64 bu] 89)).drew = W2 at *
    refine bodyPost_ret (v := .tuple #[shV (0, 0), .iface 294 (.pointer (some at'))]) ?_ rfl ?_
    ·simp [results, go_sem, s0, s1, shV]
    ·exact HG.out
   | some s =>
    have hy' : yes = true := hy
    subst hy'
    have hu' := hu s rfl
    subst hu'
    have hb6 : Below W.heap.size w6 (putS w6 W.heap.size lu bu) := below_putS (Below.refl _ _) (Nat.le_refl _) lu bu
    have ha7 := alloc_below (putS w6 W.heap.size lu bu) (.cells #[.int .i64 (lu : Int), .int .i64 bu] 89)
    have hTW2 : ShAt ((putS w6 W.heap.size lu bu).alloc (.cells #[.int .i64 (lu : Int), .int .i64 bu] 89)) W.heap.size lu bu := (HI6.out.res.put lu bu).below ha7 (HI6.out.res.put lu bu).lt
    have HG : Hid (GotKp B an at' W nv ns (finM kind tx RR) (.returned (.tuple #[shV (lu, bu), .nilIface])) ((putS w6 W.heap.size lu bu).alloc (.cells #[.int .i64 (lu : Int), .int .i64 bu] 89))) := by
     rw [HFn.out]
     obtain ⟨o1, o2⟩ := HI6.out.out (hb6.trans (ha7.mono (Nat.le_trans (Nat.le_of_lt HI6.out.res.lt) hb6.size)))
     exact GotKp.yes rfl o1 o2
    have s0 := hTW2.c0
    have s1 := hTW2.c1
    generalize hVV : putS w6 W.heap.size lu bu = VV at s0 s1 HG
    have HW : Hid (putS w6 W.heap.size lu bu = VV) := hVV
    clear hu hy hb6 ha7 hTW2 HI6 HFn hVV hE6
    go_wp2
    have hW := HW.out
    unfold putS at hW
    rw [hW]
    generalize VV.alloc (.cells #[.int .i64 (lu : Int), .int .i64 bu] 89) = W2 at *
    refine bodyPost_ret (v := .tuple #[shV (lu, bu), .nilIface]) ?_ rfl ?_
    ·simp [results, go_sem, s0, s1, shV]
    ·exact HG.out

end Go.Proofs.YtgmmfpdekefamaaGreatDoor

namespace Go.Proofs.YtgmmfpdekefamaaGreatDoor
open Go.RowKit
set_option linter.unusedVariables false
set_option linter.unusedSimpArgs false
set_option maxRecDepth 100000

theorem new_back {V V2 w' : World} {nv2 : Value} {T : TypeId} {s m : Nat} {us : List Value} (h2 : V.grownBy V2 none) (own2 : V2.ownsRow V.heap.size T s nv2 m us) (h3 : V2.grownBy w' nv2.ownBlock) : Below V.heap.size V w' :=
 ⟨h3.os.trans h2.os, h3.tape.trans h2.tape, h3.output.trans h2.output, Nat.le_trans h2.size h3.size, fun k hk => (h3.block k (Nat.lt_of_lt_of_le hk h2.size) (fun e => by have := (own2.lt k e.symm).1; omega)).trans (h2.block k hk (by simp))⟩
theorem own_mono {V : World} {B B' : Nat} {T : TypeId} {s n : Nat} {v : Value} {us : List Value} (h : V.ownsRow B T s v n us) (hB : B' ≤ B) : V.ownsRow B' T s v n us := by
 refine ⟨h.1, ?_⟩
 rcases h.2 with hn | ⟨g, cap, cur, h1, h2, rest⟩
 ·exact .inl hn
 ·exact .inr ⟨g, cap, cur, h1, Nat.le_trans hB h2, rest⟩
theorem clN_rev (x : Nm) (ns : List Nm) : clN (x :: ns).reverse = clN ns.reverse ++ clN [x] := by rw [List.reverse_cons, clN_append]
theorem run_names {B : Nat} {V : World} {nv : Value} {ns : List Nm} {x : Nm} {ad : Addr} (hN : NmP B V nv ns) (hB : B ≤ V.heap.size) (hn : ns.length ≤ 1000) (hc : ∀ j u, (clN [x])[j]? = some u → V.cell? (ad.add j) = some u) (ty : TypeId) :
  ∃ nv2 V2, (Builtin.append_ #[129, 129] ty #[nv, .slice (some ad) 1 1]).run Tryz.prog V = .ok nv2 V2 ∧ V.grownBy V2 nv.ownBlock ∧ NmP B V2 nv2 (x :: ns) ∧ (∀ w', V2.grownBy w' nv2.ownBlock → NmP B w' nv2 (x :: ns) → V.grownBy w' nv.ownBlock ∧ NmP B w' nv ns) := by
 obtain ⟨i1, hj0, hj1, hj2, hj3⟩ := info_parts Tryz.infoNamed
 have h1c : ∀ u ∈ clN [x], u.oneCell' = true := by
  intro u hu
  have hu' : u ∈ [Value.string x.1, .int .i64 x.2.1, .int .i64 x.2.2] := hu
  simp only [List.mem_cons, List.not_mem_nil, or_false] at hu'
  rcases hu' with rfl | rfl | rfl <;> rfl
 have hN0 := hN
 rcases hN.2 with ⟨rfl, h0⟩ | ⟨g, cap, cur, rfl, hBg, hg, hnc, hcm, hcs, htk⟩
 ·obtain rfl : ns = [] := List.eq_nil_of_length_eq_zero h0
  obtain ⟨v', w', hrun, r1, r2, _⟩ := run_append_own (P := Tryz.prog) V V.heap.size 129 ty 132 i1 (.agg #[.string ⟨#[]⟩, .int .i64 0, .int .i64 0]) 3 32 Tryz.underlying129 hj0 hj1 hj2 hj3 rfl (by decide) (.slice none 0 0) 0 [] (World.ownsRow_nil V _ _ _) ad 1 1 (clN [x]) rfl hc h1c (by unfold maxLen; omega) (by omega) (Nat.le_refl _)
  refine ⟨v', w', hrun, r2, ?_, fun w2 h2 h3 => ?_⟩
  ·show w'.ownsRow B 132 3 v' 1 (clN (x :: []).reverse)
   rw [clN_rev]
   exact own_mono r1 hB
  ·exact ⟨below_grown (new_back r2 r1 h2), NmP.nil B w2⟩
 ·by_cases hcp : ns.length < cap
  ·obtain ⟨w', hrun, r1, r2⟩ := run_append_fits (P := Tryz.prog) V B 129 ty 132 i1 3 Tryz.underlying129 hj0 hj2 g ns.length cap (clN ns.reverse) hN0 ad 1 1 (clN [x]) rfl hc h1c (by omega)
   refine ⟨_, w', hrun, r2, ?_, fun w2 h2 h3 => ?_⟩
   ·show w'.ownsRow B 132 3 _ (ns.length + 1) (clN (x :: ns).reverse)
    rw [clN_rev]
    exact r1
   ·refine ⟨grownBy_trans r2 h2, ⟨hN0.1, .inr ?_⟩⟩
    rcases h3.2 with ⟨e, _⟩ | ⟨g', cap', cur', e, q1, q2, q3, q4, q5, q6⟩
    ·cases e
    ·simp only [Value.slice.injEq, Option.some.injEq, Addr.mk.injEq, and_true, true_and] at e
     obtain ⟨rfl, _, rfl⟩ := e
     refine ⟨g, cap, cur', rfl, q1, q2, hnc, q4, q5, ?_⟩
     rw [clN_rev] at q6
     have q7 := congrArg (List.take (ns.length * 3)) q6
     have hl0 : (clN ns.reverse).length = ns.length * 3 := hN0.1
     rw [List.take_take, List.take_append_of_le_length (Nat.le_of_eq hl0.symm)] at q7
     rw [List.take_of_length_le (l := clN ns.reverse) (Nat.le_of_eq hl0)] at q7
     rw [← q7]
     congr 1
     simp only [List.length_cons]
     omega
  ·have hcell : ∀ j u, (clN ns.reverse)[j]? = some u → V.cell? ((⟨g, 0, none⟩ : Addr).add j) = some u := fun j u hu => by
    rw [← htk] at hu
    have hi : j < ns.length * 3 := by
     have := (List.getElem?_eq_some_iff.1 hu).1
     rw [List.length_take] at this
     omega
    rw [List.getElem?_take_of_lt hi] at hu
    rw [Addr.add_lit]
    simp only [World.cell?, hg, Nat.zero_add]
    simpa using hu
   obtain ⟨v', w', hrun, r1, r2⟩ := run_append_arg_grows (P := Tryz.prog) V 129 ty 132 i1 (.agg #[.string ⟨#[]⟩, .int .i64 0, .int .i64 0]) 3 32 Tryz.underlying129 hj0 hj1 hj2 hj3 rfl (by decide) ⟨g, 0, none⟩ ns.length cap (clN ns.reverse) hN0.1 hcell ad 1 1 (clN [x]) rfl hc (by omega) (by unfold maxLen; omega) (by omega)
   refine ⟨v', w', hrun, ⟨r2.os, r2.tape, r2.output, r2.size, fun k hk _ => r2.block k hk (by simp)⟩, ?_, fun w2 h2 h3 => ?_⟩
   ·show w'.ownsRow B 132 3 v' (ns.length + 1) (clN (x :: ns).reverse)
    rw [clN_rev]
    exact own_mono r1 hB
   ·have hb := new_back r2 r1 h2
    exact ⟨below_grown hb, hN0.below hb⟩
/-- one name more, as an operation -/
theorem op_names {B : Nat} {V : World} {nv : Value} {ns : List Nm} {x : Nm} {ad : Addr} {o : Oper} {a : Act} {K : Act → World → Prop} {Q : Exit → Act → World → Prop} (hN : NmP B V nv ns) (hB : B ≤ V.heap.size) (hn : ns.length ≤ 1000) (hc : ∀ j u, (clN [x])[j]? = some u → V.cell? (ad.add j) = some u) (p q : Operand) (hop : o.op = Op.call { callee := Callee.builtin Builtin.append, args := #[p, q], argTypes := #[129, 129] }) (hp : a.eval p = nv) (hq : a.eval q = .slice (some ad) 1 1)
  (hK : ∀ nv2 V2, V.grownBy V2 nv.ownBlock → NmP B V2 nv2 (x :: ns) → (∀ w', V2.grownBy w' nv2.ownBlock → NmP B w' nv2 (x :: ns) → V.grownBy w' nv.ownBlock ∧ NmP B w' nv ns) → K (a.put o.dst nv2) V2) : Oper.wp Tryz.prog o a V K Q := by
 obtain ⟨nv2, V2, hrun, r1, r2, r3⟩ := run_names hN hB hn hc o.type
 unfold Oper.wp
 simp [execOp, hop, resolve, invoke, builtin, hp, hq, hrun, Result.andThen]
 exact hK nv2 V2 r1 r2 r3

end Go.Proofs.YtgmmfpdekefamaaGreatDoor

namespace Go.Proofs.YtgmmfpdekefamaaGreatDoor
open Go.RowKit
set_option linter.unusedVariables false
set_option linter.unusedSimpArgs false
set_option maxRecDepth 100000

/-- a let on its way: what its name stands for lies in the block X -/
structure LtI (B : Nat) (W V : World) (nv : Value) (ns : List Nm) (X : Nat) (l : Nat) (b : Int) : Prop where
 le : B ≤ W.heap.size
 lt : ∀ k, nv.ownBlock = some k → B ≤ k ∧ k < W.heap.size
 grn : W.grownBy V nv.ownBlock
 nam : NmP B V nv ns
 sh : ShAt V X l b
 lo : W.heap.size < X
theorem LtI.bel {B : Nat} {W V : World} {nv : Value} {ns : List Nm} {X l : Nat} {b : Int} (h : LtI B W V nv ns X l b) : Below B W V := grown_below h.grn h.le fun k hk => (h.lt k hk).1
theorem LtI.after {B : Nat} {W V V' : World} {nv : Value} {ns : List Nm} {X l : Nat} {b : Int} (h : LtI B W V nv ns X l b) (hg : V.grownBy V' nv.ownBlock ∧ NmP B V' nv ns) : LtI B W V' nv ns X l b :=
 ⟨h.le, h.lt, grownBy_trans h.grn hg.1, hg.2, (hg.1.block _ h.sh.lt (fun e => by have := (h.lt _ e.symm).2; have := h.lo; omega)).trans h.sh, h.lo⟩
theorem LtI.below {B : Nat} {W V V' : World} {nv : Value} {ns : List Nm} {X l : Nat} {b : Int} (h : LtI B W V nv ns X l b) (hb : Below V.heap.size V V') : LtI B W V' nv ns X l b := h.after ⟨below_grown hb, h.nam.below hb⟩
theorem sh_grown {B : Nat} {W V V' : World} {nv : Value} {l' b' : Int} (h : ∀ k, nv.ownBlock = some k → B ≤ k ∧ k < W.heap.size) (hg : V.grownBy V' nv.ownBlock) (hr : ShAt V W.heap.size l' b') : ShAt V' W.heap.size l' b' :=
 (hg.block _ hr.lt (fun e => by have := (h _ e.symm).2; omega)).trans hr
theorem LtI.put {B : Nat} {W V : World} {nv : Value} {ns : List Nm} {X l : Nat} {b : Int} (h : LtI B W V nv ns X l b) (l' b' : Int) : LtI B W (putS V W.heap.size l' b') nv ns X l b := by
 have hb : Below W.heap.size V (putS V W.heap.size l' b') := below_putS (Below.refl _ _) (Nat.le_refl _) l' b'
 refine ⟨h.le, h.lt, ⟨hb.os.trans h.grn.os, hb.tape.trans h.grn.tape, hb.output.trans h.grn.output, Nat.le_trans h.grn.size hb.size, fun k hk hr => (hb.block k hk).trans (h.grn.block k hk hr)⟩, own_blockT h.nam fun b hb2 => hb.block b (h.lt b hb2).2, h.sh.other (by have := h.lo; omega) l' b', h.lo⟩
theorem GotKp.form {B : Nat} {an at' : Addr} {W w' : World} {nv : Value} {ns : List Nm} {r : CkR} {e : Ending} (h : GotKp B an at' W nv ns r e w') : ∃ (l : Nat) (b : Int) (er : Value), e = .returned (.tuple #[.agg #[.int .i64 l, .int .i64 b], er]) ∧ W.grownBy w' nv.ownBlock ∧ NmP B w' nv ns ∧ Hid ((r = .ok (l, b) ∧ er = .nilIface) ∨ ∃ c, r = .error c ∧ er = errV an at' c) := by
 obtain ⟨h1, h2, ⟨s, h3, rfl⟩ | ⟨c, u, h3, rfl⟩⟩ := h
 ·exact ⟨s.1, s.2, _, rfl, h1, h2, .inl ⟨h3, rfl⟩⟩
 ·exact ⟨u.1, u.2, _, rfl, h1, h2, .inr ⟨c, h3, rfl⟩⟩

def bndC (R : CkR) (F : Sh → CkR) : CkR := match R with
 | .error c => .error c
 | .ok s0 => F s0

set_option maxHeartbeats 16000000 in
theorem pse_let {B : Nat} {an at' : Addr} {W : World} {C b : Nat} {tx : ByteArray} {g off kc : Nat} {u0 u1 nv : Value} {args : List Sh} {ns : List Nm} {R0 : CkR} {F : Sh → CkR} (hE : ShE B W C args an at') (hN : NmP B W nv ns) (hn : ns.length ≤ 900) (hb : b < B) (e0 : W.cell? ⟨b, 0, none⟩ = some (.int .i64 5)) (e2 : W.cell? ⟨b, 2, none⟩ = some (.string tx)) (e3 : W.cell? ⟨b, 3, none⟩ = some (.slice (some ⟨g, off, none⟩) 2 kc)) (hg : g < B) (c0 : W.cell? ⟨g, off, none⟩ = some u0) (c1 : W.cell? ⟨g, off + 1, none⟩ = some u1)
  (H0 : Hid (∀ V, Below B W V → NmP B V nv ns → Calls Tryz.prog 37 #[.pointer (some ⟨C, 0, none⟩), u0, nv] V (GotKp B an at' V nv ns R0)))
  (H1 : Hid (∀ V nv2 s0, R0 = .ok s0 → Below B W V → NmP B V nv2 ((tx, s0) :: ns) → Calls Tryz.prog 37 #[.pointer (some ⟨C, 0, none⟩), u1, nv2] V (GotKp B an at' V nv2 ((tx, s0) :: ns) (F s0)))) :
  Calls Tryz.prog 37 #[.pointer (some ⟨C, 0, none⟩), .pointer (some ⟨b, 0, none⟩), nv] W (GotKp B an at' W nv ns (bndC R0 F)) := by
 have HI : Hid (PkI B W (W.alloc (.cells #[.int .i64 0, .int .i64 0] 89)) nv ns (.slice none 0 0) []) := PkI.new hE.le hN
 have hle := hE.le
 have hbW : b < W.heap.size := Nat.lt_of_lt_of_le hb hle
 have hgW : g < W.heap.size := Nat.lt_of_lt_of_le hg hle
 have HC : Hid (Calls Tryz.prog 37 #[.pointer (some ⟨C, 0, none⟩), u0, nv] (W.alloc (.cells #[.int .i64 0, .int .i64 0] 89)) (GotKp B an at' (W.alloc (.cells #[.int .i64 0, .int .i64 0] 89)) nv ns R0)) := H0.out _ HI.out.bel HI.out.nam
 have HXW : Hid (W.cell? ⟨b, 2, none⟩ = some (.string tx) ∧ W.cell? ⟨b, 3, none⟩ = some (.slice (some ⟨g, off, none⟩) 2 kc) ∧ W.cell? ⟨g, off + 1, none⟩ = some u1) := ⟨e2, e3, c1⟩
 have HHE : Hid (b < B ∧ g < B ∧ B ≤ W.heap.size ∧ ns.length ≤ 900) := ⟨hb, hg, hle, hn⟩
 clear hE hN H0
 go_enter Tryz.func37, Tryz.ntmps37
 go_wp2_with fail
 generalize W.alloc (.cells #[.int .i64 0, .int .i64 0] 89) = w1 at *
 go_at_call 37
 refine HC.out.mono ?_
 rintro e w6 ⟨hg6, hN6, hres⟩
 have HI6 : Hid (PkI B W w6 nv ns (.slice none 0 0) []) := HI.out.after hg6 hN6
 clear hg6 hN6 HC HI e0 e2 e3 c0 c1 hb hg hle hn hbW hgW
 rcases hres with ⟨s, hr, rfl⟩ | ⟨bb, u', hr, rfl⟩
 ·obtain ⟨ls, bs⟩ := s
  have HRF : Hid (bndC R0 F = F (ls, bs)) := by show _ = _; rw [hr]; rfl
  generalize bndC R0 F = RR at *
  have HR0 : Hid (R0 = .ok (ls, bs)) := hr
  have ha7 := alloc_below w6 (.cells #[.int .i64 (ls : Int), .int .i64 bs] 89)
  have h7 := HI6.out.below ha7
  have HS0 : Hid (LtI B W (w6.alloc (.cells #[.int .i64 (ls : Int), .int .i64 bs] 89)) nv ns w6.heap.size ls bs) := ⟨h7.le, h7.lt, h7.grn, h7.nam, ShAt.new w6 _ _, HI6.out.res.lt⟩
  have HRr : Hid (ShAt (w6.alloc (.cells #[.int .i64 (ls : Int), .int .i64 bs] 89)) W.heap.size 0 0) := h7.res
  clear hr ha7 h7 HI6
  unfold shV
  simp only at *
  go_wp2_with fail
  generalize w6.heap.size = X at *
  generalize w6.alloc (.cells #[.int .i64 (ls : Int), .int .i64 bs] 89) = w7 at *
  have HX : Hid (∀ w', LtI B W w' nv ns X ls bs → w'.cell? ⟨b, 2, none⟩ = some (.string tx) ∧ w'.cell? ⟨b, 3, none⟩ = some (.slice (some ⟨g, off, none⟩) 2 kc) ∧ w'.cell? ⟨g, off + 1, none⟩ = some u1 ∧ w'.cell? ⟨X, 0, none⟩ = some (.int .i64 (ls : Int)) ∧ w'.cell? ⟨X, 1, none⟩ = some (.int .i64 bs)) := fun w' h => ⟨(h.bel.cell (p := ⟨b, 2, none⟩) HHE.out.1).trans HXW.out.1, (h.bel.cell (p := ⟨b, 3, none⟩) HHE.out.1).trans HXW.out.2.1, (h.bel.cell (p := ⟨g, off + 1, none⟩) HHE.out.2.1).trans HXW.out.2.2, h.sh.c0, h.sh.c1⟩
  have hdr0 : Below w7.heap.size w7 w7.drew := below_drewG (Below.refl _ _) 1
  have hSd : LtI B W w7.drew nv ns X ls bs := HS0.out.below hdr0
  have hRd0 : ShAt w7.drew W.heap.size 0 0 := HRr.out.below hdr0 HRr.out.lt
  clear hdr0 HS0 HRr
  refine wp_region_held_drew (S := fun V => LtI B W V nv ns X ls bs) (by kernel_rfl) hSd (fun hHeld => ?_)
  clear hHeld
  generalize w7.drew = wd0 at hSd hRd0 ⊢
  refine wpAnyH_take (i := 0) (v := ?_) rfl (by kernel_rfl) (by kernel_rfl) (by kernel_rfl) (fun _ _ _ h => h) (Or.inl ⟨by rfl, ?_⟩) hSd ?_
  rotate_left
  ·(intro w9 hSw; obtain ⟨x0, x1, x2, x3, x4⟩ := HX.out w9 hSw; go_simp; first | done | with_reducible rfl)
  refine wpAnyH_take (i := 1) (v := ?_) rfl (by kernel_rfl) (by kernel_rfl) (by kernel_rfl) (fun _ _ _ h => h) (Or.inl ⟨by rfl, ?_⟩) hSd ?_
  rotate_left
  ·(intro w9 hSw; obtain ⟨x0, x1, x2, x3, x4⟩ := HX.out w9 hSw; go_simp; first | done | with_reducible rfl)
  refine wpAnyH_take (i := 2) (v := ?_) rfl (by kernel_rfl) (by kernel_rfl) (by kernel_rfl) (fun _ _ _ h => h) (Or.inl ⟨by rfl, ?_⟩) hSd ?_
  rotate_left
  ·(intro w9 hSw; obtain ⟨x0, x1, x2, x3, x4⟩ := HX.out w9 hSw; go_simp; first | done | with_reducible rfl)
  refine wpAnyH_take (i := 3) (v := ?_) rfl (by kernel_rfl) (by kernel_rfl) (by kernel_rfl) (fun _ _ _ h => h) (Or.inl ⟨by rfl, ?_⟩) hSd ?_
  rotate_left
  ·(intro w9 hSw; obtain ⟨x0, x1, x2, x3, x4⟩ := HX.out w9 hSw; go_simp; first | done | with_reducible rfl)
  refine wpAnyH_take (i := 4) (v := ?_) rfl (by kernel_rfl) (by kernel_rfl) (by kernel_rfl) (fun _ _ _ h => h) (Or.inl ⟨by rfl, ?_⟩) hSd ?_
  rotate_left
  ·(intro w9 hSw; obtain ⟨x0, x1, x2, x3, x4⟩ := HX.out w9 hSw; go_simp; first | done | with_reducible rfl)
  refine wpAnyH_take (i := 5) (v := ?_) rfl (by kernel_rfl) (by kernel_rfl) (by kernel_rfl) (fun _ _ _ h => h) (Or.inl ⟨by rfl, ?_⟩) hSd ?_
  rotate_left
  ·(intro w9 hSw; obtain ⟨x0, x1, x2, x3, x4⟩ := HX.out w9 hSw; go_simp; first | done | with_reducible rfl)
  refine wpAnyH_take (i := 6) (v := ?_) rfl (by kernel_rfl) (by kernel_rfl) (by kernel_rfl) (fun _ _ _ h => h) (Or.inl ⟨by rfl, ?_⟩) hSd ?_
  rotate_left
  ·(intro w9 hSw; obtain ⟨x0, x1, x2, x3, x4⟩ := HX.out w9 hSw; go_simp; first | done | with_reducible rfl)
  refine wpAnyH_take (i := 7) (v := ?_) rfl (by kernel_rfl) (by kernel_rfl) (by kernel_rfl) (fun _ _ _ h => h) (Or.inl ⟨by rfl, ?_⟩) hSd ?_
  rotate_left
  ·(intro w9 hSw; obtain ⟨x0, x1, x2, x3, x4⟩ := HX.out w9 hSw; go_simp; first | done | with_reducible rfl)
  refine wpAnyH_take (i := 8) (v := ?_) rfl (by kernel_rfl) (by kernel_rfl) (by kernel_rfl) (fun _ _ _ h => h) (Or.inl ⟨by rfl, ?_⟩) hSd ?_
  rotate_left
  ·(intro w9 hSw; obtain ⟨x0, x1, x2, x3, x4⟩ := HX.out w9 hSw; go_simp; first | done | with_reducible rfl)
  refine wpAnyH_take (i := 9) (v := ?_) rfl (by kernel_rfl) (by kernel_rfl) (by kernel_rfl) (fun _ _ _ h => h) (Or.inl ⟨by rfl, ?_⟩) hSd ?_
  rotate_left
  ·(intro w9 hSw; obtain ⟨x0, x1, x2, x3, x4⟩ := HX.out w9 hSw; go_simp; first | done | with_reducible rfl)
  refine wpAnyH_take (i := 10) (v := ?_) rfl (by kernel_rfl) (by kernel_rfl) (by kernel_rfl) (fun _ _ _ h => h) (Or.inl ⟨by rfl, ?_⟩) hSd ?_
  rotate_left
  ·(intro w9 hSw; obtain ⟨x0, x1, x2, x3, x4⟩ := HX.out w9 hSw; go_simp; first | done | with_reducible rfl)
  refine wpAnyH_take (i := 11) (v := ?_) rfl (by kernel_rfl) (by kernel_rfl) (by kernel_rfl) (fun _ _ _ h => h) (Or.inl ⟨by rfl, ?_⟩) hSd ?_
  rotate_left
  ·(intro w9 hSw; obtain ⟨x0, x1, x2, x3, x4⟩ := HX.out w9 hSw; go_simp; first | done | with_reducible rfl)
  refine wpAnyH_take (i := 12) (v := ?_) rfl (by kernel_rfl) (by kernel_rfl) (by kernel_rfl) (fun _ _ _ h => h) (Or.inl ⟨by rfl, ?_⟩) hSd ?_
  rotate_left
  ·(intro w9 hSw; obtain ⟨x0, x1, x2, x3, x4⟩ := HX.out w9 hSw; go_simp; first | done | with_reducible rfl)
  refine wpAnyH_take (i := 13) (v := ?_) rfl (by kernel_rfl) (by kernel_rfl) (by kernel_rfl) (fun _ _ _ h => h) (Or.inl ⟨by rfl, ?_⟩) hSd ?_
  rotate_left
  ·(intro w9 hSw; obtain ⟨x0, x1, x2, x3, x4⟩ := HX.out w9 hSw; go_simp; first | done | with_reducible rfl)
  simp only [Act.put, List.getElem_toArray, List.getElem_cons_succ, List.getElem_cons_zero, List.setIfInBounds_toArray, List.set_cons_zero, List.set_cons_succ]
  refine wpAnyH_ready (rs := [14]) (by kernel_rfl) (by simp) ?_
  refine AllReadyH.cons rfl (fun K hK => ?_) AllReadyH.nil
  go_simp
  have hbd1 := alloc_below wd0 (.cells #[.string tx, .int .i64 (ls : Int), .int .i64 bs] 132)
  have hcY : ∀ j u, (clN [(tx, (ls, bs))])[j]? = some u → (wd0.alloc (.cells #[.string tx, .int .i64 (ls : Int), .int .i64 bs] 132)).cell? ((⟨wd0.heap.size, 0, none⟩ : Addr).add j) = some u := World.news_of_block (allocAtA wd0 (.cells #[.string tx, .int .i64 (ls : Int), .int .i64 bs] 132))
  have hSd1 : LtI B W (wd0.alloc (.cells #[.string tx, .int .i64 (ls : Int), .int .i64 bs] 132)) nv ns X ls bs := hSd.below hbd1
  have hRd1 : ShAt (wd0.alloc (.cells #[.string tx, .int .i64 (ls : Int), .int .i64 bs] 132)) W.heap.size 0 0 := hRd0.below hbd1 hRd0.lt
  refine hK.out _ _ hSd1 (fun hHeld => ?_)
  clear hK K hHeld hbd1 hSd hRd0
  generalize wd0.heap.size = Y at hcY ⊢
  generalize wd0.alloc (.cells #[.string tx, .int .i64 (ls : Int), .int .i64 bs] 132) = wd1 at hcY hSd1 hRd1 ⊢
  refine wpAnyH_ready (rs := [15]) (by kernel_rfl) (by simp) ?_
  refine AllReadyH.cons rfl (fun K hK => ?_) AllReadyH.nil
  rw [if_pos (by kernel_rfl)]
  refine op_names (x := (tx, (ls, bs))) hSd1.nam (Nat.le_trans HHE.out.2.2.1 hSd1.grn.size) (by have := HHE.out.2.2.2; omega) hcY (.tmp 89) (.tmp 96) rfl rfl rfl ?_
  intro nv2 wd2 hg2 hN2 hback
  have hb2 := hback wd2 (World.grownBy.refl _ _) hN2
  have hSd2 : LtI B W wd2 nv ns X ls bs := hSd1.after hb2
  have HC1 : Hid (Calls Tryz.prog 37 #[.pointer (some ⟨C, 0, none⟩), u1, nv2] wd2 (GotKp B an at' wd2 nv2 ((tx, (ls, bs)) :: ns) (F (ls, bs)))) := H1.out wd2 nv2 (ls, bs) HR0.out hSd2.bel hN2
  refine hK.out _ _ hSd2 (fun hHeld => ?_)
  clear hK K hHeld hcY hb2
  simp only [Act.put, List.getElem_toArray, List.getElem_cons_succ, List.getElem_cons_zero, List.setIfInBounds_toArray, List.set_cons_zero, List.set_cons_succ]
  refine wpAnyH_ready (rs := [16]) (by kernel_rfl) (by simp) ?_
  refine AllReadyH.cons rfl (fun K hK => ?_) AllReadyH.nil
  go_simp
  go_wp2_with (go_at_call 37; refine HC1.out.mono ?_; rintro e wd3 hGot; obtain ⟨lu, bu, er, rfl, hg3, hN3, HRes⟩ := hGot.form)
  have hb3 := hback wd3 hg3 hN3
  have hSd3 : LtI B W wd3 nv ns X ls bs := hSd1.after hb3
  have hRd3 : ShAt wd3 W.heap.size 0 0 := sh_grown hSd1.lt hb3.1 hRd1
  refine hK.out _ _ hSd3 (fun hHeld => ?_)
  clear hK K hHeld hGot hb3 hg3 hN3 hback hg2 hN2 hSd2 hSd1 hRd1 HC1
  refine wpAnyH_take (i := 17) (v := ?_) rfl (by kernel_rfl) (by kernel_rfl) (by kernel_rfl) (fun _ _ _ h => h) (Or.inl ⟨by rfl, ?_⟩) hSd3 ?_
  rotate_left
  ·(intro w9 hSw; obtain ⟨x0, x1, x2, x3, x4⟩ := HX.out w9 hSw; go_simp; first | done | with_reducible rfl)
  refine wpAnyH_take (i := 18) (v := ?_) rfl (by kernel_rfl) (by kernel_rfl) (by kernel_rfl) (fun _ _ _ h => h) (Or.inl ⟨by rfl, ?_⟩) hSd3 ?_
  rotate_left
  ·(intro w9 hSw; obtain ⟨x0, x1, x2, x3, x4⟩ := HX.out w9 hSw; go_simp; first | done | with_reducible rfl)
  simp only [Act.put, List.getElem_toArray, List.getElem_cons_succ, List.getElem_cons_zero, List.setIfInBounds_toArray, List.set_cons_zero, List.set_cons_succ]
  have r0 := hRd3.c0
  have r1 := hRd3.c1
  have f0 := hRd3.fz 0
  have f1 := hRd3.fz 1
  have rr := hRd3.lt
  refine wpAnyH_ready (rs := [19]) (by kernel_rfl) (by simp) ?_
  refine AllReadyH.cons rfl (fun K hK => ?_) AllReadyH.nil
  go_simp
  have hSd4 : LtI B W (putS wd3 W.heap.size lu bu) nv ns X ls bs := hSd3.put lu bu
  have hRd4 : ShAt (putS wd3 W.heap.size lu bu) W.heap.size lu bu := hRd3.put lu bu
  change K _ (putS wd3 W.heap.size lu bu)
  refine hK.out _ _ hSd4 (fun hHeld => ?_)
  clear hK K hHeld r0 r1 f0 f1 rr
  generalize putS wd3 W.heap.size lu bu = wd4 at hSd4 hRd4 ⊢
  refine wpAnyH_take (i := 20) (v := ?_) rfl (by kernel_rfl) (by kernel_rfl) (by kernel_rfl) (fun _ _ _ h => h) (Or.inl ⟨by rfl, ?_⟩) hSd4 ?_
  rotate_left
  ·(intro w9 hSw; obtain ⟨x0, x1, x2, x3, x4⟩ := HX.out w9 hSw; go_simp; first | done | with_reducible rfl)
  simp only [Act.put, List.getElem_toArray, List.getElem_cons_succ, List.getElem_cons_zero, List.setIfInBounds_toArray, List.set_cons_zero, List.set_cons_succ]
  refine wpAnyH_done (by kernel_rfl) ?_ _
  have s0 := hRd4.c0
  have s1 := hRd4.c1
  have HG : Hid (GotKp B an at' W nv ns RR (.returned (.tuple #[.agg #[.int .i64 lu, .int .i64 bu], er])) wd4) := by
   rw [HRF.out]
   rcases HRes.out with ⟨h1, rfl⟩ | ⟨c, h1, rfl⟩
   ·exact GotKp.yes (s := (lu, bu)) h1 hSd4.grn hSd4.nam
   ·exact GotKp.no (lu, bu) h1 hSd4.grn hSd4.nam
  clear HX
  go_wp2
  refine bodyPost_ret (v := .tuple #[.agg #[.int .i64 lu, .int .i64 bu], er]) ?_ rfl ?_
  ·simp [results, go_sem, s0, s1]
  ·exact HG.out
 ·have HRF : Hid (bndC R0 F = .error bb) := by show _ = _; rw [hr]; rfl
  generalize bndC R0 F = RR at *
  obtain ⟨lu, bu⟩ := u'
  unfold shV
  have hev : errV an at' bb = .iface 294 (.pointer (some (if bb = true then an else at'))) := rfl
  have HEV : Hid (.iface 294 (.pointer (some (if bb = true then an else at'))) = errV an at' bb) := rfl
  rw [hev]
  generalize (if bb = true then an else at') = av' at *
  have hb6 : Below W.heap.size w6 (putS w6 W.heap.size 0 0) := below_putS (Below.refl _ _) (Nat.le_refl _) 0 0
  have ha7 := alloc_below (putS w6 W.heap.size 0 0) (.cells #[.int .i64 (lu : Int), .int .i64 bu] 89)
  have hTW2 : ShAt ((putS w6 W.heap.size 0 0).alloc (.cells #[.int .i64 (lu : Int), .int .i64 bu] 89)) W.heap.size 0 0 := (HI6.out.res.put 0 0).below ha7 (HI6.out.res.put 0 0).lt
  have HG : Hid (GotKp B an at' W nv ns RR (.returned (.tuple #[shV (0, 0), .iface 294 (.pointer (some av'))])) ((putS w6 W.heap.size 0 0).alloc (.cells #[.int .i64 (lu : Int), .int .i64 bu] 89))) := by
   rw [HRF.out]
   obtain ⟨o1, o2⟩ := HI6.out.out (hb6.trans (ha7.mono (Nat.le_trans (Nat.le_of_lt HI6.out.res.lt) hb6.size)))
   rw [HEV.out]
   exact GotKp.no (0, 0) rfl o1 o2
  have s0 := hTW2.c0
  have s1 := hTW2.c1
  have r0 := HI6.out.res.c0
  have r1 := HI6.out.res.c1
  have f0 := HI6.out.res.fz 0
  have f1 := HI6.out.res.fz 1
  have rr := HI6.out.res.lt
  generalize hVV : putS w6 W.heap.size 0 0 = VV at s0 s1 HG
  have HW : Hid (putS w6 W.heap.size 0 0 = VV) := hVV
  clear hev HEV hTW2 ha7 hb6 hr HI6 HRF hVV
  go_wp2
  have hW := HW.out
  unfold putS at hW
  rw [hW]
  generalize VV.alloc (.cells #[.int .i64 (lu : Int), .int .i64 bu] 89) = W2 at *
  refine bodyPost_ret (v := .tuple #[shV (0, 0), .iface 294 (.pointer (some av'))]) ?_ rfl ?_
  ·simp [results, go_sem, s0, s1, shV]
  ·exact HG.out

end Go.Proofs.YtgmmfpdekefamaaGreatDoor
