/- Texts of the proof, put together: QTys, QShf, QRun, QNum. -/
import Derived.Test.YtgmmfpdekefamaaGreatDoorAt17
import Derived.Test.YtgmmfpdekefamaaGreatDoorAt06
import Derived.Shelf.LaysC
import Derived.Shelf.Strconv.ParseIntPublic10
import Derived.Shelf.Strings.Prefix
import Derived.Shelf.Unicode.DecodeAny
import Derived.Shelf.Utf8.AppendRunePlain
import Derived.Test.YtgmmfpdekefamaaGreatDoorProg
import Derived.Test.YtgmmfpdekefamaaGreatDoorAt31
import Derived.Test.YtgmmfpdekefamaaGreatDoorAt12
import Derived.Test.YtgmmfpdekefamaaGreatDoorAt03
import Derived.Deep.RegionHeld3
import Derived.Deep.LoopGhost
import Derived.Test.YtgmmfpdekefamaaGreatDoorAt04
import Derived.Lib.ParseIntB
namespace Go.Proofs.YtgmmfpdekefamaaGreatDoor
open Go.RowKit
set_option linter.unusedVariables false
set_option linter.unusedSimpArgs false
set_option maxRecDepth 100000

/-- the type that a number stands for -/
def tySh (z : Int) : Sh := ((z.tmod 16).natAbs / 4 + (if (z.tmod 16).natAbs % 4 = 0 then 1 else 0), if (z.tmod 16).natAbs % 4 = 0 then 0 else if (z.tmod 16).natAbs % 4 = 1 then 1 else if (z.tmod 16).natAbs % 4 = 2 then 2 else 4)
theorem tmod_lt (z : Int) : (z.tmod 16).natAbs < 16 := by
 have h := Int.natAbs_tmod z 16
 rw [h]
 exact Nat.mod_lt _ (by decide)
theorem num_parts (z : Int) : ∃ n m r : Nat, (z.tmod 16).natAbs = n ∧ n % 4 = r ∧ n / 4 = m ∧ r < 4 ∧ m < 4 ∧ ((n : Int)).tmod 4 = (r : Int) ∧ wrap64 (((n : Int)).tdiv 4) = (m : Int) ∧ wrap64 ((n : Int) / 4) = (m : Int) ∧ (z.tmod 16 = (n : Int) ∨ (z.tmod 16 < 0 ∧ wrap64 (-z.tmod 16) = (n : Int))) := by
 have h := tmod_lt z
 generalize z.tmod 16 = y at *
 have hd : y.natAbs / 4 < 4 := by omega
 have e1 : ((y.natAbs : Nat) : Int).tmod 4 = ((y.natAbs % 4 : Nat) : Int) := (Int.ofNat_tmod y.natAbs 4).symm
 have e2 : ((y.natAbs : Nat) : Int).tdiv 4 = ((y.natAbs / 4 : Nat) : Int) := (Int.ofNat_tdiv y.natAbs 4).symm
 have e3 : ((y.natAbs : Nat) : Int) / 4 = ((y.natAbs / 4 : Nat) : Int) := rfl
 refine ⟨y.natAbs, y.natAbs / 4, y.natAbs % 4, rfl, rfl, rfl, Nat.mod_lt _ (by decide), hd, e1, ?_, ?_, ?_⟩
 ·rw [e2]; unfold wrap64; omega
 ·rw [e3]; unfold wrap64; omega
 ·by_cases hy : y < 0
  ·right
   have e : -y = (y.natAbs : Int) := by omega
   refine ⟨hy, ?_⟩
   rw [e]
   unfold wrap64
   omega
  ·left; omega
theorem tySh_le (z : Int) : (tySh z).1 ≤ 4 := by
 have h := tmod_lt z
 unfold tySh
 simp only
 split <;> omega
theorem tySh_ok (z : Int) : OkS (tySh z) := by
 unfold tySh OkS
 simp only
 split
 ·right; right; right; omega
 ·split
  ·left; rfl
  ·split
   ·right; left; rfl
   ·right; right; left; rfl
/-- one type on its way: so many lists stand around what is made -/
structure TtI (W V : World) (d : Nat) (b k : Int) (q : Option Addr) : Prop where
 bel : Below W.heap.size W V
 t : TyAt V W.heap.size k q
 ty : TyM (fun g => W.heap.size + 1 ≤ g) V d b (.agg #[.int .i64 k, .pointer q])
theorem putY_blockT (w : World) (D B : Nat) (k : Int) (q : Option Addr) (hD : B ≠ D) : (putY w D k q).heap[B]? = w.heap[B]? :=
 (heap_setCell_other _ ⟨D, 1, none⟩ B _ hD).trans (heap_setCell_other w ⟨D, 0, none⟩ B _ hD)
theorem putY_sizeT (w : World) (D : Nat) (k : Int) (q : Option Addr) : (putY w D k q).heap.size = w.heap.size := by simp [putY]
theorem TtI.step {W V : World} {d : Nat} {b k : Int} {q : Option Addr} (h : TtI W V d b k q) : TtI W ((putY V W.heap.size 3 (some ⟨V.heap.size, 0, none⟩)).alloc (.cells #[.int .i64 k, .pointer q] 44)) (d + 1) b 3 (some ⟨V.heap.size, 0, none⟩) := by
 have ha := alloc_below (putY V W.heap.size 3 (some ⟨V.heap.size, 0, none⟩)) (.cells #[.int .i64 k, .pointer q] 44)
 have hsz := putY_sizeT V W.heap.size 3 (some ⟨V.heap.size, 0, none⟩)
 have hlt := h.t.lt
 have n1 := TyAt.new (putY V W.heap.size 3 (some ⟨V.heap.size, 0, none⟩)) k q
 rw [hsz] at n1
 have hb1 : Below W.heap.size W (putY V W.heap.size 3 (some ⟨V.heap.size, 0, none⟩)) := belowSetA (belowSetA h.bel (Nat.le_refl _) _ _) (Nat.le_refl _) _ _
 have g3 : TyAt (putY V W.heap.size 3 (some ⟨V.heap.size, 0, none⟩)) W.heap.size 3 (some ⟨V.heap.size, 0, none⟩) := h.t.put _ _
 refine ⟨hb1.trans (ha.mono hb1.size), g3.below ha g3.lt, ?_⟩
 refine .inr ⟨V.heap.size, k, q, rfl, by omega, n1, ?_⟩
 exact h.ty.moved fun g hg hk => ⟨hk, (ha.block g (by omega)).trans (putY_blockT _ _ _ _ _ (by have : W.heap.size + 1 ≤ g := hk; omega))⟩
/-- the list of types on its way -/
structure TyO (W V : World) (lv : Value) (us : List Value) (acc : List Sh) : Prop where
 bel : Below W.heap.size W V
 own : V.ownsRow W.heap.size 44 2 lv acc.length us
 typ : ∀ j, j < acc.length → ∃ q, us[j * 2]? = some (.int .i64 (kd (acc.getD j noS))) ∧ us[j * 2 + 1]? = some (.pointer q) ∧ TyA (fun g => W.heap.size ≤ g ∧ lv.ownBlock ≠ some g) V (acc.getD j noS) (.agg #[.int .i64 (kd (acc.getD j noS)), .pointer q])
theorem TyO.new (W : World) : TyO W W (.slice none 0 0) [] [] := ⟨Below.refl _ _, ⟨rfl, .inl ⟨rfl, rfl⟩⟩, fun j hj => by simp at hj⟩
theorem TyO.after {W V V' : World} {lv : Value} {us : List Value} {acc : List Sh} (h : TyO W V lv us acc) (hb : Below V.heap.size V V') : TyO W V' lv us acc := by
 refine ⟨h.bel.trans (hb.mono h.bel.size), own_blockT h.own fun b hb2 => hb.block b (h.own.lt b hb2).2, fun j hj => ?_⟩
 obtain ⟨q, e1, e2, e3⟩ := h.typ j hj
 exact ⟨q, e1, e2, e3.below hb⟩
theorem TyO.tys {W V : World} {lv : Value} {us : List Value} {acc : List Sh} (h : TyO W V lv us acc) : TysR (fun g => W.heap.size ≤ g) V lv acc := by
 have hown := h.own
 rcases h.own.2 with ⟨rfl, h0⟩ | ⟨g, cap, cur, rfl, h1, h2, _⟩
 ·exact ⟨none, 0, by rw [h0], .inl (List.eq_nil_of_length_eq_zero h0)⟩
 ·refine ⟨_, cap, rfl, .inr ⟨g, 0, rfl, (Array.getElem?_eq_some_iff.1 h2).1, fun j hj => ?_⟩⟩
  obtain ⟨q, e1, e2, e3⟩ := h.typ j hj
  have c1 := own_cellsT hown _ _ e1
  have c2 := own_cellsT hown _ _ e2
  exact ⟨_, q, c1, by rw [← Nat.add_assoc] at c2; exact c2, e3.imp fun g _ hk => hk.1⟩
theorem TyO.put {W V w9 : World} {lv : Value} {us : List Value} {acc : List Sh} {s : Sh} {k : Int} {q : Option Addr} {o1 : Obj} {g cap n : Nat} (h : TyO W V lv us acc) (hn : acc.length = n) (ht : TyA (fun g => W.heap.size ≤ g ∧ lv.ownBlock ≠ some g) V s (.agg #[.int .i64 k, .pointer q]))
  (hown : w9.ownsRow W.heap.size 44 2 (.slice (some ⟨g, 0, none⟩) (n + 1) cap) (n + 1) (us ++ [.int .i64 k, .pointer q])) (hg : (V.alloc o1).grownBy w9 lv.ownBlock) (hat : lv.ownBlock = some g ∨ g = (V.alloc o1).heap.size) :
  TyO W w9 (.slice (some ⟨g, 0, none⟩) (n + 1) cap) (us ++ [.int .i64 k, .pointer q]) (acc ++ [s]) := by
 subst hn
 obtain rfl := ht.kd
 have hs2 : (V.alloc o1).heap.size = V.heap.size + 1 := by rw [alloc_size]
 have hb2 : Below V.heap.size V (V.alloc o1) := alloc_below V o1
 have hsz : V.heap.size ≤ w9.heap.size := Nat.le_trans hb2.size hg.size
 have hold : ∀ b, b < V.heap.size → lv.ownBlock ≠ some b → w9.heap[b]? = V.heap[b]? := fun b hb hne =>
  (hg.block b (by omega) (fun e => hne e.symm)).trans (hb2.block b hb)
 have hlt := fun b (hb : lv.ownBlock = some b) => h.own.lt b hb
 have hne : ∀ b, b < W.heap.size → lv.ownBlock ≠ some b := fun b hb e => by have := (hlt b e).1; omega
 have hbel : Below W.heap.size W w9 := ⟨hg.os.trans (hb2.os.trans h.bel.os), hg.tape.trans (hb2.tape.trans h.bel.tape), hg.output.trans (hb2.output.trans h.bel.output), Nat.le_trans h.bel.size hsz, fun b hb => (hold b (Nat.lt_of_lt_of_le hb h.bel.size) (hne b (by omega))).trans (h.bel.block b hb)⟩
 have hmv : ∀ {s' : Sh} {v : Value}, TyA (fun g => W.heap.size ≤ g ∧ lv.ownBlock ≠ some g) V s' v → TyA (fun b => W.heap.size ≤ b ∧ (Value.slice (some ⟨g, 0, none⟩) (acc.length + 1) cap).ownBlock ≠ some b) w9 s' v := fun ht => by
  refine ht.moved fun b hb hk => ⟨⟨hk.1, fun e => ?_⟩, hold b hb hk.2⟩
  have e2 : g = b := by simpa [Value.ownBlock] using e
  rcases hat with e3 | e3
  ·exact hk.2 (by rw [e3, e2])
  ·omega
 refine ⟨hbel, by simpa using hown, fun j hj => ?_⟩
 have hul : us.length = acc.length * 2 := h.own.1
 by_cases hj2 : j < acc.length
 ·obtain ⟨q', e1, e2, e3⟩ := h.typ j hj2
  have e : (acc ++ [s]).getD j noS = acc.getD j noS := by simp [List.getD_eq_getElem?_getD, List.getElem?_append_left hj2]
  rw [e]
  exact ⟨q', by rw [List.getElem?_append_left (by omega)]; exact e1, by rw [List.getElem?_append_left (by omega)]; exact e2, hmv e3⟩
 ·obtain rfl : j = acc.length := by simp at hj; omega
  have e : (acc ++ [s]).getD acc.length noS = s := by simp
  rw [e]
  refine ⟨q, ?_, ?_, hmv ht⟩
  ·rw [List.getElem?_append_right (by omega), hul]; simp
  ·rw [List.getElem?_append_right (by omega), hul]; simp

set_option maxHeartbeats 32000000 in
theorem typesof_any {W : World} {zs : List Int} {v : Value} (h : IntsR W v zs) (hn : zs.length ≤ 20) : Calls Tryz.prog 16 #[v] W fun e w' => ∃ lv, e = .returned lv ∧ Below W.heap.size W w' ∧ TysR (fun g => W.heap.size ≤ g) w' lv (zs.map tySh) := by
 obtain ⟨a0, c0, rfl⟩ := h.slice
 obtain ⟨i1, hj0, hj1, hj2, hj3⟩ := info_parts Tryz.infoTy
 have HZ : Hid (IntsR W (.slice a0 zs.length c0) zs) := h
 have HO : Hid (TyO W W (.slice none 0 0) [] ((zs.map tySh).take 0)) := TyO.new W
 clear h
 go_enter Tryz.func16, Tryz.ntmps16
 go_wp2
 go_loopw [3, 4] (fun lv iv wr => ∃ (i : Nat) (us : List Value) (a : Option Addr) (c : Nat), iv = .int .i64 i ∧ lv = .slice a i c ∧ i ≤ zs.length ∧ Hid (TyO W wr (.slice a i c) us ((zs.map tySh).take i))) (fun _ iv _ => zs.length - (intOf iv).toNat)
 case atStart => exact ⟨0, [], none, 0, rfl, rfl, Nat.zero_le _, HO⟩
 case round =>
  clear HO
  obtain ⟨i, us, a, c, rfl, rfl, hil, HOr⟩ := hrel
  by_cases hlt : i < zs.length
  ·have hltI : (i : Int) < (zs.length : Int) := by omega
   obtain ⟨g, off, rfl, hg, cz⟩ := HZ.out.at hlt
   have hbr := HOr.out.bel
   have dz := (hbr.cell (p := ⟨g, off + i, none⟩) hg).trans cz
   have hgl : g < wr.heap.size := Nat.lt_of_lt_of_le hg hbr.size
   have HTk : Hid ((zs.map tySh).take (i + 1) = (zs.map tySh).take i ++ [tySh (zs.getD i 0)] ∧ ((zs.map tySh).take i).length = i) := by
    refine ⟨?_, by rw [List.length_take, List.length_map]; omega⟩
    rw [List.take_succ_eq_append_getElem (by simpa using hlt)]
    simp [List.getD, hlt]
   generalize zs.getD i 0 = z at *
   have hzl := tmod_lt z
   have HV : Hid (tySh z = ((z.tmod 16).natAbs / 4 + (if (z.tmod 16).natAbs % 4 = 0 then 1 else 0), if (z.tmod 16).natAbs % 4 = 0 then 0 else if (z.tmod 16).natAbs % 4 = 1 then 1 else if (z.tmod 16).natAbs % 4 = 2 then 2 else 4)) := rfl
   generalize tySh z = sz at *
   clear hbr cz
   obtain ⟨w0, hw0⟩ : ∃ w0, w0 = wr := ⟨_, rfl⟩
   subst hw0
   obtain ⟨n, m, r, hn16, hr', hm', hr4, hm4, hT4, hQ4, hQ5, hcs⟩ := num_parts z
   rw [hn16, hr', hm'] at HV
   clear hn16 hr' hm' hzl
   rcases hcs with hcs | ⟨hcn, hcs⟩ <;> obtain rfl | rfl | rfl | rfl : r = 0 ∨ r = 1 ∨ r = 2 ∨ r = 3 := by omega
   all_goals
    first
     | (have HT0 : Hid (TtI w0 (w0.alloc (.cells #[.int .i64 3, .pointer none] 44)) 1 sz.2 3 none ∧ 1 + m = sz.1) := ⟨⟨alloc_below w0 _, TyAt.new w0 _ _, by rw [HV.out]; exact .inl ⟨rfl, rfl, rfl⟩⟩, by rw [HV.out]; simp; try omega⟩; clear HV; go_wp2; generalize w0.alloc (.cells #[.int .i64 3, .pointer none] 44) = w2 at *)
     | (have HT0 : Hid (TtI w0 (w0.alloc (.cells #[.int .i64 1, .pointer none] 44)) 0 sz.2 1 none ∧ 0 + m = sz.1) := ⟨⟨alloc_below w0 _, TyAt.new w0 _ _, by rw [HV.out]; exact ⟨rfl, by simp⟩⟩, by rw [HV.out]; simp; try omega⟩; clear HV; go_wp2; generalize w0.alloc (.cells #[.int .i64 1, .pointer none] 44) = w2 at *)
     | (have HT0 : Hid (TtI w0 (w0.alloc (.cells #[.int .i64 2, .pointer none] 44)) 0 sz.2 2 none ∧ 0 + m = sz.1) := ⟨⟨alloc_below w0 _, TyAt.new w0 _ _, by rw [HV.out]; exact ⟨rfl, by simp⟩⟩, by rw [HV.out]; simp; try omega⟩; clear HV; go_wp2; generalize w0.alloc (.cells #[.int .i64 2, .pointer none] 44) = w2 at *)
     | (have HT0 : Hid (TtI w0 (w0.alloc (.cells #[.int .i64 4, .pointer none] 44)) 0 sz.2 4 none ∧ 0 + m = sz.1) := ⟨⟨alloc_below w0 _, TyAt.new w0 _ _, by rw [HV.out]; exact ⟨rfl, by simp⟩⟩, by rw [HV.out]; simp; try omega⟩; clear HV; go_wp2; generalize w0.alloc (.cells #[.int .i64 4, .pointer none] 44) = w2 at *)
    go_loopw [7] (fun kv wr => ∃ (j d : Nat) (k : Int) (q : Option Addr), kv = .int .i64 j ∧ j ≤ m ∧ Hid (d + j = sz.1) ∧ Hid (TtI w0 wr d sz.2 k q)) (fun kv _ => (intOf kv).toNat)
    case atStart => exact ⟨m, _, _, _, by rw [hQ5], Nat.le_refl _, HT0.out.2, HT0.out.1⟩
    case round =>
     clear HT0
     obtain ⟨j, d, k, q, rfl, hjm, HD, HTr⟩ := hrel
     have t0 := HTr.out.t.c0
     have t1 := HTr.out.t.c1
     have tz0 := HTr.out.t.fz 0
     have tz1 := HTr.out.t.fz 1
     have tl := HTr.out.t.lt
     by_cases hj0' : 0 < j
     ·obtain ⟨j', rfl⟩ : ∃ j', j = j' + 1 := ⟨j - 1, by omega⟩
      have hjI : (0 : Int) < ((j' + 1 : Nat) : Int) := by omega
      have hwj : IntKind.i64.wrap (((j' + 1 : Nat) : Int) - 1) = (j' : Int) := by rw [IntKind.wrap_i64]; omega
      have HIn : Hid (TtI w0 ((putY wr w0.heap.size 3 (some ⟨wr.heap.size, 0, none⟩)).alloc (.cells #[.int .i64 k, .pointer q] 44)) (d + 1) sz.2 3 (some ⟨wr.heap.size, 0, none⟩)) := HTr.out.step
      have HDn : Hid ((d + 1) + j' = sz.1) := by have := HD.out; show _ = _; omega
      clear HTr HD
      go_wp2
      go_roundw
      case rel => exact ⟨j', d + 1, _, _, by go_num, by omega, HDn, HIn⟩
      case measure => simp [intOf]
     ·obtain rfl : j = 0 := by omega
      have hdm : d = sz.1 := by have := HD.out; omega
      have HO2 : Hid (TyO W wr (.slice a i c) us ((zs.map tySh).take i)) := HOr.out.after HTr.out.bel
      have HTT : Hid (TyA (fun g => W.heap.size ≤ g ∧ (Value.slice a i c).ownBlock ≠ some g) wr sz (.agg #[.int .i64 k, .pointer q])) := by
       have hty := HTr.out.ty
       rw [hdm] at hty
       refine TyM.moved hty fun g hg hk => ⟨⟨?_, fun e => ?_⟩, rfl⟩
       ·have h1 : w0.heap.size + 1 ≤ g := hk
        have h2 := HOr.out.bel.size
        omega
       ·have h1 : w0.heap.size + 1 ≤ g := hk
        have h2 := (HOr.out.own.lt g e).2
        omega
      have hown := HO2.out.own
      rw [HTk.out.2] at hown
      have hown8 := hown.alloc (.cells #[.int .i64 k, .pointer q] 44)
      have hA8 := allocAtA wr (.cells #[.int .i64 k, .pointer q] 44)
      have HN8 : Hid (∀ j u, [Value.int .i64 k, .pointer q][j]? = some u → (wr.alloc (.cells #[.int .i64 k, .pointer q] 44)).cell? ((⟨wr.heap.size, 0, none⟩ : Addr).add j) = some u) := World.news_of_block hA8
      have H18 : Hid (∀ u ∈ [Value.int .i64 k, .pointer q], u.oneCell' = true) := by
       intro u hu
       simp only [List.mem_cons, List.not_mem_nil, or_false] at hu
       rcases hu with rfl | rfl <;> rfl
      have hlt6 := HO2.out.bel.size
      have HZ8 : Hid (W.heap.size ≤ (wr.alloc (.cells #[.int .i64 k, .pointer q] 44)).heap.size) := by show _ ≤ _; rw [alloc_size]; omega
      have HS8 : Hid ((wr.alloc (.cells #[.int .i64 k, .pointer q] 44)).heap.size = wr.heap.size + 1) := by show _ = _; rw [alloc_size]
      clear hown hA8 HTr HD HOr hdm
      go_wp2_with (at_builtin; refine wpList_append_lies _ rfl _ _ 40 rfl W.heap.size 44 i1 (.agg #[.int .i64 0, .pointer none]) 2 16 Tryz.underlying40 hj0 hj1 hj2 hj3 rfl (by decide) (.slice a i c) i us rfl hown8 ⟨wr.heap.size, 0, none⟩ 1 1 [.int .i64 k, .pointer q] rfl rfl HN8.out H18.out (by omega) (by unfold maxLen; omega) (by omega) HZ8.out (wr.heap.size + 1) HS8.out ?_)
      intro g9 cap9 w9 hown9 hg9 hat9 hlt9
      have HI9 : Hid (TyO W w9 (.slice (some ⟨g9, 0, none⟩) (i + 1) cap9) (us ++ [.int .i64 k, .pointer q]) ((zs.map tySh).take (i + 1))) := by
       show TyO _ _ _ _ _
       rw [HTk.out.1]
       exact HO2.out.put HTk.out.2 (s := sz) (o1 := .cells #[.int .i64 k, .pointer q] 44) HTT.out hown9 hg9 (by rw [HS8.out]; exact hat9)
      clear hown9 hg9 hat9 hlt9 hown8 HN8 H18 HZ8 HS8 HO2 HTT hlt6 HTk
      go_wp2
      go_roundw
      case rel => exact ⟨i + 1, _, _, _, by go_num, rfl, by omega, HI9⟩
      case measure => simp [intOf]; omega
  ·obtain rfl : i = zs.length := by omega
   have HO2 : Hid (Below W.heap.size W wr ∧ TysR (fun g => W.heap.size ≤ g) wr (.slice a zs.length c) (zs.map tySh)) := by
    have h1 := HOr.out.tys
    rw [List.take_of_length_le (by simp)] at h1
    exact ⟨HOr.out.bel, h1⟩
   clear HOr
   go_wp2
   go_ret
   exact ⟨_, rfl, HO2.out⟩

end Go.Proofs.YtgmmfpdekefamaaGreatDoor

namespace Go.Proofs
open Go.Shelf
def Tryz.laysC174_ren : Go.Shelf.Ren := ⟨fun | 174 => 173 | 247 => 187 | 245 => 188 | 287 => 197 | 279 => 198 | 280 => 199 | 281 => 200 | 282 => 201 | 321 => 204 | 322 => 205 | 316 => 206 | 171 => 208 | 205 => 207 | 243 => 209 | 246 => 157 | 283 => 179 | 284 => 180 | 285 => 181 | 286 => 182 | 129 => 191 | 317 => 190 | 318 => 192 | 319 => 193 | 320 => 194 | 337 => 202 | 338 => 203 | n => n, fun | 9 => 9 | 3 => 3 | 2 => 2 | 75 => 28 | 85 => 258 | 4 => 4 | 167 => 281 | 5 => 5 | 53 => 261 | 175 => 282 | 46 => 230 | 168 => 284 | 37 => 141 | 0 => 0 | 210 => 290 | 21 => 21 | 127 => 231 | 145 => 296 | 143 => 294 | 171 => 265 | 173 => 268 | 212 => 274 | 51 => 275 | 20 => 20 | 213 => 276 | 232 => 292 | 233 => 293 | 80 => 117 | n => n, fun | 15 => 12 | 16 => 13 | 17 => 11 | 18 => 14 | 19 => 15 | n => n⟩
theorem Tryz.laysC174 : Go.Proofs.LaysC.n174 Tryz.prog Tryz.laysC174_ren := {
 mixed := by kernel_rfl
 f129 := Tryz.func191.trans (congrArg some (by kernel_rfl))
 f171 := Tryz.func208.trans (congrArg some (by kernel_rfl))
 f174 := Tryz.func173.trans (congrArg some (by kernel_rfl))
 f205 := Tryz.func207.trans (congrArg some (by kernel_rfl))
 f243 := Tryz.func209.trans (congrArg some (by kernel_rfl))
 f245 := Tryz.func188.trans (congrArg some (by kernel_rfl))
 f246 := Tryz.func157.trans (congrArg some (by kernel_rfl))
 f247 := Tryz.func187.trans (congrArg some (by kernel_rfl))
 f279 := Tryz.func198.trans (congrArg some (by kernel_rfl))
 f280 := Tryz.func199.trans (congrArg some (by kernel_rfl))
 f281 := Tryz.func200.trans (congrArg some (by kernel_rfl))
 f282 := Tryz.func201.trans (congrArg some (by kernel_rfl))
 f283 := Tryz.func179.trans (congrArg some (by kernel_rfl))
 f284 := Tryz.func180.trans (congrArg some (by kernel_rfl))
 f285 := Tryz.func181.trans (congrArg some (by kernel_rfl))
 f286 := Tryz.func182.trans (congrArg some (by kernel_rfl))
 f287 := Tryz.func197.trans (congrArg some (by kernel_rfl))
 f316 := Tryz.func206.trans (congrArg some (by kernel_rfl))
 f317 := Tryz.func190.trans (congrArg some (by kernel_rfl))
 f318 := Tryz.func192.trans (congrArg some (by kernel_rfl))
 f319 := Tryz.func193.trans (congrArg some (by kernel_rfl))
 f320 := Tryz.func194.trans (congrArg some (by kernel_rfl))
 f321 := Tryz.func204.trans (congrArg some (by kernel_rfl))
 f322 := Tryz.func205.trans (congrArg some (by kernel_rfl))
 f337 := Tryz.func202.trans (congrArg some (by kernel_rfl))
 f338 := Tryz.func203.trans (congrArg some (by kernel_rfl))
 t0 := Tryz.underlying0
 a0 := Tryz.isAgg0
 z0 := Tryz.sizeOf0
 v0 := Tryz.zeroValue0
 t2 := Tryz.underlying2
 a2 := Tryz.isAgg2
 z2 := Tryz.sizeOf2
 v2 := Tryz.zeroValue2
 t3 := Tryz.underlying3
 a3 := Tryz.isAgg3
 z3 := Tryz.sizeOf3
 v3 := Tryz.zeroValue3
 t4 := Tryz.underlying4
 a4 := Tryz.isAgg4
 z4 := Tryz.sizeOf4
 v4 := Tryz.zeroValue4
 t5 := Tryz.underlying5
 a5 := Tryz.isAgg5
 z5 := Tryz.sizeOf5
 v5 := Tryz.zeroValue5
 t9 := Tryz.underlying9
 a9 := Tryz.isAgg9
 z9 := Tryz.sizeOf9
 v9 := Tryz.zeroValue9
 t20 := Tryz.underlying20
 a20 := Tryz.isAgg20
 z20 := Tryz.sizeOf20
 v20 := Tryz.zeroValue20
 t21 := Tryz.underlying21
 a21 := Tryz.isAgg21
 z21 := Tryz.sizeOf21
 v21 := Tryz.zeroValue21
 t37 := Tryz.underlying141
 a37 := Tryz.isAgg141
 z37 := Tryz.sizeOf141
 v37 := Tryz.zeroValue141
 t46 := Tryz.underlying230
 a46 := Tryz.isAgg230
 z46 := Tryz.sizeOf230
 v46 := Tryz.zeroValue230
 t51 := Tryz.underlying275
 a51 := Tryz.isAgg275
 z51 := Tryz.sizeOf275
 v51 := Tryz.zeroValue275
 t53 := Tryz.underlying261
 a53 := Tryz.isAgg261
 z53 := Tryz.sizeOf261
 v53 := Tryz.zeroValue261
 t75 := Tryz.underlying28
 a75 := Tryz.isAgg28
 z75 := Tryz.sizeOf28
 v75 := Tryz.zeroValue28
 t85 := Tryz.underlying258
 a85 := Tryz.isAgg258
 z85 := Tryz.sizeOf258
 v85 := Tryz.zeroValue258
 t127 := Tryz.underlying231
 a127 := Tryz.isAgg231
 z127 := Tryz.sizeOf231
 v127 := Tryz.zeroValue231
 t143 := Tryz.underlying294
 a143 := Tryz.isAgg294
 z143 := Tryz.sizeOf294
 v143 := Tryz.zeroValue294
 t145 := Tryz.underlying296
 a145 := Tryz.isAgg296
 z145 := Tryz.sizeOf296
 v145 := Tryz.zeroValue296
 t167 := Tryz.underlying281
 a167 := Tryz.isAgg281
 z167 := Tryz.sizeOf281
 v167 := Tryz.zeroValue281
 t168 := Tryz.underlying284
 a168 := Tryz.isAgg284
 z168 := Tryz.sizeOf284
 v168 := Tryz.zeroValue284
 t171 := Tryz.underlying265
 a171 := Tryz.isAgg265
 z171 := Tryz.sizeOf265
 v171 := Tryz.zeroValue265
 t173 := Tryz.underlying268
 a173 := Tryz.isAgg268
 z173 := Tryz.sizeOf268
 v173 := Tryz.zeroValue268
 t175 := Tryz.underlying282
 a175 := Tryz.isAgg282
 z175 := Tryz.sizeOf282
 v175 := Tryz.zeroValue282
 t210 := Tryz.underlying290
 a210 := Tryz.isAgg290
 z210 := Tryz.sizeOf290
 v210 := Tryz.zeroValue290
 t212 := Tryz.underlying274
 a212 := Tryz.isAgg274
 z212 := Tryz.sizeOf274
 v212 := Tryz.zeroValue274
 t213 := Tryz.underlying276
 a213 := Tryz.isAgg276
 z213 := Tryz.sizeOf276
 t232 := Tryz.underlying292
 a232 := Tryz.isAgg292
 z232 := Tryz.sizeOf292
 v232 := Tryz.zeroValue292
 t233 := Tryz.underlying293
 a233 := Tryz.isAgg293
 z233 := Tryz.sizeOf293
 v233 := Tryz.zeroValue293
 g15 := by kernel_rfl
 g16 := by kernel_rfl
 g17 := by kernel_rfl
 g18 := by kernel_rfl
 g19 := by kernel_rfl
 t80 := Tryz.underlying117
 a80 := Tryz.isAgg117
 z80 := Tryz.sizeOf117
 v80 := Tryz.zeroValue117
 i0 := by kernel_rfl
 i2 := by kernel_rfl
 i3 := by kernel_rfl
 i4 := by kernel_rfl
 i5 := by kernel_rfl
 i9 := by kernel_rfl
 i20 := by kernel_rfl
 i21 := by kernel_rfl
 i37 := by kernel_rfl
 i46 := by kernel_rfl
 i51 := by kernel_rfl
 i53 := by kernel_rfl
 i75 := by kernel_rfl
 i80 := by kernel_rfl
 i85 := by kernel_rfl
 i127 := by kernel_rfl
 i143 := by kernel_rfl
 i145 := by kernel_rfl
 i167 := by kernel_rfl
 i168 := by kernel_rfl
 i171 := by kernel_rfl
 i173 := by kernel_rfl
 i175 := by kernel_rfl
 i210 := by kernel_rfl
 i212 := by kernel_rfl
 i232 := by kernel_rfl
 i233 := by kernel_rfl
 m15 := by kernel_rfl
 m16 := by kernel_rfl
 m17 := by kernel_rfl
 m18 := by kernel_rfl
 m19 := by kernel_rfl
 c0 := by kernel_rfl
 c2 := by kernel_rfl
 c3 := by kernel_rfl
 c4 := by kernel_rfl
 c5 := by kernel_rfl
 c9 := by kernel_rfl
 c20 := by kernel_rfl
 c21 := by kernel_rfl
 c37 := by kernel_rfl
 c46 := by kernel_rfl
 c51 := by kernel_rfl
 c53 := by kernel_rfl
 c75 := by kernel_rfl
 c80 := by kernel_rfl
 c85 := by kernel_rfl
 c127 := by kernel_rfl
 c143 := by kernel_rfl
 c145 := by kernel_rfl
 c167 := by kernel_rfl
 c168 := by kernel_rfl
 c171 := by kernel_rfl
 c173 := by kernel_rfl
 c175 := by kernel_rfl
 c210 := by kernel_rfl
 c212 := by kernel_rfl
 c213 := by kernel_rfl
 c232 := by kernel_rfl
 c233 := by kernel_rfl }
def Tryz.lays99_ren : Go.Shelf.Ren := ⟨fun | 99 => 174 | 206 => 189 | n => n, fun | 9 => 9 | 4 => 4 | 3 => 3 | n => n, fun | n => n⟩
theorem Tryz.lays99 : Go.Proofs.Lays.n99 Tryz.prog Tryz.lays99_ren := {
 mixed := by kernel_rfl
 f99 := Tryz.func174.trans (congrArg some (by kernel_rfl))
 f206 := Tryz.func189.trans (congrArg some (by kernel_rfl))
 t3 := Tryz.underlying3
 a3 := Tryz.isAgg3
 z3 := Tryz.sizeOf3
 v3 := Tryz.zeroValue3
 t4 := Tryz.underlying4
 a4 := Tryz.isAgg4
 z4 := Tryz.sizeOf4
 v4 := Tryz.zeroValue4
 t9 := Tryz.underlying9
 a9 := Tryz.isAgg9
 z9 := Tryz.sizeOf9
 v9 := Tryz.zeroValue9 }
def Tryz.laysDec_ren : Go.Shelf.Ren := ⟨fun | 197 => 238 | 260 => 240 | n => n, fun | 9 => 9 | 21 => 21 | 3 => 3 | 4 => 4 | 5 => 5 | 105 => 312 | 119 => 226 | 0 => 0 | 46 => 230 | 139 => 229 | 138 => 228 | n => n, fun | 3 => 8 | 4 => 9 | n => n⟩
theorem Tryz.laysDec : Go.Proofs.Lays.n197 Tryz.prog Tryz.laysDec_ren := {
 mixed := by kernel_rfl
 f197 := Tryz.func238.trans (congrArg some (by kernel_rfl))
 f260 := Tryz.func240.trans (congrArg some (by kernel_rfl))
 t0 := Tryz.underlying0
 a0 := Tryz.isAgg0
 z0 := Tryz.sizeOf0
 v0 := Tryz.zeroValue0
 t3 := Tryz.underlying3
 a3 := Tryz.isAgg3
 z3 := Tryz.sizeOf3
 v3 := Tryz.zeroValue3
 t4 := Tryz.underlying4
 a4 := Tryz.isAgg4
 z4 := Tryz.sizeOf4
 v4 := Tryz.zeroValue4
 t5 := Tryz.underlying5
 a5 := Tryz.isAgg5
 z5 := Tryz.sizeOf5
 v5 := Tryz.zeroValue5
 t9 := Tryz.underlying9
 a9 := Tryz.isAgg9
 z9 := Tryz.sizeOf9
 v9 := Tryz.zeroValue9
 t21 := Tryz.underlying21
 a21 := Tryz.isAgg21
 z21 := Tryz.sizeOf21
 v21 := Tryz.zeroValue21
 t46 := Tryz.underlying230
 a46 := Tryz.isAgg230
 z46 := Tryz.sizeOf230
 v46 := Tryz.zeroValue230
 t105 := Tryz.underlying312
 a105 := Tryz.isAgg312
 z105 := Tryz.sizeOf312
 v105 := Tryz.zeroValue312
 t119 := Tryz.underlying226
 a119 := Tryz.isAgg226
 z119 := Tryz.sizeOf226
 t138 := Tryz.underlying228
 a138 := Tryz.isAgg228
 z138 := Tryz.sizeOf228
 v138 := Tryz.zeroValue228
 t139 := Tryz.underlying229
 a139 := Tryz.isAgg229
 z139 := Tryz.sizeOf229
 v139 := Tryz.zeroValue229
 g3 := by kernel_rfl
 g4 := by kernel_rfl }
def Tryz.lays242_ren : Go.Shelf.Ren := ⟨fun | 242 => 241 | 278 => 242 | n => n, fun | 37 => 141 | 21 => 21 | 51 => 275 | 4 => 4 | 5 => 5 | 46 => 230 | n => n, fun | n => n⟩
theorem Tryz.lays242 : Go.Proofs.Lays.n242 Tryz.prog Tryz.lays242_ren := {
 mixed := by kernel_rfl
 f242 := Tryz.func241.trans (congrArg some (by kernel_rfl))
 f278 := Tryz.func242.trans (congrArg some (by kernel_rfl))
 t4 := Tryz.underlying4
 a4 := Tryz.isAgg4
 z4 := Tryz.sizeOf4
 v4 := Tryz.zeroValue4
 t5 := Tryz.underlying5
 a5 := Tryz.isAgg5
 z5 := Tryz.sizeOf5
 v5 := Tryz.zeroValue5
 t21 := Tryz.underlying21
 a21 := Tryz.isAgg21
 z21 := Tryz.sizeOf21
 v21 := Tryz.zeroValue21
 t37 := Tryz.underlying141
 a37 := Tryz.isAgg141
 z37 := Tryz.sizeOf141
 v37 := Tryz.zeroValue141
 t46 := Tryz.underlying230
 a46 := Tryz.isAgg230
 z46 := Tryz.sizeOf230
 v46 := Tryz.zeroValue230
 t51 := Tryz.underlying275
 a51 := Tryz.isAgg275
 z51 := Tryz.sizeOf275
 v51 := Tryz.zeroValue275 }
end Go.Proofs

namespace Go.Proofs.YtgmmfpdekefamaaGreatDoor
open Go.RowKit
set_option linter.unusedVariables false
set_option maxRecDepth 100000

/-- a cutter: its text, and how far it is -/
def CtA (w : World) (C : Nat) (s : ByteArray) (i : Nat) : Prop := w.heap[C]? = some (.cells #[.string s, .int .i64 (i : Int)] 78 (0, 0))
theorem CtA.lt {w : World} {C : Nat} {s : ByteArray} {i : Nat} (h : CtA w C s i) : C < w.heap.size := (Array.getElem?_eq_some_iff.1 h).1
theorem CtA.c0 {w : World} {C : Nat} {s : ByteArray} {i : Nat} (h : CtA w C s i) : w.cell? ⟨C, 0, none⟩ = some (.string s) := cellsAtA h 0 _ rfl
theorem CtA.c1 {w : World} {C : Nat} {s : ByteArray} {i : Nat} (h : CtA w C s i) : w.cell? ⟨C, 1, none⟩ = some (.int .i64 (i : Int)) := cellsAtA h 1 _ rfl
theorem CtA.fz {w : World} {C : Nat} {s : ByteArray} {i : Nat} (h : CtA w C s i) (j : Nat) : w.frozen? ⟨C, j, none⟩ = false := by unfold CtA at h; simp [World.frozen?, h]
theorem CtA.set {w : World} {C : Nat} {s : ByteArray} {i : Nat} (h : CtA w C s i) (j : Nat) : CtA (w.setCell ⟨C, 1, none⟩ (.int .i64 (j : Int))) C s j := heap_setCell_same w C 1 _ 78 _ h
theorem CtA.drew {w : World} {C : Nat} {s : ByteArray} {i : Nat} (h : CtA w C s i) (n : Nat) : CtA (w.drewN n) C s i := h
/-- a function that tells of a byte -/
def TellB (F : Nat) (P : Int → Bool) : Prop := ∀ (b : Int) (w : World), Calls Tryz.prog F #[.int .u8 b] w fun e w' => e = .returned (.bool (P b)) ∧ w' = w

set_option maxHeartbeats 8000000 in
theorem crun_any (F : Nat) (P : Int → Bool) (hen : ∀ args w, (callFunc F args).run Tryz.prog w = .ok (.enter F args) w) (hF : TellB F P) {w : World} {C : Nat} {s : ByteArray} {i : Nat} (h : CtA w C s i) (hi : i ≤ s.size) (hs : s.size ≤ 70000) :
  Calls Tryz.prog 229 #[.pointer (some ⟨C, 0, none⟩), .func (.func F) #[] #[]] w fun e w' => e = .returned (.string (s.extract i (run P s i))) ∧ w.grownBy w' (some C) ∧ CtA w' C s (run P s i) := by
 have HF : Hid (TellB F P) := hF
 have HC : Hid (CtA w C s i) := h
 have c1 := h.c1
 have hlt := h.lt
 clear h hF
 go_enter Tryz.func229, Tryz.ntmps229
 go_wp2
 go_loopg [] (s.size - i) (fun g wr => ∃ j : Nat, i ≤ j ∧ j ≤ s.size ∧ Hid (g = s.size - j) ∧ Hid (CtA wr C s j) ∧ Hid (w.grownBy wr (some C)) ∧ Hid (run P s i = run P s j))
 case atStart => exact ⟨i, Nat.le_refl _, hi, (show _ = _ from rfl), HC, (show World.grownBy _ _ _ from ⟨rfl, rfl, rfl, Nat.le_refl _, fun _ _ _ => rfl⟩), (show _ = _ from rfl)⟩
 case round =>
  obtain ⟨j, hij, hjs, HG, HCt, HGr, HR⟩ := hrel
  clear c1 hlt
  have c0 := HCt.out.c0
  have c1 := HCt.out.c1
  have hlt := HCt.out.lt
  have hfz := HCt.out.fz 1
  by_cases hj : j < s.size
  ·have hjI : (j : Int) < (s.size : Int) := by omega
   have hw1 : IntKind.i64.wrap ((j : Int) + 1) = ((j + 1 : Nat) : Int) := by rw [IntKind.wrap_i64]; omega
   obtain ⟨b, hb⟩ : ∃ b : UInt8, s.get! j = b := ⟨_, rfl⟩
   have hgb : s[j]'hj = b := (get_atA s j hj).trans hb
   have HFb := HF.out (b.toNat : Int)
   have HS : Hid (P (b.toNat : Int) = true → run P s j = run P s (j + 1)) := fun hp => run_step hj (by rw [hb]; exact hp)
   have HN : Hid (P (b.toNat : Int) = false → run P s j = j) := fun hp => run_stop fun _ => by rw [hb]; exact hp
   by_cases hp : P (b.toNat : Int) = true
   ·have HS2 := HS.out hp
    rw [hp] at HFb
    have HFc : Hid (∀ w, Calls Tryz.prog F #[.int .u8 (b.toNat : Int)] w fun e w' => e = .returned (.bool true) ∧ w' = w) := HFb
    clear HFb HS HN HF
    go_wp2_with fail
    go_region_held3 (fun w' => w'.cell? ⟨C, 0, none⟩ = some (.string s) ∧ w'.cell? ⟨C, 1, none⟩ = some (.int .i64 (j : Int)) ∧ w'.frozen? ⟨C, 1, none⟩ = false) (go_keep) ((refine (HFc.out _).mono ?_; rintro e wq ⟨rfl, hwq⟩; obtain rfl := hwq.symm; clear hwq))
    all_goals
     go_wp2
     go_roundg (s.size - (j + 1))
     case rel => exact ⟨j + 1, by omega, by omega, rfl, (HCt.out.drew 1).set (j + 1), gSetB (grownA_drewR (n := 1) HGr.out) 1 _, HR.out.trans HS2⟩
     have := HG.out
     omega
   ·have hpf : P (b.toNat : Int) = false := by simpa using hp
    have HN2 : Hid (run P s i = j) := HR.out.trans (HN hpf)
    rw [hpf] at HFb
    have HFc : Hid (∀ w, Calls Tryz.prog F #[.int .u8 (b.toNat : Int)] w fun e w' => e = .returned (.bool false) ∧ w' = w) := HFb
    have hijI : (i : Int) ≤ (j : Int) := by omega
    have hjsI : (j : Int) ≤ (s.size : Int) := by omega
    clear HFb HS HN HF hp hpf HR
    go_wp2_with fail
    go_region_held3 (fun w' => w'.cell? ⟨C, 0, none⟩ = some (.string s) ∧ w'.cell? ⟨C, 1, none⟩ = some (.int .i64 (j : Int)) ∧ w'.frozen? ⟨C, 1, none⟩ = false) (go_keep) ((refine (HFc.out _).mono ?_; rintro e wq ⟨rfl, hwq⟩; obtain rfl := hwq.symm; clear hwq))
    all_goals
     go_wp2_with fail
     go_quiet (fail)
     go_wp2_with fail
     go_ret
     rw [HN2.out]
     exact ⟨rfl, grownA_drewR (grownA_drewR (n := 1) HGr.out), HCt.out⟩
  ·obtain rfl : j = s.size := by omega
   have hjI : ¬ (s.size : Int) < (s.size : Int) := by omega
   have HN2 : Hid (run P s i = s.size) := HR.out.trans (run_stop fun h => absurd h (by omega))
   have hijI : (i : Int) ≤ (s.size : Int) := by omega
   clear HF HR
   go_wp2_with fail
   go_quiet (fail)
   go_wp2_with fail
   go_quiet (fail)
   go_wp2_with fail
   go_ret
   rw [HN2.out]
   exact ⟨rfl, grownA_drewR (grownA_drewR HGr.out), HCt.out⟩

end Go.Proofs.YtgmmfpdekefamaaGreatDoor

namespace Go.Proofs.YtgmmfpdekefamaaGreatDoor
open Go.RowKit
set_option linter.unusedVariables false
set_option maxRecDepth 100000

def digF (a : Nat) (c : UInt8) : Nat := a * 10 + (c.toNat - 48)
theorem digF_ge : ∀ (l : List UInt8) (a : Nat), a ≤ l.foldl digF a
 | [], a => Nat.le_refl _
 | c :: l, a => Nat.le_trans (by unfold digF; omega) (digF_ge l (digF a c))
theorem parseM_digits (M : Nat) (hM : M ≤ 18446744073709551615) : ∀ (l : List UInt8) (a : Nat), (∀ c ∈ l, 48 ≤ c.toNat ∧ c.toNat ≤ 57) → l.foldl digF a ≤ M → Lib.parseUintM M a l = .ok (l.foldl digF a)
 | [], a, _, _ => rfl
 | c :: l, a, hd, h => by
  have hc := hd c (by simp)
  have h1 := digF_ge l (digF a c)
  have h2 : (c :: l).foldl digF a = l.foldl digF (digF a c) := rfl
  rw [h2] at h ⊢
  have h3 : digF a c = a * 10 + (c.toNat - 48) := rfl
  unfold Lib.parseUintM
  rw [if_pos hc, if_neg (by omega), if_neg (by omega)]
  exact parseM_digits M hM l (digF a c) (fun x hx => hd x (List.mem_cons_of_mem _ hx)) h
theorem digV_fold {s : ByteArray} : ∀ (k : Nat), k ≤ s.size → allD s 0 k → (((s.data.toList.take k).foldl digF 0 : Nat) : Int) = digV s 0 k
 | 0, _, _ => by simp [digV]
 | k + 1, hk, ha => by
  have ih := digV_fold k (by omega) fun j hj => ha j (by omega)
  have hl : k < s.data.toList.length := by rw [Array.length_toList]; exact hk
  have hg : s.get! (0 + k) = s.data.toList[k] := by
   rw [Nat.zero_add, get_bangA, Array.getElem_toList]
   rw [Array.getElem?_eq_getElem (by simpa using hl)]
   rfl
  have hr := digit_range (ha k (by omega))
  rw [List.take_succ_eq_append_getElem hl, List.foldl_append, List.foldl_cons, List.foldl_nil]
  unfold digV
  rw [← ih, hg] at *
  rw [hg] at hr
  unfold digF
  omega
/-- a number that the document reads, strconv reads -/
theorem parse_whole {d : ByteArray} {n : Int} (h : wholeZ d = some n) (h0 : 0 < d.size) (hd : digitB ((d.get! 0).toNat : Int) = true) : Lib.parseIntB 64 d.data.toList = .ok n := by
 have hr := digit_range hd
 unfold wholeZ at h
 rw [if_neg (by omega)] at h
 by_cases hc : 0 < d.size ∧ allDB d 0 d.size = true ∧ digV d 0 d.size ≤ 9223372036854775807
 ·rw [if_pos hc] at h
  obtain rfl := Option.some.inj h
  have ha := (allDB_iff _ _ _).1 hc.2.1
  have hf := digV_fold d.size (Nat.le_refl _) ha
  have hln : d.data.toList.length = d.size := by rw [Array.length_toList]; rfl
  rw [List.take_of_length_le (by omega)] at hf
  have hdig : ∀ c ∈ d.data.toList, 48 ≤ c.toNat ∧ c.toNat ≤ 57 := fun c hcm => by
   obtain ⟨j, hj, rfl⟩ := List.getElem_of_mem hcm
   have := digit_range (ha j (by omega))
   have hg : d.get! (0 + j) = d.data.toList[j] := by
    rw [Nat.zero_add, get_bangA, Array.getElem_toList]
    rw [Array.getElem?_eq_getElem (by simpa using hj)]
    rfl
   rw [hg] at this
   omega
  obtain ⟨c, r, hcr⟩ : ∃ c r, d.data.toList = c :: r := by
   cases hq : d.data.toList with
   | nil => rw [hq] at hln; simp at hln; omega
   | cons c r => exact ⟨c, r, rfl⟩
  have hcd := hdig c (by rw [hcr]; simp)
  have hp := parseM_digits 18446744073709551615 (Nat.le_refl _) d.data.toList 0 hdig (by omega)
  unfold Lib.parseIntB
  rw [hcr] at hp hf ⊢
  simp only
  rw [if_neg (by omega)]
  unfold Lib.parseUintB
  rw [if_neg (by simp)]
  rw [show (2 ^ 64 - 1 : Nat) = 18446744073709551615 from rfl, hp]
  simp only
  rw [if_neg (by omega), if_neg (by omega), if_neg (by omega), hf]
 ·rw [if_neg hc] at h; cases h

end Go.Proofs.YtgmmfpdekefamaaGreatDoor
