/- Texts of the proof, put together: QChk, QChkW. -/
import Derived.Test.YtgmmfpdekefamaaGreatDoorAt16
import Derived.Deep.DeepCutAuto
namespace Go.Proofs.YtgmmfpdekefamaaGreatDoor
open Go.RowKit
set_option linter.unusedVariables false
set_option maxRecDepth 100000

theorem Tryz.infoTy : (Tryz.prog.info? 44).map (fun i => (i.zero, i.size, i.bytes)) = some (some (.agg #[.int .i64 0, .pointer none]), 2, 16) := by kernel_rfl
/-- a check on its way: what is answered, and the types of the kids so far -/
structure CkI (ok : Nat → Prop) (w W : World) (lv : Value) (us : List Value) (acc : List Sh) : Prop where
 bel : Below w.heap.size w W
 res : TyAt W w.heap.size 0 none
 own : W.ownsRow (w.heap.size + 1) 44 2 lv acc.length us
 typ : ∀ j, j < acc.length → ∃ q, us[j * 2]? = some (.int .i64 (kd (acc.getD j noS))) ∧ us[j * 2 + 1]? = some (.pointer q) ∧ TyA (fun g => ok g ∧ g ≠ w.heap.size ∧ lv.ownBlock ≠ some g) W (acc.getD j noS) (.agg #[.int .i64 (kd (acc.getD j noS)), .pointer q])
theorem own_blockT {W W' : World} {B s : Nat} {T : TypeId} {pv : Value} {n : Nat} {us : List Value} (h : W.ownsRow B T s pv n us) (hb : ∀ b, pv.ownBlock = some b → W'.heap[b]? = W.heap[b]?) : W'.ownsRow B T s pv n us := by
 refine ⟨h.1, ?_⟩
 rcases h.2 with hn | ⟨g, cap, cur, rfl, hb2, hgg, rest⟩
 ·exact .inl hn
 ·exact .inr ⟨g, cap, cur, rfl, hb2, (hb g rfl).trans hgg, rest⟩
theorem CkI.new {ok : Nat → Prop} {w : World} : CkI ok w (w.alloc (.cells #[.int .i64 0, .pointer none] 44)) (.slice none 0 0) [] [] :=
 ⟨alloc_below w _, TyAt.new w 0 none, ⟨rfl, .inl ⟨rfl, rfl⟩⟩, fun j hj => by simp at hj⟩
theorem CkI.after {ok : Nat → Prop} {w W W' : World} {lv : Value} {us : List Value} {acc : List Sh} (h : CkI ok w W lv us acc) (hb : Below W.heap.size W W') : CkI ok w W' lv us acc := by
 refine ⟨h.bel.trans (hb.mono h.bel.size), h.res.below hb h.res.lt, own_blockT h.own fun b hb2 => hb.block b (h.own.lt b hb2).2, fun j hj => ?_⟩
 obtain ⟨q, e1, e2, e3⟩ := h.typ j hj
 exact ⟨q, e1, e2, e3.below hb⟩
theorem own_cellsT {w : World} {B g cap n : Nat} {us : List Value} (h : w.ownsRow B 44 2 (.slice (some ⟨g, 0, none⟩) n cap) n us) : ∀ j u, us[j]? = some u → w.cell? ⟨g, 0 + j, none⟩ = some u := by
 intro j u hu
 rcases h.2 with ⟨e, _⟩ | ⟨g', cap', cur, e, _, h2, _, _, _, h6⟩
 ·simp at e
 ·simp only [Value.slice.injEq, Option.some.injEq, Addr.mk.injEq, and_true, true_and] at e
  obtain ⟨rfl, rfl⟩ := e
  rw [← h6] at hu
  have hj : j < n * 2 := by
   have := (List.getElem?_eq_some_iff.1 hu).1
   rw [List.length_take] at this
   omega
  rw [List.getElem?_take_of_lt hj] at hu
  simp only [World.cell?, h2, Nat.zero_add]
  simpa using hu
/-- the row, as one that is read -/
theorem CkI.tys {ok : Nat → Prop} {w W : World} {lv : Value} {us : List Value} {acc : List Sh} (h : CkI ok w W lv us acc) : TysR (fun g => ok g ∧ g ≠ w.heap.size) W lv acc := by
 have hown := h.own
 rcases h.own.2 with ⟨rfl, h0⟩ | ⟨g, cap, cur, rfl, h1, h2, _⟩
 ·exact ⟨none, 0, by rw [h0], .inl (List.eq_nil_of_length_eq_zero h0)⟩
 ·refine ⟨_, cap, rfl, .inr ⟨g, 0, rfl, (Array.getElem?_eq_some_iff.1 h2).1, fun j hj => ?_⟩⟩
  obtain ⟨q, e1, e2, e3⟩ := h.typ j hj
  have c1 := own_cellsT hown _ _ e1
  have c2 := own_cellsT hown _ _ e2
  exact ⟨_, q, c1, by rw [← Nat.add_assoc] at c2; exact c2, e3.imp fun g _ hk => ⟨hk.1, hk.2.1⟩⟩
/-- one type more -/
theorem CkI.put {ok : Nat → Prop} {w W w9 : World} {lv : Value} {us : List Value} {acc : List Sh} {s : Sh} {q : Option Addr} {o1 o2 : Obj} {g cap : Nat} (h : CkI ok w W lv us acc) (ht : TyA (fun g => ok g ∧ g ≠ w.heap.size ∧ lv.ownBlock ≠ some g) W s (.agg #[.int .i64 (kd s), .pointer q]))
  (hown : w9.ownsRow (w.heap.size + 1) 44 2 (.slice (some ⟨g, 0, none⟩) (acc.length + 1) cap) (acc.length + 1) (us ++ [.int .i64 (kd s), .pointer q])) (hg : ((W.alloc o1).alloc o2).grownBy w9 lv.ownBlock) (hat : lv.ownBlock = some g ∨ g = ((W.alloc o1).alloc o2).heap.size) :
  CkI ok w w9 (.slice (some ⟨g, 0, none⟩) (acc.length + 1) cap) (us ++ [.int .i64 (kd s), .pointer q]) (acc ++ [s]) := by
 have hs2 : ((W.alloc o1).alloc o2).heap.size = W.heap.size + 2 := by rw [alloc_size, alloc_size]
 have hb2 : Below W.heap.size W ((W.alloc o1).alloc o2) := two_below W o1 o2
 have hW := h.res.lt
 have hsz : W.heap.size ≤ w9.heap.size := Nat.le_trans hb2.size hg.size
 have hold : ∀ b, b < W.heap.size → lv.ownBlock ≠ some b → w9.heap[b]? = W.heap[b]? := fun b hb hne =>
  (hg.block b (by omega) (fun e => hne e.symm)).trans (hb2.block b hb)
 have hlt := fun b (hb : lv.ownBlock = some b) => h.own.lt b hb
 have hne : ∀ b, b < w.heap.size + 1 → lv.ownBlock ≠ some b := fun b hb e => by have := (hlt b e).1; omega
 have hbel : Below w.heap.size w w9 := ⟨hg.os.trans (hb2.os.trans h.bel.os), hg.tape.trans (hb2.tape.trans h.bel.tape), hg.output.trans (hb2.output.trans h.bel.output), Nat.le_trans h.bel.size hsz, fun b hb => (hold b (Nat.lt_of_lt_of_le hb h.bel.size) (hne b (by omega))).trans (h.bel.block b hb)⟩
 have hmv : ∀ {s' : Sh} {v : Value}, TyA (fun g => ok g ∧ g ≠ w.heap.size ∧ lv.ownBlock ≠ some g) W s' v → TyA (fun b => ok b ∧ b ≠ w.heap.size ∧ (Value.slice (some ⟨g, 0, none⟩) (acc.length + 1) cap).ownBlock ≠ some b) w9 s' v := fun ht => by
  refine ht.moved fun b hb hk => ⟨⟨hk.1, hk.2.1, fun e => ?_⟩, hold b hb hk.2.2⟩
  have e2 : g = b := by simpa [Value.ownBlock] using e
  rcases hat with e3 | e3
  ·exact hk.2.2 (by rw [e3, e2])
  ·omega
 refine ⟨hbel, ?_, by simpa using hown, fun j hj => ?_⟩
 ·exact (hold _ hW (hne _ (by omega))).trans h.res
 ·have hul : us.length = acc.length * 2 := h.own.1
  by_cases hj2 : j < acc.length
  ·obtain ⟨q', e1, e2, e3⟩ := h.typ j hj2
   have e : (acc ++ [s]).getD j noS = acc.getD j noS := by simp [List.getD_eq_getElem?_getD, List.getElem?_append_left hj2]
   rw [e]
   exact ⟨q', by rw [List.getElem?_append_left (by omega)]; exact e1, by rw [List.getElem?_append_left (by omega)]; exact e2, hmv e3⟩
  ·obtain rfl : j = acc.length := by simp at hj; omega
   have e : (acc ++ [s]).getD acc.length noS = s := by simp
   rw [e]
   refine ⟨q, ?_, ?_, hmv ht⟩
   ·rw [List.getElem?_append_right (by omega), hul]; simp
   ·rw [List.getElem?_append_right (by omega), hul]; simp

/-- one step of the kids -/
theorem runK_step {kind : Int} {tx : ByteArray} {ns : List Nm} {args : List Sh} {ks : List Ex} {i : Nat} (hi : i < ks.length) {acc : List Sh} (ha : acc.length = i) :
  runK kind tx ns ((ks.map (chk args)).drop i) acc = match chk args (ks.getD i nilE) (if kind = 5 ∧ i = 1 then (tx, acc.getD 0 noS) :: ns else ns) with
   | .error b => .error b
   | .ok s => runK kind tx ns ((ks.map (chk args)).drop (i + 1)) (acc ++ [s]) := by
 have hl : i < (ks.map (chk args)).length := by simpa using hi
 rw [List.drop_eq_getElem_cons hl]
 subst ha
 have e : (ks.map (chk args))[acc.length] = chk args (ks.getD acc.length nilE) := by simp [List.getD, hi]
 rw [e]
 rfl

end Go.Proofs.YtgmmfpdekefamaaGreatDoor

namespace Go.Proofs.YtgmmfpdekefamaaGreatDoor
open Go.RowKit
set_option linter.unusedVariables false
set_option maxRecDepth 100000

theorem CkI.putN {ok : Nat → Prop} {w W w9 : World} {lv : Value} {us : List Value} {acc : List Sh} {s : Sh} {q : Option Addr} {o1 o2 : Obj} {g cap n : Nat} (h : CkI ok w W lv us acc) (hn : acc.length = n) (ht : TyA (fun g => ok g ∧ g ≠ w.heap.size ∧ lv.ownBlock ≠ some g) W s (.agg #[.int .i64 (kd s), .pointer q]))
  (hown : w9.ownsRow (w.heap.size + 1) 44 2 (.slice (some ⟨g, 0, none⟩) (n + 1) cap) (n + 1) (us ++ [.int .i64 (kd s), .pointer q])) (hg : ((W.alloc o1).alloc o2).grownBy w9 lv.ownBlock) (hat : lv.ownBlock = some g ∨ g = ((W.alloc o1).alloc o2).heap.size) :
  CkI ok w w9 (.slice (some ⟨g, 0, none⟩) (n + 1) cap) (us ++ [.int .i64 (kd s), .pointer q]) (acc ++ [s]) := by
 subst hn
 exact h.put ht hown hg hat
theorem TysR.all_own {ok ok' : Nat → Prop} {w : World} {v : Value} {l : List Sh} (h : TysR ok w v l) (hm : ∀ g, g < w.heap.size → g ≠ w.heap.size ∧ ok' g) : TysR (fun g => ok g ∧ g ≠ w.heap.size ∧ ok' g) w v l := h.imp fun g hg hk => ⟨hk, hm g hg⟩
theorem NmC.all_own {ok ok' : Nat → Prop} {w : World} {v : Value} {l : List Nm} (h : NmC ok w v l) (hm : ∀ g, g < w.heap.size → g ≠ w.heap.size ∧ ok' g) : NmC (fun g => ok g ∧ g ≠ w.heap.size ∧ ok' g) w v l := h.imp fun g hg hk => ⟨hk, hm g hg⟩

set_option maxHeartbeats 16000000 in
theorem chk_kids {ok : Nat → Prop} {an at' : Addr} {w : World} {b : Nat} {kind num : Int} {tx : ByteArray} {ka : Option Addr} {kc : Nat} {ks : List Ex} {av nv : Value} {args : List Sh} {ns : List Nm} (hE : EnvC w an at') (hb : b < w.heap.size) (e0 : w.cell? ⟨b, 0, none⟩ = some (.int .i64 kind)) (e2 : w.cell? ⟨b, 2, none⟩ = some (.string tx)) (e3 : w.cell? ⟨b, 3, none⟩ = some (.slice ka ks.length kc)) (hk4 : 4 < kind) (hs : shapeB kind num tx ks.length = true) (hks : ks.length ≤ 1000) (ha : TysR ok w av args) (hN : NmC ok w nv ns) (hn : ns.length ≤ 900) (hok : ∀ g, w.heap.size ≤ g → ok g)
  (HK : Hid (∀ i, i < ks.length → ∀ (okk : Nat → Prop) (W : World) (nv' : Value) (ns' : List Nm), Below w.heap.size w W → NmC okk W nv' ns' → ns'.length ≤ ns.length + 1 → (∀ g, W.heap.size ≤ g → okk g) → TysR okk W av args → ∃ g off u, ka = some ⟨g, off, none⟩ ∧ g < w.heap.size ∧ w.cell? ⟨g, off + i, none⟩ = some u ∧ Calls Tryz.prog 40 #[u, av, nv'] W (GotC okk an at' W (chk args (ks.getD i nilE) ns')))) :
  Calls Tryz.prog 40 #[.pointer (some ⟨b, 0, none⟩), av, nv] w (GotC ok an at' w (finK kind tx (runK kind tx ns (ks.map (chk args)) []))) := by
 obtain ⟨i1, hj0, hj1, hj2, hj3⟩ := info_parts Tryz.infoTy
 have HR : Hid (runK kind tx ns ((ks.map (chk args)).drop 0) [] = runK kind tx ns (ks.map (chk args)) []) := rfl
 generalize runK kind tx ns (ks.map (chk args)) [] = RR at *
 have HI : Hid (CkI ok w (w.alloc (.cells #[.int .i64 0, .pointer none] 44)) (.slice none 0 0) [] []) := CkI.new
 have h1 : (kind == 1) = false := by rw [beq_eq_false_iff_ne]; omega
 have h2 : (kind == 2) = false := by rw [beq_eq_false_iff_ne]; omega
 have h3 : (kind == 3) = false := by rw [beq_eq_false_iff_ne]; omega
 have h4 : (kind == 4) = false := by rw [beq_eq_false_iff_ne]; omega
 have HE : Hid (EnvC w an at') := hE
 have HA : Hid (TysR ok w av args) := ha
 have HN : Hid (NmC ok w nv ns) := hN
 have HOK : Hid (∀ g, w.heap.size ≤ g → ok g) := hok
 have HS : Hid (4 < kind ∧ shapeB kind num tx ks.length = true) := ⟨hk4, hs⟩
 clear hE ha hN hok hk4 hs
 go_enter Tryz.func40, Tryz.ntmps40
 go_wp2
 generalize w.alloc (.cells #[.int .i64 0, .pointer none] 44) = w1 at *
 go_loopw [9, 10] (fun lv iv wr => ∃ (i : Nat) (us : List Value) (acc : List Sh) (a : Option Addr) (c : Nat), iv = .int .i64 i ∧ lv = .slice a i c ∧ i ≤ ks.length ∧ Hid (acc.length = i) ∧ Hid (CkI ok w wr (.slice a i c) us acc) ∧ Hid (runK kind tx ns ((ks.map (chk args)).drop i) acc = RR)) (fun _ iv _ => ks.length - (intOf iv).toNat)
 case atStart => exact ⟨0, [], [], none, 0, rfl, rfl, Nat.zero_le _, rfl, HI, HR⟩
 case round =>
  clear HI HR
  obtain ⟨i, us, acc, a, c, rfl, rfl, hil, HL, HIr, HRr⟩ := hrel
  have hbr := HIr.out.bel
  have hbl : b < wr.heap.size := Nat.lt_of_lt_of_le hb hbr.size
  have d0 : wr.cell? ⟨b, 0, none⟩ = some (.int .i64 kind) := (hbr.cell (p := ⟨b, 0, none⟩) hb).trans e0
  have d2 : wr.cell? ⟨b, 2, none⟩ = some (.string tx) := (hbr.cell (p := ⟨b, 2, none⟩) hb).trans e2
  have d3 : wr.cell? ⟨b, 3, none⟩ = some (.slice ka ks.length kc) := (hbr.cell (p := ⟨b, 3, none⟩) hb).trans e3
  by_cases hlt : i < ks.length
  ·have hltI : (i : Int) < (ks.length : Int) := by omega
   by_cases h5 : kind = 5 ∧ i = 1
   ·obtain ⟨rfl, rfl⟩ := h5
    have hacc : acc.length = 1 := HL.out
    obtain ⟨q0, y0, y1, t0⟩ := HIr.out.typ 0 (by omega)
    obtain ⟨g0, off0, q0', z1, z2, za, hg0, c0, c1, t0', _, _⟩ := HIr.out.tys.three (by omega)
    have hown0 := HIr.out.own
    have z3 : off0 = 0 := by
     rcases hown0.2 with ⟨e, _⟩ | ⟨gx, cx, cur, e, _⟩
     ·simp at e
     ·simp only [Value.slice.injEq] at e
      rw [za] at e
      simp at e
      exact e.1.2
    subst za z3
    have z4 : q0' = q0 := by
     have := own_cellsT (by simpa [hacc] using hown0) _ _ y1
     simp only [Nat.zero_mul, Nat.zero_add] at this c1
     rw [this] at c1
     simpa using c1.symm
    subst z4
    simp only [Nat.zero_add] at c0 c1
    have HWi : Hid (∀ W, Below wr.heap.size wr W → Calls Tryz.prog 72 #[nv, .agg #[.string tx, .int .i64 (kd (acc.getD 0 noS)), .pointer q0', .int .i64 0, .int .i64 0, .string ⟨#[]⟩, .slice none 0 0]] W fun e w' => ∃ v', e = .returned v' ∧ Below W.heap.size W w' ∧ NmC (fun g => ok g ∧ g ≠ w.heap.size ∧ (Value.slice (some ⟨g0, 0, none⟩) 1 c).ownBlock ≠ some g) w' v' ((tx, acc.getD 0 noS) :: ns)) := fun W hW => by
     have hN1 : NmC (fun g => ok g ∧ g ≠ w.heap.size ∧ (Value.slice (some ⟨g0, 0, none⟩) 1 c).ownBlock ≠ some g) wr nv ns := (HN.out.all_own fun g hg => ⟨by omega, fun e => by have := (HIr.out.own.lt g e).1; omega⟩).below hbr
     exact (hN1.below hW).with (by omega) tx (t0.below hW)
    have HC : Hid (Calls Tryz.prog 72 #[nv, .agg #[.string tx, .int .i64 (kd (acc.getD 0 noS)), .pointer q0', .int .i64 0, .int .i64 0, .string ⟨#[]⟩, .slice none 0 0]] wr.drew fun e w' => ∃ v', e = .returned v' ∧ Below wr.heap.size wr w' ∧ Hid (NmC (fun g => ok g ∧ g ≠ w.heap.size ∧ (Value.slice (some ⟨g0, 0, none⟩) 1 c).ownBlock ≠ some g) w' v' ((tx, acc.getD 0 noS) :: ns))) := by
     have hd : Below wr.heap.size wr wr.drew := below_drewG (Below.refl _ _) 1
     refine (HWi.out _ hd).mono ?_
     rintro e w' ⟨v', r1, r2, r3⟩
     exact ⟨v', r1, hd.trans r2, r3⟩
    have HX : Hid (∀ w', Below wr.heap.size wr w' → w'.cell? ⟨b, 2, none⟩ = some (.string tx) ∧ w'.cell? ⟨g0, 0, none⟩ = some (.int .i64 (kd (acc.getD 0 noS))) ∧ w'.cell? ⟨g0, 1, none⟩ = some (.pointer q0')) := fun w' hb =>
     ⟨(hb.cell (p := ⟨b, 2, none⟩) hbl).trans d2, (hb.cell (p := ⟨g0, 0, none⟩) hg0).trans c0, (hb.cell (p := ⟨g0, 1, none⟩) hg0).trans c1⟩
    clear HWi y0 y1 t0 t0' hown0 hacc
    generalize hs0 : acc.getD 0 noS = s0' at *
    have HS0 : Hid (acc.getD 0 noS = s0') := hs0
    clear hs0
    go_wp2_with fail
    go_region_held3 (fun w' => w'.cell? ⟨b, 2, none⟩ = some (.string tx) ∧ w'.cell? ⟨g0, 0, none⟩ = some (.int .i64 (kd s0')) ∧ w'.cell? ⟨g0, 1, none⟩ = some (.pointer q0')) (go_keep) ((go_at_call 72; refine HC.out.mono ?_; rintro e w5 ⟨nv5, rfl, hb55, HN5⟩; obtain ⟨y0, y1, y2⟩ := HX.out w5 hb55))
    have HI5 : Hid (CkI ok w w5 (.slice (some ⟨g0, 0, none⟩) 1 c) us acc) := HIr.out.after hb55
    clear hb55 y0 y1 y2 HX HC HIr c0 c1 d0 d2 d3 hbl hbr hg0
    have hb5 := HI5.out.bel
    have hokk : ∀ g, w5.heap.size ≤ g → ok g ∧ g ≠ w.heap.size ∧ (Value.slice (some ⟨g0, 0, none⟩) 1 c).ownBlock ≠ some g := fun g hg => by
     have h1 := HI5.out.res.lt
     refine ⟨HOK.out g (Nat.le_trans hb5.size hg), by omega, fun e => ?_⟩
     have h2 := (HI5.out.own.lt g e).2
     omega
    have hta : TysR (fun g => ok g ∧ g ≠ w.heap.size ∧ (Value.slice (some ⟨g0, 0, none⟩) 1 c).ownBlock ≠ some g) w av args := HA.out.all_own fun g hg => ⟨by omega, fun e => by have := (HI5.out.own.lt g e).1; omega⟩
    obtain ⟨g, off, u, rfl, hg, hcu, hC⟩ := HK.out 1 hlt _ w5 nv5 ((tx, s0') :: ns) hb5 HN5.out (by simp) hokk (hta.below hb5)
    have HC : Hid (Calls Tryz.prog 40 #[u, av, nv5] w5 (GotC (fun g => ok g ∧ g ≠ w.heap.size ∧ (Value.slice (some ⟨g0, 0, none⟩) 1 c).ownBlock ≠ some g) an at' w5 (chk args (ks.getD 1 nilE) ((tx, s0') :: ns)))) := hC
    have du : w5.cell? ⟨g, off + 1, none⟩ = some u := (hb5.cell (p := ⟨g, off + 1, none⟩) hg).trans hcu
    have hgl : g < w5.heap.size := Nat.lt_of_lt_of_le hg hb5.size
    have hbl5 : b < w5.heap.size := Nat.lt_of_lt_of_le hb hb5.size
    have x3 : w5.cell? ⟨b, 3, none⟩ = some (.slice (some ⟨g, off, none⟩) ks.length kc) := (hb5.cell (p := ⟨b, 3, none⟩) hb).trans e3
    clear hC hcu hta hokk HN5 hb5
    go_wp2_with fail
    go_at_call 40
    refine HC.out.mono ?_
    rintro e w6 ⟨hb6, k6, q6, er, rfl, hres⟩
    have HI6 : Hid (CkI ok w w6 (.slice (some ⟨g0, 0, none⟩) 1 c) us acc) := HI5.out.after hb6
    clear hb6 HC HI5 du x3 hgl hbl5
    rcases hres with ⟨s, hr, rfl, ht⟩ | ⟨bb, hr, rfl, rfl, rfl⟩
    ·obtain rfl := ht.kd
     have HR6 : Hid (runK 5 tx ns ((ks.map (chk args)).drop (1 + 1)) (acc ++ [s]) = RR) := by
      have e := HRr.out
      rw [runK_step hlt HL.out] at e
      rw [if_pos ⟨rfl, rfl⟩, HS0.out, hr] at e
      exact e
     have HT6 : Hid (TyA (fun g => ok g ∧ g ≠ w.heap.size ∧ (Value.slice (some ⟨g0, 0, none⟩) 1 c).ownBlock ≠ some g) w6 s (.agg #[.int .i64 (kd s), .pointer q6])) := ht
     have hown := HI6.out.own
     rw [HL.out] at hown
     have hown8 := (hown.alloc (.cells #[.int .i64 (kd s), .pointer q6] 44)).alloc (.cells #[.int .i64 (kd s), .pointer q6] 44)
     have hA8 := allocAtA (w6.alloc (.cells #[.int .i64 (kd s), .pointer q6] 44)) (.cells #[.int .i64 (kd s), .pointer q6] 44)
     rw [alloc_size] at hA8
     have hlt6 := HI6.out.res.lt
     have HN8 : Hid (∀ j u, [Value.int .i64 (kd s), .pointer q6][j]? = some u → ((w6.alloc (.cells #[.int .i64 (kd s), .pointer q6] 44)).alloc (.cells #[.int .i64 (kd s), .pointer q6] 44)).cell? ((⟨w6.heap.size + 1, 0, none⟩ : Addr).add j) = some u) := World.news_of_block hA8
     have H18 : Hid (∀ u ∈ [Value.int .i64 (kd s), .pointer q6], u.oneCell' = true) := by
      intro u hu
      simp only [List.mem_cons, List.not_mem_nil, or_false] at hu
      rcases hu with rfl | rfl <;> rfl
     have HZ8 : Hid (w.heap.size + 1 ≤ ((w6.alloc (.cells #[.int .i64 (kd s), .pointer q6] 44)).alloc (.cells #[.int .i64 (kd s), .pointer q6] 44)).heap.size) := by show _ ≤ _; rw [alloc_size, alloc_size]; omega
     have HS8 : Hid (((w6.alloc (.cells #[.int .i64 (kd s), .pointer q6] 44)).alloc (.cells #[.int .i64 (kd s), .pointer q6] 44)).heap.size = w6.heap.size + 2) := by show _ = _; rw [alloc_size, alloc_size]
     clear hr ht hown hA8 HRr
     go_wp2_with (at_builtin; refine wpList_append_lies _ rfl _ _ 40 rfl (w.heap.size + 1) 44 i1 (.agg #[.int .i64 0, .pointer none]) 2 16 Tryz.underlying40 hj0 hj1 hj2 hj3 rfl (by decide) (.slice (some ⟨g0, 0, none⟩) 1 c) 1 us rfl hown8 ⟨w6.heap.size + 1, 0, none⟩ 1 1 [.int .i64 (kd s), .pointer q6] rfl rfl HN8.out H18.out (by omega) (by unfold maxLen; omega) (by omega) HZ8.out (w6.heap.size + 2) HS8.out ?_)
     intro g9 cap9 w9 hown9 hg9 hat9 hlt9
     have HI9 : Hid (CkI ok w w9 (.slice (some ⟨g9, 0, none⟩) (1 + 1) cap9) (us ++ [.int .i64 (kd s), .pointer q6]) (acc ++ [s])) := by
      exact HI6.out.putN HL.out (s := s) (q := q6) (o1 := .cells #[.int .i64 (kd s), .pointer q6] 44) (o2 := .cells #[.int .i64 (kd s), .pointer q6] 44) HT6.out hown9 hg9 (by rw [HS8.out]; exact hat9)
     have HL9 : Hid ((acc ++ [s]).length = 1 + 1) := by show _ = _; rw [List.length_append, HL.out]; rfl
     clear hown9 hg9 hat9 hlt9 hown8 HN8 H18 HZ8 HS8 HI6 HT6 HL hlt6
     go_wp2_with fail
     go_roundw
     case rel => exact ⟨1 + 1, _, _, _, _, by go_num, rfl, by omega, HL9, HI9, HR6⟩
     case measure => simp [intOf]; omega
    ·have HR6 : Hid (RR = .error bb) := by
      have e := HRr.out
      rw [runK_step hlt HL.out] at e
      rw [if_pos ⟨rfl, rfl⟩, HS0.out, hr] at e
      exact e.symm
     have hev : errV an at' bb = .iface 294 (.pointer (some (if bb = true then an else at'))) := rfl
     have HEV : Hid (.iface 294 (.pointer (some (if bb = true then an else at'))) = errV an at' bb) := rfl
     rw [hev]
     generalize (if bb = true then an else at') = av' at *
     obtain ⟨W, hW, hbW, _, hTW⟩ := HI6.out.res.ret HI6.out.bel (Nat.le_refl _) 0 none
     have ha7 := alloc_below W (.cells #[.int .i64 0, .pointer none] 44)
     have hTW2 := hTW.below ha7 hTW.lt
     have HW : Hid (putY w6 w.heap.size 0 none = W) := hW
     have HG : Hid (GotC ok an at' w (finK 5 tx RR) (.returned (.tuple #[.agg #[.int .i64 0, .pointer none], .iface 294 (.pointer (some av'))])) (W.alloc (.cells #[.int .i64 0, .pointer none] 44))) := by
      rw [HR6.out]
      exact GotC.no rfl HEV.out (hbW.trans (ha7.mono hbW.size))
     have s0 := hTW2.c0
     have s1 := hTW2.c1
     have r0 := HI6.out.res.c0
     have r1 := HI6.out.res.c1
     have f0 := HI6.out.res.fz 0
     have f1 := HI6.out.res.fz 1
     have rr := HI6.out.res.lt
     clear hev HEV hW hbW hTW hTW2 ha7 hr HI6 HRr HR6
     go_wp2
     have hW := HW.out
     unfold putY at hW
     rw [hW]
     generalize W.alloc (.cells #[.int .i64 0, .pointer none] 44) = W2 at *
     refine bodyPost_ret (v := .tuple #[.agg #[.int .i64 0, .pointer none], .iface 294 (.pointer (some av'))]) ?_ rfl ?_
     ·simp [results, go_sem, s0, s1]
     ·exact HG.out
   ·have HN5 : Hid (NmC (fun g => ok g ∧ g ≠ w.heap.size ∧ (Value.slice a i c).ownBlock ≠ some g) wr nv ns) := (HN.out.all_own fun g hg => ⟨by omega, fun e => by have := (HIr.out.own.lt g e).1; omega⟩).below hbr
    have HI5 : Hid (CkI ok w wr (.slice a i c) us acc) := HIr.out
    have HD0 := d0
    clear HIr hbr d2 d3 hbl
    by_cases hk5 : (kind == 5) = true
    ·have hi1 : ((i : Int) == 1) = false := by
      rw [beq_eq_false_iff_ne]
      intro e
      exact h5 ⟨by simpa using hk5, by omega⟩
     have hb5 := HI5.out.bel
     have hokk : ∀ g, wr.heap.size ≤ g → ok g ∧ g ≠ w.heap.size ∧ (Value.slice a i c).ownBlock ≠ some g := fun g hg => by
      have h1 := HI5.out.res.lt
      refine ⟨HOK.out g (Nat.le_trans hb5.size hg), by omega, fun e => ?_⟩
      have h2 := (HI5.out.own.lt g e).2
      omega
     have hta : TysR (fun g => ok g ∧ g ≠ w.heap.size ∧ (Value.slice a i c).ownBlock ≠ some g) w av args := HA.out.all_own fun g hg => ⟨by omega, fun e => by have := (HI5.out.own.lt g e).1; omega⟩
     obtain ⟨g, off, u, rfl, hg, hcu, hC⟩ := HK.out i hlt _ wr nv (ns) hb5 HN5.out (by simp) hokk (hta.below hb5)
     have HC : Hid (Calls Tryz.prog 40 #[u, av, nv] wr (GotC (fun g => ok g ∧ g ≠ w.heap.size ∧ (Value.slice a i c).ownBlock ≠ some g) an at' wr (chk args (ks.getD i nilE) (ns)))) := hC
     have du : wr.cell? ⟨g, off + i, none⟩ = some u := (hb5.cell (p := ⟨g, off + i, none⟩) hg).trans hcu
     have hgl : g < wr.heap.size := Nat.lt_of_lt_of_le hg hb5.size
     have hbl5 : b < wr.heap.size := Nat.lt_of_lt_of_le hb hb5.size
     have x3 : wr.cell? ⟨b, 3, none⟩ = some (.slice (some ⟨g, off, none⟩) ks.length kc) := (hb5.cell (p := ⟨b, 3, none⟩) hb).trans e3
     clear hC hcu hta hokk HN5 hb5
     go_wp2_with fail
     go_at_call 40
     refine HC.out.mono ?_
     rintro e w6 ⟨hb6, k6, q6, er, rfl, hres⟩
     have HI6 : Hid (CkI ok w w6 (.slice a i c) us acc) := HI5.out.after hb6
     clear hb6 HC HI5 du x3 hgl hbl5
     rcases hres with ⟨s, hr, rfl, ht⟩ | ⟨bb, hr, rfl, rfl, rfl⟩
     ·obtain rfl := ht.kd
      have HR6 : Hid (runK kind tx ns ((ks.map (chk args)).drop (i + 1)) (acc ++ [s]) = RR) := by
       have e := HRr.out
       rw [runK_step hlt HL.out] at e
       rw [if_neg h5, hr] at e
       exact e
      have HT6 : Hid (TyA (fun g => ok g ∧ g ≠ w.heap.size ∧ (Value.slice a i c).ownBlock ≠ some g) w6 s (.agg #[.int .i64 (kd s), .pointer q6])) := ht
      have hown := HI6.out.own
      rw [HL.out] at hown
      have hown8 := (hown.alloc (.cells #[.int .i64 (kd s), .pointer q6] 44)).alloc (.cells #[.int .i64 (kd s), .pointer q6] 44)
      have hA8 := allocAtA (w6.alloc (.cells #[.int .i64 (kd s), .pointer q6] 44)) (.cells #[.int .i64 (kd s), .pointer q6] 44)
      rw [alloc_size] at hA8
      have hlt6 := HI6.out.res.lt
      have HN8 : Hid (∀ j u, [Value.int .i64 (kd s), .pointer q6][j]? = some u → ((w6.alloc (.cells #[.int .i64 (kd s), .pointer q6] 44)).alloc (.cells #[.int .i64 (kd s), .pointer q6] 44)).cell? ((⟨w6.heap.size + 1, 0, none⟩ : Addr).add j) = some u) := World.news_of_block hA8
      have H18 : Hid (∀ u ∈ [Value.int .i64 (kd s), .pointer q6], u.oneCell' = true) := by
       intro u hu
       simp only [List.mem_cons, List.not_mem_nil, or_false] at hu
       rcases hu with rfl | rfl <;> rfl
      have HZ8 : Hid (w.heap.size + 1 ≤ ((w6.alloc (.cells #[.int .i64 (kd s), .pointer q6] 44)).alloc (.cells #[.int .i64 (kd s), .pointer q6] 44)).heap.size) := by show _ ≤ _; rw [alloc_size, alloc_size]; omega
      have HS8 : Hid (((w6.alloc (.cells #[.int .i64 (kd s), .pointer q6] 44)).alloc (.cells #[.int .i64 (kd s), .pointer q6] 44)).heap.size = w6.heap.size + 2) := by show _ = _; rw [alloc_size, alloc_size]
      clear hr ht hown hA8 HRr
      go_wp2_with (at_builtin; refine wpList_append_lies _ rfl _ _ 40 rfl (w.heap.size + 1) 44 i1 (.agg #[.int .i64 0, .pointer none]) 2 16 Tryz.underlying40 hj0 hj1 hj2 hj3 rfl (by decide) (.slice a i c) i us rfl hown8 ⟨w6.heap.size + 1, 0, none⟩ 1 1 [.int .i64 (kd s), .pointer q6] rfl rfl HN8.out H18.out (by omega) (by unfold maxLen; omega) (by omega) HZ8.out (w6.heap.size + 2) HS8.out ?_)
      intro g9 cap9 w9 hown9 hg9 hat9 hlt9
      have HI9 : Hid (CkI ok w w9 (.slice (some ⟨g9, 0, none⟩) (i + 1) cap9) (us ++ [.int .i64 (kd s), .pointer q6]) (acc ++ [s])) := by
       exact HI6.out.putN HL.out (s := s) (q := q6) (o1 := .cells #[.int .i64 (kd s), .pointer q6] 44) (o2 := .cells #[.int .i64 (kd s), .pointer q6] 44) HT6.out hown9 hg9 (by rw [HS8.out]; exact hat9)
      have HL9 : Hid ((acc ++ [s]).length = i + 1) := by show _ = _; rw [List.length_append, HL.out]; rfl
      clear hown9 hg9 hat9 hlt9 hown8 HN8 H18 HZ8 HS8 HI6 HT6 HL hlt6
      go_wp2_with fail
      go_roundw
      case rel => exact ⟨i + 1, _, _, _, _, by go_num, rfl, by omega, HL9, HI9, HR6⟩
      case measure => simp [intOf]; omega
     ·have HR6 : Hid (RR = .error bb) := by
       have e := HRr.out
       rw [runK_step hlt HL.out] at e
       rw [if_neg h5, hr] at e
       exact e.symm
      have hev : errV an at' bb = .iface 294 (.pointer (some (if bb = true then an else at'))) := rfl
      have HEV : Hid (.iface 294 (.pointer (some (if bb = true then an else at'))) = errV an at' bb) := rfl
      rw [hev]
      generalize (if bb = true then an else at') = av' at *
      obtain ⟨W, hW, hbW, _, hTW⟩ := HI6.out.res.ret HI6.out.bel (Nat.le_refl _) 0 none
      have ha7 := alloc_below W (.cells #[.int .i64 0, .pointer none] 44)
      have hTW2 := hTW.below ha7 hTW.lt
      have HW : Hid (putY w6 w.heap.size 0 none = W) := hW
      have HG : Hid (GotC ok an at' w (finK kind tx RR) (.returned (.tuple #[.agg #[.int .i64 0, .pointer none], .iface 294 (.pointer (some av'))])) (W.alloc (.cells #[.int .i64 0, .pointer none] 44))) := by
       rw [HR6.out]
       exact GotC.no rfl HEV.out (hbW.trans (ha7.mono hbW.size))
      have s0 := hTW2.c0
      have s1 := hTW2.c1
      have r0 := HI6.out.res.c0
      have r1 := HI6.out.res.c1
      have f0 := HI6.out.res.fz 0
      have f1 := HI6.out.res.fz 1
      have rr := HI6.out.res.lt
      clear hev HEV hW hbW hTW hTW2 ha7 hr HI6 HRr HR6
      go_wp2
      have hW := HW.out
      unfold putY at hW
      rw [hW]
      generalize W.alloc (.cells #[.int .i64 0, .pointer none] 44) = W2 at *
      refine bodyPost_ret (v := .tuple #[.agg #[.int .i64 0, .pointer none], .iface 294 (.pointer (some av'))]) ?_ rfl ?_
      ·simp [results, go_sem, s0, s1]
      ·exact HG.out
    ·have hk5 : (kind == 5) = false := by simpa using hk5
     have hb5 := HI5.out.bel
     have hokk : ∀ g, wr.heap.size ≤ g → ok g ∧ g ≠ w.heap.size ∧ (Value.slice a i c).ownBlock ≠ some g := fun g hg => by
      have h1 := HI5.out.res.lt
      refine ⟨HOK.out g (Nat.le_trans hb5.size hg), by omega, fun e => ?_⟩
      have h2 := (HI5.out.own.lt g e).2
      omega
     have hta : TysR (fun g => ok g ∧ g ≠ w.heap.size ∧ (Value.slice a i c).ownBlock ≠ some g) w av args := HA.out.all_own fun g hg => ⟨by omega, fun e => by have := (HI5.out.own.lt g e).1; omega⟩
     obtain ⟨g, off, u, rfl, hg, hcu, hC⟩ := HK.out i hlt _ wr nv (ns) hb5 HN5.out (by simp) hokk (hta.below hb5)
     have HC : Hid (Calls Tryz.prog 40 #[u, av, nv] wr (GotC (fun g => ok g ∧ g ≠ w.heap.size ∧ (Value.slice a i c).ownBlock ≠ some g) an at' wr (chk args (ks.getD i nilE) (ns)))) := hC
     have du : wr.cell? ⟨g, off + i, none⟩ = some u := (hb5.cell (p := ⟨g, off + i, none⟩) hg).trans hcu
     have hgl : g < wr.heap.size := Nat.lt_of_lt_of_le hg hb5.size
     have hbl5 : b < wr.heap.size := Nat.lt_of_lt_of_le hb hb5.size
     have x3 : wr.cell? ⟨b, 3, none⟩ = some (.slice (some ⟨g, off, none⟩) ks.length kc) := (hb5.cell (p := ⟨b, 3, none⟩) hb).trans e3
     clear hC hcu hta hokk HN5 hb5
     go_wp2_with fail
     go_at_call 40
     refine HC.out.mono ?_
     rintro e w6 ⟨hb6, k6, q6, er, rfl, hres⟩
     have HI6 : Hid (CkI ok w w6 (.slice a i c) us acc) := HI5.out.after hb6
     clear hb6 HC HI5 du x3 hgl hbl5
     rcases hres with ⟨s, hr, rfl, ht⟩ | ⟨bb, hr, rfl, rfl, rfl⟩
     ·obtain rfl := ht.kd
      have HR6 : Hid (runK kind tx ns ((ks.map (chk args)).drop (i + 1)) (acc ++ [s]) = RR) := by
       have e := HRr.out
       rw [runK_step hlt HL.out] at e
       rw [if_neg h5, hr] at e
       exact e
      have HT6 : Hid (TyA (fun g => ok g ∧ g ≠ w.heap.size ∧ (Value.slice a i c).ownBlock ≠ some g) w6 s (.agg #[.int .i64 (kd s), .pointer q6])) := ht
      have hown := HI6.out.own
      rw [HL.out] at hown
      have hown8 := (hown.alloc (.cells #[.int .i64 (kd s), .pointer q6] 44)).alloc (.cells #[.int .i64 (kd s), .pointer q6] 44)
      have hA8 := allocAtA (w6.alloc (.cells #[.int .i64 (kd s), .pointer q6] 44)) (.cells #[.int .i64 (kd s), .pointer q6] 44)
      rw [alloc_size] at hA8
      have hlt6 := HI6.out.res.lt
      have HN8 : Hid (∀ j u, [Value.int .i64 (kd s), .pointer q6][j]? = some u → ((w6.alloc (.cells #[.int .i64 (kd s), .pointer q6] 44)).alloc (.cells #[.int .i64 (kd s), .pointer q6] 44)).cell? ((⟨w6.heap.size + 1, 0, none⟩ : Addr).add j) = some u) := World.news_of_block hA8
      have H18 : Hid (∀ u ∈ [Value.int .i64 (kd s), .pointer q6], u.oneCell' = true) := by
       intro u hu
       simp only [List.mem_cons, List.not_mem_nil, or_false] at hu
       rcases hu with rfl | rfl <;> rfl
      have HZ8 : Hid (w.heap.size + 1 ≤ ((w6.alloc (.cells #[.int .i64 (kd s), .pointer q6] 44)).alloc (.cells #[.int .i64 (kd s), .pointer q6] 44)).heap.size) := by show _ ≤ _; rw [alloc_size, alloc_size]; omega
      have HS8 : Hid (((w6.alloc (.cells #[.int .i64 (kd s), .pointer q6] 44)).alloc (.cells #[.int .i64 (kd s), .pointer q6] 44)).heap.size = w6.heap.size + 2) := by show _ = _; rw [alloc_size, alloc_size]
      clear hr ht hown hA8 HRr
      go_wp2_with (at_builtin; refine wpList_append_lies _ rfl _ _ 40 rfl (w.heap.size + 1) 44 i1 (.agg #[.int .i64 0, .pointer none]) 2 16 Tryz.underlying40 hj0 hj1 hj2 hj3 rfl (by decide) (.slice a i c) i us rfl hown8 ⟨w6.heap.size + 1, 0, none⟩ 1 1 [.int .i64 (kd s), .pointer q6] rfl rfl HN8.out H18.out (by omega) (by unfold maxLen; omega) (by omega) HZ8.out (w6.heap.size + 2) HS8.out ?_)
      intro g9 cap9 w9 hown9 hg9 hat9 hlt9
      have HI9 : Hid (CkI ok w w9 (.slice (some ⟨g9, 0, none⟩) (i + 1) cap9) (us ++ [.int .i64 (kd s), .pointer q6]) (acc ++ [s])) := by
       exact HI6.out.putN HL.out (s := s) (q := q6) (o1 := .cells #[.int .i64 (kd s), .pointer q6] 44) (o2 := .cells #[.int .i64 (kd s), .pointer q6] 44) HT6.out hown9 hg9 (by rw [HS8.out]; exact hat9)
      have HL9 : Hid ((acc ++ [s]).length = i + 1) := by show _ = _; rw [List.length_append, HL.out]; rfl
      clear hown9 hg9 hat9 hlt9 hown8 HN8 H18 HZ8 HS8 HI6 HT6 HL hlt6
      go_wp2_with fail
      go_roundw
      case rel => exact ⟨i + 1, _, _, _, _, by go_num, rfl, by omega, HL9, HI9, HR6⟩
      case measure => simp [intOf]; omega
     ·have HR6 : Hid (RR = .error bb) := by
       have e := HRr.out
       rw [runK_step hlt HL.out] at e
       rw [if_neg h5, hr] at e
       exact e.symm
      have hev : errV an at' bb = .iface 294 (.pointer (some (if bb = true then an else at'))) := rfl
      have HEV : Hid (.iface 294 (.pointer (some (if bb = true then an else at'))) = errV an at' bb) := rfl
      rw [hev]
      generalize (if bb = true then an else at') = av' at *
      obtain ⟨W, hW, hbW, _, hTW⟩ := HI6.out.res.ret HI6.out.bel (Nat.le_refl _) 0 none
      have ha7 := alloc_below W (.cells #[.int .i64 0, .pointer none] 44)
      have hTW2 := hTW.below ha7 hTW.lt
      have HW : Hid (putY w6 w.heap.size 0 none = W) := hW
      have HG : Hid (GotC ok an at' w (finK kind tx RR) (.returned (.tuple #[.agg #[.int .i64 0, .pointer none], .iface 294 (.pointer (some av'))])) (W.alloc (.cells #[.int .i64 0, .pointer none] 44))) := by
       rw [HR6.out]
       exact GotC.no rfl HEV.out (hbW.trans (ha7.mono hbW.size))
      have s0 := hTW2.c0
      have s1 := hTW2.c1
      have r0 := HI6.out.res.c0
      have r1 := HI6.out.res.c1
      have f0 := HI6.out.res.fz 0
      have f1 := HI6.out.res.fz 1
      have rr := HI6.out.res.lt
      clear hev HEV hW hbW hTW hTW2 ha7 hr HI6 HRr HR6
      go_wp2
      have hW := HW.out
      unfold putY at hW
      rw [hW]
      generalize W.alloc (.cells #[.int .i64 0, .pointer none] 44) = W2 at *
      refine bodyPost_ret (v := .tuple #[.agg #[.int .i64 0, .pointer none], .iface 294 (.pointer (some av'))]) ?_ rfl ?_
      ·simp [results, go_sem, s0, s1]
      ·exact HG.out
  ·obtain rfl : i = ks.length := by omega
   have HRR : Hid (RR = .ok acc) := by
    have e := HRr.out
    rw [List.drop_eq_nil_of_le (by simp)] at e
    exact e.symm
   have HT : Hid (Calls Tryz.prog 73 #[.pointer (some ⟨b, 0, none⟩), .slice a ks.length c] wr (GotJ (fun g => ok g ∧ g ≠ w.heap.size) wr (typP kind tx.toList acc))) :=
    rtypeof_any hbl d0 d2 HIr.out.tys HL.out.symm (num := num) (by rw [HL.out]; exact HS.out.2) HS.out.1 (by rw [HL.out]; omega) fun g hg => ⟨HOK.out g (Nat.le_trans hbr.size hg), by have := HIr.out.res.lt; omega⟩
   have HEr : Hid (EnvC wr an at') := HE.out.below hbr
   clear HRr hbr d0 d2 HL
   go_wp2_with fail
   go_at_call 73
   refine HT.out.mono ?_
   rintro e w6 ⟨hb6, k6, q6, yes, rfl, hy, hts⟩
   have HI6 : Hid (CkI ok w w6 (.slice a ks.length c) us acc) := HIr.out.after hb6
   have hE6 := HEr.out.below hb6
   have hT6 := hE6.typ
   have hTl := World.block_lt_of_cell? w6 _ hT6
   have r0 := HI6.out.res.c0
   have r1 := HI6.out.res.c1
   have f0 := HI6.out.res.fz 0
   have f1 := HI6.out.res.fz 1
   have rr := HI6.out.res.lt
   have HFn : Hid (finK kind tx RR = match typP kind tx.toList acc with | some s => .ok s | none => .error false) := by show _ = _; rw [HRR.out]; rfl
   clear hb6 HT HEr hE6 HIr hbl d3 HRR
   cases htp : typP kind tx.toList acc with
   | none =>
    rw [htp] at hy hts
    simp at hy
    subst hy
    have hnT : w.heap.size ≠ 4 := by
     have h1 := World.block_lt_of_cell? w _ HE.out.typ
     have : (4 : Nat) < w.heap.size := h1
     omega
    have hnT2 : w6.heap.size ≠ 4 := by have : (4 : Nat) < w6.heap.size := hTl; omega
    have hne6 : w6.heap.size ≠ w.heap.size := by omega
    obtain ⟨W, hW, hbW, _, hTW⟩ := HI6.out.res.ret HI6.out.bel (Nat.le_refl _) 0 none
    have ha7 := alloc_below W (.cells #[.int .i64 k6, .pointer q6] 44)
    have hd7 : Below (W.alloc (.cells #[.int .i64 k6, .pointer q6] 44)).heap.size (W.alloc (.cells #[.int .i64 k6, .pointer q6] 44)) (W.alloc (.cells #[.int .i64 k6, .pointer q6] 44)).drew := below_drewG (Below.refl _ _) 1
    have hTW2 := hTW.below ha7 hTW.lt
    have hTW3 := hTW2.below hd7 hTW2.lt
    have HW : Hid (putY w6 w.heap.size 0 none = W) := hW
    have HG : Hid (GotC ok an at' w (finK kind tx RR) (.returned (.tuple #[.agg #[.int .i64 0, .pointer none], .iface 294 (.pointer (some at'))])) (W.alloc (.cells #[.int .i64 k6, .pointer q6] 44)).drew) := by
     rw [HFn.out, htp]
     have h1 := hbW.trans (ha7.mono hbW.size)
     exact GotC.no rfl rfl (h1.trans (hd7.mono h1.size))
    have s0 := hTW3.c0
    have s1 := hTW3.c1
    clear hts hW hbW hTW hTW2 hTW3 ha7 hd7 HI6 HFn htp
    go_wp2_with fail
    go_big_region
    go_wp2
    have hW := HW.out
    unfold putY at hW
    rw [hW]
    generalize (W.alloc (.cells #[.int .i64 k6, .pointer q6] 44)).drew = W2 at *
    refine bodyPost_ret (v := .tuple #[.agg #[.int .i64 0, .pointer none], .iface 294 (.pointer (some at'))]) ?_ rfl ?_
    ·simp [results, go_sem, s0, s1]
    ·exact HG.out
   | some s =>
    rw [htp] at hy hts
    simp at hy
    subst hy
    have ht6 := hts s rfl
    obtain rfl := ht6.kd
    obtain ⟨W, hW, hbW, _, hTW⟩ := HI6.out.res.ret HI6.out.bel (Nat.le_refl _) (kd s) q6
    have ha7 := alloc_below W (.cells #[.int .i64 (kd s), .pointer q6] 44)
    have hTW2 := hTW.below ha7 hTW.lt
    have HW : Hid (putY w6 w.heap.size (kd s) q6 = W) := hW
    have HG : Hid (GotC ok an at' w (finK kind tx RR) (.returned (.tuple #[.agg #[.int .i64 (kd s), .pointer q6], .nilIface])) (W.alloc (.cells #[.int .i64 (kd s), .pointer q6] 44))) := by
     rw [HFn.out, htp]
     refine GotC.yes rfl (hbW.trans (ha7.mono hbW.size)) (TyA.below ?_ ha7)
     rw [← hW]
     exact (ht6.over (fun g hg => hg.2) _ _).imp fun g _ hg => hg.1
    have s0 := hTW2.c0
    have s1 := hTW2.c1
    clear hW hbW hTW hTW2 ha7 hts ht6 HI6 HFn htp hT6 hTl
    go_wp2
    have hW := HW.out
    unfold putY at hW
    rw [hW]
    generalize W.alloc (.cells #[.int .i64 (kd s), .pointer q6] 44) = W2 at *
    refine bodyPost_ret (v := .tuple #[.agg #[.int .i64 (kd s), .pointer q6], .nilIface]) ?_ rfl ?_
    ·simp [results, go_sem, s0, s1]
    ·exact HG.out

end Go.Proofs.YtgmmfpdekefamaaGreatDoor
