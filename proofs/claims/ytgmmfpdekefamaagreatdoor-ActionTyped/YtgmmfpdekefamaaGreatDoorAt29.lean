/- Texts of the proof, put together: QPsa, QSho, QTof. -/
import Derived.Test.YtgmmfpdekefamaaGreatDoorAt28
import Derived.Test.YtgmmfpdekefamaaGreatDoorAt18
import Derived.LaidEqlPtr
namespace Go.Proofs.YtgmmfpdekefamaaGreatDoor
open Go.RowKit
set_option linter.unusedVariables false
set_option maxRecDepth 100000

theorem let_chk (tx : ByteArray) (ns : List Nm) (f0 f1 : List Nm → CkR) : finK 5 tx (runK 5 tx ns [f0, f1] []) = bndC (f0 ns) fun s0 => f1 ((tx, s0) :: ns) := by
 have e1 : runK 5 tx ns [f0, f1] [] = match f0 ns with | .error b => .error b | .ok s => runK 5 tx ns [f1] [s] := rfl
 rw [e1]
 cases f0 ns with
 | error b => rfl
 | ok s0 =>
  have e2 : runK 5 tx ns [f1] [s0] = match f1 ((tx, s0) :: ns) with | .error b => .error b | .ok s => .ok [s0, s] := rfl
  show finK 5 tx (runK 5 tx ns [f1] [s0]) = f1 ((tx, s0) :: ns)
  rw [e2]
  cases f1 ((tx, s0) :: ns) with
  | error b => rfl
  | ok s1 => rfl
theorem KidsE.atk {P : Value → Ex → Prop} {ok : Nat → Prop} {w : World} {a : Option Addr} {n c : Nat} {l : List Ex} (h : KidsE P ok w (.slice a n c) l) {k : Nat} (hk : k < l.length) : ∃ b off, a = some ⟨b, off, none⟩ ∧ ok b ∧ ∀ j, j < l.length → ∃ u, w.cell? ⟨b, off + j, none⟩ = some u ∧ P u (l.getD j nilE) := by
 rcases h with ⟨rfl, _⟩ | ⟨g, off, c', h1, h2, h3, h4⟩
 ·simp at hk
 ·simp only [Value.slice.injEq] at h1
  obtain ⟨rfl, rfl, rfl⟩ := h1
  exact ⟨g, off, rfl, h3, h4⟩
theorem pse_any {B : Nat} {an at' : Addr} {C N : Nat} {args : List Sh} (hA : ∀ s ∈ args, Gd N s) (hal : args.length ≤ 1000) : ∀ (n : Nat) {W : World} {v : Value} {t : Ex} {nv : Value} {ns : List Nm} {M : Nat}, IsEx (fun g => g < B) n W v t → wellE t = true → wtE t + ns.length ≤ 900 → ShE B W C args an at' → N ≤ M → (∀ p ∈ ns, Gd M p.2) → M + wtE t ≤ 100000 → NmP B W nv ns →
  Calls Tryz.prog 37 #[.pointer (some ⟨C, 0, none⟩), v, nv] W (GotKp B an at' W nv ns (chk args t ns))
 | 0, W, v, t, nv, ns, M, h, _, _, _, _, _, _, _ => h.elim
 | n + 1, W, v, t, nv, ns, M, .inl ⟨h1, h2⟩, hw, _, _, _, _, _, _ => by rw [h1, wellE_eq] at hw; cases hw
 | n + 1, W, v, t, nv, ns, M, .inr ⟨hi, b, kv, h1, h2, h3, h5⟩, hw, hwt, hE, hNM, hns, hMt, hN => by
  subst h1
  obtain ⟨ka, kc, rfl⟩ := h5.slice
  have hbl : b < W.heap.size := (Array.getElem?_eq_some_iff.1 h3).1
  have e0 : W.cell? ⟨b, 0, none⟩ = some (.int .i64 t.kind) := cellsAtA h3 0 _ rfl
  have e1 : W.cell? ⟨b, 1, none⟩ = some (.int .i64 t.num) := cellsAtA h3 1 _ rfl
  have e2 : W.cell? ⟨b, 2, none⟩ = some (.string t.text) := cellsAtA h3 2 _ rfl
  have e3 : W.cell? ⟨b, 3, none⟩ = some (.slice ka t.kids.length kc) := cellsAtA h3 3 _ rfl
  have hsh := (wellE_is hw).2
  have hlen := wtL_len t.kids
  have hwe := wtE_eq t
  have hmv : ∀ {u : Value} {k : Ex} {V : World}, IsEx (fun g => g < B) n W u k → Below B W V → IsEx (fun g => g < B) n V u k := fun h hb => h.moved hb.size fun g hg hk => ⟨hk, hb.block g hk⟩
  have hkid : ∀ i, i < t.kids.length → wellE (t.kids.getD i nilE) = true ∧ wtE (t.kids.getD i nilE) ≤ wtL t.kids := fun i hi' => ⟨wellE_kid hw (getD_mem hi'), wtL_mem _ _ (getD_mem hi')⟩
  rw [chk_eq]
  by_cases k3 : t.kind = 3
  ·unfold stepK; rw [if_neg (by omega), if_neg (by omega), if_pos k3]; rw [k3] at e0
   have hq : 1 ≤ t.num ∧ t.num ≤ 20 := by rcases shape_kids hsh with h | h | h | h | h | h | h | h | h | h <;> omega
   exact pse_arg hE hN hbl e0 e1 hq.1 hq.2 hal
  by_cases k4 : t.kind = 4
  ·unfold stepK; rw [if_neg (by omega), if_neg (by omega), if_neg (by omega), if_pos k4]; rw [k4] at e0
   exact pse_name hE hN (by omega) hbl e0 e2
  by_cases k5 : t.kind = 5
  ·unfold stepK; rw [if_neg (by omega), if_neg (by omega), if_neg (by omega), if_neg (by omega)]
   have h2k : t.kids.length = 2 := by rcases shape_kids hsh with h | h | h | h | h | h | h | h | h | h <;> omega
   obtain ⟨g, off, rfl, hgB, hcells⟩ := h5.atk (k := 0) (by omega)
   obtain ⟨u0, c0, x0⟩ := hcells 0 (by omega)
   obtain ⟨u1, c1, x1⟩ := hcells 1 (by omega)
   have hk0 := hkid 0 (by omega)
   have hk1 := hkid 1 (by omega)
   have hks : t.kids = [t.kids.getD 0 nilE, t.kids.getD 1 nilE] := by
    match hkk : t.kids, h2k with
    | [a, b'], _ => rfl
   have hw2 : wtE (t.kids.getD 0 nilE) + wtE (t.kids.getD 1 nilE) = wtL t.kids := by
    have : wtL t.kids = wtL [t.kids.getD 0 nilE, t.kids.getD 1 nilE] := by rw [← hks]
    rw [this]
    simp [wtL]
   rw [h2k] at e3
   rw [k5] at e0
   have hm : t.kids.map (chk args) = [chk args (t.kids.getD 0 nilE), chk args (t.kids.getD 1 nilE)] := by rw [hks]; rfl
   rw [hm, k5, let_chk]
   refine pse_let hE hN (by omega) h2 e0 e2 e3 hgB c0 c1 ?_ ?_
   ·intro V hV hNV
    exact pse_any hA hal n (hmv x0 hV) hk0.1 (by omega) (hE.below hV) hNM hns (by omega) hNV
   ·intro V nv2 s0 hr hV hNV
    have hg0 := gd_chk hA _ hk0.1 ns M s0 hNM hns hr
    refine pse_any hA hal n (M := M + wtE (t.kids.getD 0 nilE)) (hmv x1 hV) hk1.1 (by simp only [List.length_cons]; have := wtE_pos (t.kids.getD 0 nilE); omega) (hE.below hV) (by omega) (fun p hp => ?_) (by omega) hNV
    rcases List.mem_cons.1 hp with rfl | hp
    ·exact hg0
    ·exact (hns p hp).mono (by omega)
  have hrun : stepK args t.kind t.num t.text (t.kids.map (chk args)) ns = finM t.kind t.text (runK t.kind t.text ns (t.kids.map (chk args)) []) := by
   unfold stepK
   by_cases k1 : t.kind = 1
   ·have : t.kids = [] := List.eq_nil_of_length_eq_zero (by rcases shape_kids hsh with h | h | h | h | h | h | h | h | h | h <;> omega)
    rw [this, k1]; rfl
   by_cases k2 : t.kind = 2
   ·have : t.kids = [] := List.eq_nil_of_length_eq_zero (by rcases shape_kids hsh with h | h | h | h | h | h | h | h | h | h <;> omega)
    rw [this, k2]; rfl
   rw [if_neg k1, if_neg k2, if_neg k3, if_neg k4]
   generalize runK t.kind t.text ns (t.kids.map (chk args)) [] = r
   cases r with
   | error b => rfl
   | ok l =>
    show (match typP t.kind t.text.toList l with | some s => (.ok s : CkR) | none => .error false) = (match mdP t.kind t.text.toList l with | some s => (.ok s : CkR) | none => .error false)
    unfold mdP
    rw [if_neg k1, if_neg k2]
  rw [hrun]
  refine pse_kids hE hN h2 e0 e2 e3 k3 k4 k5 hsh (by omega) ?_ ?_
  ·intro l hl s hs
   exact ((gd_run hns t.kids [] l M (Nat.le_refl _) (fun k hk ns' M' s' hM' hn' e' => gd_chk hA k (wellE_kid hw hk) ns' M' s' (by omega) hn' e') (fun u hu => by cases hu) hl).1 s hs).mono (by omega)
  ·intro i hi' V hg hNV
   obtain ⟨g, off, rfl, hgB, hcells⟩ := h5.atk hi'
   obtain ⟨u, c0, x0⟩ := hcells i hi'
   have hV : Below B W V := grown_below hg hE.le fun k hk => (hN.lt k hk).1
   have hk0 := hkid i hi'
   exact ⟨g, off, u, rfl, hgB, c0, pse_any hA hal n (hmv x0 hV) hk0.1 (by omega) (hE.below hV) hNM hns (by omega) hNV⟩

end Go.Proofs.YtgmmfpdekefamaaGreatDoor

namespace Go.Proofs.YtgmmfpdekefamaaGreatDoor
open Go.RowKit
set_option linter.unusedVariables false
set_option linter.unusedSimpArgs false
set_option maxRecDepth 100000

theorem TyM.inj {ok ok' : Nat → Prop} {w : World} : ∀ {l l' : Nat} {b b' : Int} {v : Value}, TyM ok w l b v → TyM ok' w l' b' v → l = l'
 | 0, 0, _, _, _, _, _ => rfl
 | 0, l' + 1, b, b', v, h, h' => by
  obtain ⟨rfl, hb⟩ := h
  rcases h' with ⟨_, _, e⟩ | ⟨g, k, q, e, _⟩
  ·simp only [Value.agg.injEq] at e
   injection e with e
   injection e with e1 _
   injection e1 with _ e1
   omega
  ·injection e with e
   injection e with e
   injection e with _ e
   injection e with e _
   cases e
 | l + 1, 0, b, b', v, h, h' => by
  obtain ⟨rfl, hb⟩ := h'
  rcases h with ⟨_, _, e⟩ | ⟨g, k, q, e, _⟩
  ·injection e with e
   injection e with e
   injection e with e _
   injection e with _ e
   omega
  ·injection e with e
   injection e with e
   injection e with _ e
   injection e with e _
   cases e
 | l + 1, l' + 1, b, b', v, h, h' => by
  rcases h with ⟨_, h0, e⟩ | ⟨g, k, q, e, _, h3, h4⟩
  ·rcases h' with ⟨_, h0', e'⟩ | ⟨g', k', q', e', _⟩
   ·omega
   ·subst e
    cases e'
  ·rcases h' with ⟨_, h0', e'⟩ | ⟨g', k', q', e', _, h3', h4'⟩
   ·subst e
    cases e'
   ·subst e
    have hg : g = g' := by
     injection e' with e'
     injection e' with e'
     injection e' with _ e'
     injection e' with e' _
     injection e' with e'
     injection e' with e'
     injection e'
    subst hg
    rw [h3] at h3'
    have hkq : k = k' ∧ q = q' := by
     injection h3' with e1
     injection e1 with e1
     injection e1 with e1
     injection e1 with e2 e3
     injection e2 with _ e2
     injection e3 with e3 _
     injection e3 with e3
     exact ⟨e2, e3⟩
    obtain ⟨rfl, rfl⟩ := hkq
    have := TyM.inj h4 h4'
    omega

/-- shapeOf on its way -/
structure SoI (W V : World) (k : Int) (q : Option Addr) (i : Nat) : Prop where
 bel : Below W.heap.size W V
 t : TyAt V W.heap.size k q
 r : ShAt V (W.heap.size + 1) 0 0
 s : ShAt V (W.heap.size + 2) i 0
theorem SoI.new (W : World) (k : Int) (q : Option Addr) : SoI W (((W.alloc (.cells #[.int .i64 k, .pointer q] 44)).alloc (.cells #[.int .i64 0, .int .i64 0] 89)).alloc (.cells #[.int .i64 0, .int .i64 0] 89)) k q 0 := by
 have h1 := two_below W (.cells #[.int .i64 k, .pointer q] 44) (.cells #[.int .i64 0, .int .i64 0] 89)
 have h3 := alloc_below ((W.alloc (.cells #[.int .i64 k, .pointer q] 44)).alloc (.cells #[.int .i64 0, .int .i64 0] 89)) (.cells #[.int .i64 0, .int .i64 0] 89)
 have a1 := TyAt.new W k q
 have h2 := alloc_below (W.alloc (.cells #[.int .i64 k, .pointer q] 44)) (.cells #[.int .i64 0, .int .i64 0] 89)
 have a2 := ShAt.new (W.alloc (.cells #[.int .i64 k, .pointer q] 44)) 0 0
 have a3 := ShAt.new ((W.alloc (.cells #[.int .i64 k, .pointer q] 44)).alloc (.cells #[.int .i64 0, .int .i64 0] 89)) 0 0
 have b1 := (a1.below h2 a1.lt).below h3 (a1.below h2 a1.lt).lt
 have b2 := a2.below h3 a2.lt
 rw [alloc_size] at a2 b2
 rw [alloc_size, alloc_size] at a3
 exact ⟨h1.trans (h3.mono h1.size), b1, b2, a3⟩
def setI (V : World) (B j : Nat) (z : Int) : World := V.setCell ⟨B, j, none⟩ (.int .i64 z)
theorem below_setI {B : Nat} {w w' : World} (h : Below B w w') {D : Nat} (hD : B ≤ D) (j : Nat) (z : Int) : Below B w (setI w' D j z) := belowSetA h hD _ _
theorem ShAt.set0 {w : World} {B : Nat} {l b : Int} (h : ShAt w B l b) (z : Int) : ShAt (setI w B 0 z) B z b := heap_setCell_same w B 0 _ 89 (.int .i64 z) h
theorem ShAt.setO {w : World} {B D : Nat} {l b : Int} (h : ShAt w B l b) (hD : B ≠ D) (j : Nat) (z : Int) : ShAt (setI w D j z) B l b := (heap_setCell_other w ⟨D, j, none⟩ B _ hD).trans h
theorem TyAt.setO {w : World} {B D : Nat} {k : Int} {q : Option Addr} (h : TyAt w B k q) (hD : B ≠ D) (j : Nat) (z : Int) : TyAt (setI w D j z) B k q := (heap_setCell_other w ⟨D, j, none⟩ B _ hD).trans h
theorem ShAt.putO {w : World} {B D : Nat} {l b : Int} (h : ShAt w B l b) (hD : B ≠ D) (k : Int) (q : Option Addr) : ShAt (putY w D k q) B l b :=
 (heap_setCell_other _ ⟨D, 1, none⟩ B _ hD).trans ((heap_setCell_other w ⟨D, 0, none⟩ B _ hD).trans h)
theorem SoI.step {W V : World} {k k' : Int} {q q' : Option Addr} {i : Nat} (h : SoI W V k q i) : SoI W (putY (setI V (W.heap.size + 2) 0 ((i : Int) + 1)) W.heap.size k' q') k' q' (i + 1) := by
 refine ⟨belowSetA (belowSetA (below_setI h.bel (by omega) 0 _) (Nat.le_refl _) _ _) (Nat.le_refl _) _ _, (h.t.setO (by omega) 0 _).put k' q', (h.r.setO (by omega) 0 _).putO (by omega) k' q', ?_⟩
 have := (h.s.set0 ((i : Int) + 1)).putO (D := W.heap.size) (by omega) k' q'
 exact this

set_option maxHeartbeats 8000000 in
theorem ashapeof_any {ok : Nat → Prop} {W : World} {l : Nat} {b : Int} {v : Value} (h : TyM ok W l b v) (hl : l ≤ 4) : Calls Tryz.prog 36 #[v] W fun e w' => e = .returned (.tuple #[shV (l, b), .bool true]) ∧ Below W.heap.size W w' := by
 obtain ⟨k, q, rfl⟩ : ∃ k q, v = .agg #[.int .i64 k, .pointer q] := by
  rcases h.form with ⟨_, _, e⟩ | ⟨_, _, e⟩ | ⟨_, _, _, _, _, e, _⟩ <;> exact ⟨_, _, e⟩
 have HI : Hid (SoI W (((W.alloc (.cells #[.int .i64 k, .pointer q] 44)).alloc (.cells #[.int .i64 0, .int .i64 0] 89)).alloc (.cells #[.int .i64 0, .int .i64 0] 89)) k q 0) := SoI.new W k q
 have HT : Hid (TyM ok W l b (.agg #[.int .i64 k, .pointer q])) := h
 clear h
 go_enter Tryz.func36, Tryz.ntmps36
 go_wp2
 generalize ((W.alloc (.cells #[.int .i64 k, .pointer q] 44)).alloc (.cells #[.int .i64 0, .int .i64 0] 89)).alloc (.cells #[.int .i64 0, .int .i64 0] 89) = w1 at *
 go_loopw [5] (fun mv wr => ∃ (i d : Nat) (k : Int) (q : Option Addr), Hid (d + i = l) ∧ Hid (SoI W wr k q i) ∧ Hid (TyM ok W d b (.agg #[.int .i64 k, .pointer q])) ∧ Hid ((i = 0 ∧ mv = .pointer none) ∨ (1 ≤ i ∧ ∃ g', mv = .pointer (some ⟨g', 0, none⟩) ∧ ∃ k' q' l', W.heap[g']? = some (.cells #[.int .i64 k', .pointer q'] 44 (0, 0)) ∧ TyM ok W l' b (.agg #[.int .i64 k', .pointer q']) ∧ d ≤ l'))) (fun _ wr => l - (match wr.cell? ⟨W.heap.size + 2, 0, none⟩ with | some v => (intOf v).toNat | none => 0))
 case atStart => exact ⟨0, l, k, q, rfl, HI, HT, .inl ⟨rfl, rfl⟩⟩
 case round =>
  clear HI HT
  obtain ⟨i, d, k, q, HD, HIr, HTr, HM⟩ := hrel
  have t0 := HIr.out.t.c0
  have t1 := HIr.out.t.c1
  have tz0 := HIr.out.t.fz 0
  have tz1 := HIr.out.t.fz 1
  have tl := HIr.out.t.lt
  have r0 := HIr.out.r.c0
  have r1 := HIr.out.r.c1
  have rz0 := HIr.out.r.fz 0
  have rz1 := HIr.out.r.fz 1
  have rl := HIr.out.r.lt
  have s0 := HIr.out.s.c0
  have s1 := HIr.out.s.c1
  have sz0 := HIr.out.s.fz 0
  have sz1 := HIr.out.s.fz 1
  have sl := HIr.out.s.lt
  rcases HTr.out.form with ⟨hd, hb, hv⟩ | ⟨hd, hb, hv⟩ | ⟨d', g, k', q', hd, hv, _, hg, hT'⟩
  ·cases hv
   subst hd
   obtain rfl : i = l := by have := HD.out; omega
   have HF : Hid (ShAt (putS (setI wr (W.heap.size + 2) 1 b) (W.heap.size + 1) i b).drew (W.heap.size + 1) i b ∧ Below W.heap.size W (putS (setI wr (W.heap.size + 2) 1 b) (W.heap.size + 1) i b).drew) := by
    have h1 : ShAt (putS (setI wr (W.heap.size + 2) 1 b) (W.heap.size + 1) i b) (W.heap.size + 1) i b := (HIr.out.r.setO (by omega) 1 b).put i b
    have h2 : Below W.heap.size W (putS (setI wr (W.heap.size + 2) 1 b) (W.heap.size + 1) i b) := below_putS (below_setI HIr.out.bel (by omega) 1 b) (by omega) _ _
    have h3 : Below (putS (setI wr (W.heap.size + 2) 1 b) (W.heap.size + 1) i b).heap.size (putS (setI wr (W.heap.size + 2) 1 b) (W.heap.size + 1) i b) (putS (setI wr (W.heap.size + 2) 1 b) (W.heap.size + 1) i b).drew := below_drewG (Below.refl _ _) 1
    exact ⟨h1.below h3 h1.lt, h2.trans (h3.mono h2.size)⟩
   clear HM HTr HIr HD hl
   rcases hb with rfl | rfl | rfl
   ·generalize hVV : putS (setI wr (W.heap.size + 2) 1 1) (W.heap.size + 1) i 1 = VV at HF
    have HW : Hid (putS (setI wr (W.heap.size + 2) 1 1) (W.heap.size + 1) i 1 = VV) := hVV
    clear hVV
    go_wp2_with fail
    go_big_region
    go_wp2
    have hW := HW.out
    unfold putS setI at hW
    rw [hW]
    generalize VV.drew = W2 at *
    have x0 := HF.out.1.c0
    have x1 := HF.out.1.c1
    refine bodyPost_ret (v := .tuple #[.agg #[.int .i64 i, .int .i64 1], .bool true]) ?_ rfl ?_
    ·simp [results, go_sem, x0, x1]
    ·exact ⟨rfl, HF.out.2⟩
   ·generalize hVV : putS (setI wr (W.heap.size + 2) 1 2) (W.heap.size + 1) i 2 = VV at HF
    have HW : Hid (putS (setI wr (W.heap.size + 2) 1 2) (W.heap.size + 1) i 2 = VV) := hVV
    clear hVV
    go_wp2_with fail
    go_big_region
    go_wp2
    have hW := HW.out
    unfold putS setI at hW
    rw [hW]
    generalize VV.drew = W2 at *
    have x0 := HF.out.1.c0
    have x1 := HF.out.1.c1
    refine bodyPost_ret (v := .tuple #[.agg #[.int .i64 i, .int .i64 2], .bool true]) ?_ rfl ?_
    ·simp [results, go_sem, x0, x1]
    ·exact ⟨rfl, HF.out.2⟩
   ·generalize hVV : putS (setI wr (W.heap.size + 2) 1 4) (W.heap.size + 1) i 4 = VV at HF
    have HW : Hid (putS (setI wr (W.heap.size + 2) 1 4) (W.heap.size + 1) i 4 = VV) := hVV
    clear hVV
    go_wp2_with fail
    go_big_region
    go_wp2
    have hW := HW.out
    unfold putS setI at hW
    rw [hW]
    generalize VV.drew = W2 at *
    have x0 := HF.out.1.c0
    have x1 := HF.out.1.c1
    refine bodyPost_ret (v := .tuple #[.agg #[.int .i64 i, .int .i64 4], .bool true]) ?_ rfl ?_
    ·simp [results, go_sem, x0, x1]
    ·exact ⟨rfl, HF.out.2⟩
  ·cases hv
   subst hd hb
   obtain rfl : l = i + 1 := by have := HD.out; omega
   have HF : Hid (ShAt (putS (setI wr (W.heap.size + 2) 0 ((i : Int) + 1)) (W.heap.size + 1) ((i : Int) + 1) 0) (W.heap.size + 1) ((i : Int) + 1) 0 ∧ Below W.heap.size W (putS (setI wr (W.heap.size + 2) 0 ((i : Int) + 1)) (W.heap.size + 1) ((i : Int) + 1) 0)) := by
    have h1 : ShAt (putS (setI wr (W.heap.size + 2) 0 ((i : Int) + 1)) (W.heap.size + 1) ((i : Int) + 1) 0) (W.heap.size + 1) ((i : Int) + 1) 0 := (HIr.out.r.setO (by omega) 0 _).put _ _
    have h2 : Below W.heap.size W (putS (setI wr (W.heap.size + 2) 0 ((i : Int) + 1)) (W.heap.size + 1) ((i : Int) + 1) 0) := below_putS (below_setI HIr.out.bel (by omega) 0 _) (by omega) _ _
    exact ⟨h1, h2⟩
   have hw1 : IntKind.i64.wrap ((i : Int) + 1) = (i : Int) + 1 := by rw [IntKind.wrap_i64]; omega
   clear HM HTr HIr HD
   generalize hVV : putS (setI wr (W.heap.size + 2) 0 ((i : Int) + 1)) (W.heap.size + 1) ((i : Int) + 1) 0 = VV at HF
   have HW : Hid (putS (setI wr (W.heap.size + 2) 0 ((i : Int) + 1)) (W.heap.size + 1) ((i : Int) + 1) 0 = VV) := hVV
   clear hVV
   go_wp2
   have hW := HW.out
   unfold putS setI at hW
   rw [hW]
   have x0 := HF.out.1.c0
   have x1 := HF.out.1.c1
   refine bodyPost_ret (v := .tuple #[.agg #[.int .i64 ((i : Int) + 1), .int .i64 0], .bool true]) ?_ rfl ?_
   ·simp [results, go_sem, x0, x1]
   ·exact ⟨rfl, HF.out.2⟩
  ·cases hv
   subst hd
   have hgl0 : g < W.heap.size := (Array.getElem?_eq_some_iff.1 hg).1
   have c0 : wr.cell? ⟨g, 0, none⟩ = some (.int .i64 k') := (HIr.out.bel.cell (p := ⟨g, 0, none⟩) hgl0).trans (by simp [World.cell?, hg])
   have c1 : wr.cell? ⟨g, 1, none⟩ = some (.pointer q') := (HIr.out.bel.cell (p := ⟨g, 1, none⟩) hgl0).trans (by simp [World.cell?, hg])
   have hgl : g < wr.heap.size := Nat.lt_of_lt_of_le hgl0 HIr.out.bel.size
   have hg0 : W.heap.size ≠ g := by omega
   have hg1 : W.heap.size + 1 ≠ g := by omega
   have hg2 : W.heap.size + 2 ≠ g := by omega
   have HIn : Hid (SoI W (putY (setI wr (W.heap.size + 2) 0 ((i : Int) + 1)) W.heap.size k' q') k' q' (i + 1)) := HIr.out.step
   have HTn : Hid (TyM ok W d' b (.agg #[.int .i64 k', .pointer q'])) := hT'
   have HGn : Hid (∃ k0 q0 l', W.heap[g]? = some (.cells #[.int .i64 k0, .pointer q0] 44 (0, 0)) ∧ TyM ok W l' b (.agg #[.int .i64 k0, .pointer q0]) ∧ d' ≤ l') := ⟨k', q', d', hg, hT', Nat.le_refl _⟩
   have hi3 : i ≤ 3 := by have := HD.out; omega
   have HDn : Hid (d' + (i + 1) = l) := by have := HD.out; show _ = _; omega
   have hlt : i < l := by have := HD.out; omega
   have HMs : Hid (∀ V, SoI W V k' q' (i + 1) → l - (match V.cell? ⟨W.heap.size + 2, 0, none⟩ with | some v => (intOf v).toNat | none => 0) < l - (match wr.cell? ⟨W.heap.size + 2, 0, none⟩ with | some v => (intOf v).toNat | none => 0)) := fun V hV => by
    rw [hV.s.c0, s0]
    simp only [intOf]
    omega
   rcases HM.out with ⟨rfl, rfl⟩ | ⟨hi1, g', rfl, HG'⟩
   ·clear HTr HIr HD hT' hg hlt HM
    go_wp2
    go_roundw
    case rel => exact ⟨1, d', k', q', HDn, HIn, HTn, .inr ⟨Nat.le_refl _, g, rfl, HGn.out⟩⟩
    case measure => exact HMs.out _ HIn.out
   ·have hne : g ≠ g' := by
     rintro rfl
     obtain ⟨k0, q0, l', e1, e2, e3⟩ := HG'
     rw [hg] at e1
     cases e1
     have := hT'.inj e2
     omega
    have HGo : Hid (∃ k0 q0 l', W.heap[g']? = some (.cells #[.int .i64 k0, .pointer q0] 44 (0, 0)) ∧ TyM ok W l' b (.agg #[.int .i64 k0, .pointer q0]) ∧ d' ≤ l') := by
     obtain ⟨k0, q0, l', e1, e2, e3⟩ := HG'
     exact ⟨k0, q0, l', e1, e2, by omega⟩
    obtain ⟨i1, hj0, hj1, hj2, hj3⟩ := info_parts Tryz.infoTy
    have HQ : Hid (∀ z : Int, (binOp .eql 42 (.pointer (some ⟨g, 0, none⟩)) (.pointer (some ⟨g', 0, none⟩))).run Tryz.prog (wr.setCell ⟨W.heap.size + 1 + 1, 0, none⟩ (.int .i64 z)) = .ok (.bool false) (wr.setCell ⟨W.heap.size + 1 + 1, 0, none⟩ (.int .i64 z))) := by
     intro z
     obtain ⟨k0, q0, l', e1, e2, e3⟩ := HG'
     have hgl0' : g' < W.heap.size := (Array.getElem?_eq_some_iff.1 e1).1
     have a1 : (wr.setCell ⟨W.heap.size + 1 + 1, 0, none⟩ (.int .i64 z)).heap[g]? = some (.cells #[.int .i64 k', .pointer q'] 44 (0, 0)) := (heap_setCell_other wr ⟨W.heap.size + 1 + 1, 0, none⟩ g _ (by simp only [ne_eq]; omega)).trans ((HIr.out.bel.block g hgl0).trans hg)
     have a2 : (wr.setCell ⟨W.heap.size + 1 + 1, 0, none⟩ (.int .i64 z)).heap[g']? = some (.cells #[.int .i64 k0, .pointer q0] 44 (0, 0)) := (heap_setCell_other wr ⟨W.heap.size + 1 + 1, 0, none⟩ g' _ (by simp only [ne_eq]; omega)).trans ((HIr.out.bel.block g' hgl0').trans e1)
     exact run_eql_ptr_other _ Tryz.underlying42 hj0 (by rw [hj2]; decide) (by intro e; cases e; exact hne rfl) a1 a2
    clear hj0 hj1 hj2 hj3
    obtain rfl | rfl | rfl : i = 1 ∨ i = 2 ∨ i = 3 := by omega
    ·clear HTr HIr HD hT' hg hlt HM HG'
     go_wp2
     rw [HQ.out]
     go_wp2
     go_roundw
     case rel => exact ⟨2, d', k', q', HDn, HIn, HTn, .inr ⟨by omega, g, rfl, HGn.out⟩⟩
     case measure => exact HMs.out _ HIn.out
    ·clear HTr HIr HD hT' hg hlt HM HG'
     go_wp2
     rw [HQ.out]
     go_wp2
     go_roundw
     case rel => exact ⟨3, d', k', q', HDn, HIn, HTn, .inr ⟨by omega, g', rfl, HGo.out⟩⟩
     case measure => exact HMs.out _ HIn.out
    ·clear HTr HIr HD hT' hg hlt HM HG'
     go_wp2
     rw [HQ.out]
     go_wp2
     go_roundw
     case rel => exact ⟨4, d', k', q', HDn, HIn, HTn, .inr ⟨by omega, g, rfl, HGn.out⟩⟩
     case measure => exact HMs.out _ HIn.out

end Go.Proofs.YtgmmfpdekefamaaGreatDoor

namespace Go.Proofs.YtgmmfpdekefamaaGreatDoor
open Go.RowKit
set_option linter.unusedVariables false
set_option linter.unusedSimpArgs false
set_option maxRecDepth 100000

/-- typeOf on its way: so many lists stand around what is made -/
structure TfI (W V : World) (s : Sh) (d : Nat) (k : Int) (q : Option Addr) : Prop where
 bel : Below W.heap.size W V
 sh : ShAt V W.heap.size s.1 s.2
 r : TyAt V (W.heap.size + 1) 0 none
 t : TyAt V (W.heap.size + 2) k q
 ty : TyM (fun g => W.heap.size + 3 ≤ g) V d s.2 (.agg #[.int .i64 k, .pointer q])
theorem TyAt.putO {w : World} {B D : Nat} {k k' : Int} {q q' : Option Addr} (h : TyAt w B k q) (hD : B ≠ D) : TyAt (putY w D k' q') B k q :=
 (heap_setCell_other _ ⟨D, 1, none⟩ B _ hD).trans ((heap_setCell_other w ⟨D, 0, none⟩ B _ hD).trans h)
theorem putY_block (w : World) (D B : Nat) (k : Int) (q : Option Addr) (hD : B ≠ D) : (putY w D k q).heap[B]? = w.heap[B]? :=
 (heap_setCell_other _ ⟨D, 1, none⟩ B _ hD).trans (heap_setCell_other w ⟨D, 0, none⟩ B _ hD)
theorem putY_size (w : World) (D : Nat) (k : Int) (q : Option Addr) : (putY w D k q).heap.size = w.heap.size := by simp [putY]
theorem TfI.step {W V : World} {s : Sh} {d : Nat} {k : Int} {q : Option Addr} (h : TfI W V s d k q) : TfI W ((putY V (W.heap.size + 2) 3 (some ⟨V.heap.size, 0, none⟩)).alloc (.cells #[.int .i64 k, .pointer q] 44)) s (d + 1) 3 (some ⟨V.heap.size, 0, none⟩) := by
 have ha := alloc_below (putY V (W.heap.size + 2) 3 (some ⟨V.heap.size, 0, none⟩)) (.cells #[.int .i64 k, .pointer q] 44)
 have hsz := putY_size V (W.heap.size + 2) 3 (some ⟨V.heap.size, 0, none⟩)
 have hlt := h.t.lt
 have n1 := TyAt.new (putY V (W.heap.size + 2) 3 (some ⟨V.heap.size, 0, none⟩)) k q
 rw [hsz] at n1
 have hb1 : Below W.heap.size W (putY V (W.heap.size + 2) 3 (some ⟨V.heap.size, 0, none⟩)) := belowSetA (belowSetA h.bel (by omega) _ _) (by omega) _ _
 have g1 : ShAt (putY V (W.heap.size + 2) 3 (some ⟨V.heap.size, 0, none⟩)) W.heap.size s.1 s.2 := h.sh.putO (by omega) _ _
 have g2 : TyAt (putY V (W.heap.size + 2) 3 (some ⟨V.heap.size, 0, none⟩)) (W.heap.size + 1) 0 none := h.r.putO (by omega)
 have g3 : TyAt (putY V (W.heap.size + 2) 3 (some ⟨V.heap.size, 0, none⟩)) (W.heap.size + 2) 3 (some ⟨V.heap.size, 0, none⟩) := h.t.put _ _
 refine ⟨hb1.trans (ha.mono hb1.size), g1.below ha g1.lt, g2.below ha g2.lt, g3.below ha g3.lt, ?_⟩
 refine .inr ⟨V.heap.size, k, q, rfl, by omega, n1, ?_⟩
 exact h.ty.moved fun g hg hk => ⟨hk, (ha.block g (by omega)).trans (putY_block _ _ _ _ _ (by have : W.heap.size + 3 ≤ g := hk; omega))⟩
theorem TfI.new (W : World) {s : Sh} (hb : s.2 ≠ 0) (hO : OkS s) : TfI W (((W.alloc (.cells #[.int .i64 s.1, .int .i64 s.2] 89)).alloc (.cells #[.int .i64 0, .pointer none] 44)).alloc (.cells #[.int .i64 s.2, .pointer none] 44)) s 0 s.2 none := by
 have h1 := two_below W (.cells #[.int .i64 s.1, .int .i64 s.2] 89) (.cells #[.int .i64 0, .pointer none] 44)
 have h3 := alloc_below ((W.alloc (.cells #[.int .i64 s.1, .int .i64 s.2] 89)).alloc (.cells #[.int .i64 0, .pointer none] 44)) (.cells #[.int .i64 s.2, .pointer none] 44)
 have a1 := ShAt.new W s.1 s.2
 have h2 := alloc_below (W.alloc (.cells #[.int .i64 s.1, .int .i64 s.2] 89)) (.cells #[.int .i64 0, .pointer none] 44)
 have a2 := TyAt.new (W.alloc (.cells #[.int .i64 s.1, .int .i64 s.2] 89)) 0 none
 have a3 := TyAt.new ((W.alloc (.cells #[.int .i64 s.1, .int .i64 s.2] 89)).alloc (.cells #[.int .i64 0, .pointer none] 44)) s.2 none
 have b1 := (a1.below h2 a1.lt).below h3 (a1.below h2 a1.lt).lt
 have b2 := a2.below h3 a2.lt
 rw [alloc_size] at a2 b2
 rw [alloc_size, alloc_size] at a3
 refine ⟨h1.trans (h3.mono h1.size), b1, b2, a3, rfl, ?_⟩
 unfold OkS at hO
 omega
theorem TfI.newZ (W : World) (m : Nat) : TfI W (((W.alloc (.cells #[.int .i64 ((m : Int) + 1), .int .i64 0] 89)).alloc (.cells #[.int .i64 0, .pointer none] 44)).alloc (.cells #[.int .i64 3, .pointer none] 44)) (m + 1, 0) 1 3 none := by
 have h1 := two_below W (.cells #[.int .i64 ((m : Int) + 1), .int .i64 0] 89) (.cells #[.int .i64 0, .pointer none] 44)
 have h3 := alloc_below ((W.alloc (.cells #[.int .i64 ((m : Int) + 1), .int .i64 0] 89)).alloc (.cells #[.int .i64 0, .pointer none] 44)) (.cells #[.int .i64 3, .pointer none] 44)
 have a1 := ShAt.new W ((m : Int) + 1) 0
 have h2 := alloc_below (W.alloc (.cells #[.int .i64 ((m : Int) + 1), .int .i64 0] 89)) (.cells #[.int .i64 0, .pointer none] 44)
 have a2 := TyAt.new (W.alloc (.cells #[.int .i64 ((m : Int) + 1), .int .i64 0] 89)) 0 none
 have a3 := TyAt.new ((W.alloc (.cells #[.int .i64 ((m : Int) + 1), .int .i64 0] 89)).alloc (.cells #[.int .i64 0, .pointer none] 44)) 3 none
 have b1 := (a1.below h2 a1.lt).below h3 (a1.below h2 a1.lt).lt
 have b2 := a2.below h3 a2.lt
 rw [alloc_size] at a2 b2
 rw [alloc_size, alloc_size] at a3
 exact ⟨h1.trans (h3.mono h1.size), b1, b2, a3, .inl ⟨rfl, rfl, rfl⟩⟩

set_option maxHeartbeats 8000000 in
theorem atypeof_any {W : World} {s : Sh} (hO : OkS s) (hl : s.1 ≤ 100000) : Calls Tryz.prog 38 #[shV s] W fun e w' => ∃ k q, e = .returned (.agg #[.int .i64 k, .pointer q]) ∧ Below W.heap.size W w' ∧ TyA (fun g => W.heap.size ≤ g) w' s (.agg #[.int .i64 k, .pointer q]) := by
 have key : ∃ d, (d = 0 ∧ s.2 ≠ 0) ∨ (d = 1 ∧ s.2 = 0 ∧ 1 ≤ s.1) := by
  unfold OkS at hO
  by_cases h : s.2 = 0
  ·exact ⟨1, by omega⟩
  ·exact ⟨0, by omega⟩
 have HP : Hid (∀ V d k q, d = s.1 → TfI W V s d k q → TyAt (putY V (W.heap.size + 1) k q) (W.heap.size + 1) k q ∧ Below W.heap.size W (putY V (W.heap.size + 1) k q) ∧ TyA (fun g => W.heap.size ≤ g) (putY V (W.heap.size + 1) k q) s (.agg #[.int .i64 k, .pointer q])) := fun V d k q hd h => by
  subst hd
  refine ⟨h.r.put k q, belowSetA (belowSetA h.bel (by omega) _ _) (by omega) _ _, ?_⟩
  exact TyM.moved h.ty fun g hg hk => ⟨by have : W.heap.size + 3 ≤ g := hk; omega, putY_block _ _ _ _ _ (by have : W.heap.size + 3 ≤ g := hk; omega)⟩
 obtain ⟨l, b⟩ := s
 simp only at hl key
 unfold shV
 simp only
 rcases key with ⟨d, ⟨rfl, hb⟩ | ⟨rfl, rfl, h1⟩⟩
 ·have HI : Hid (TfI W (((W.alloc (.cells #[.int .i64 l, .int .i64 b] 89)).alloc (.cells #[.int .i64 0, .pointer none] 44)).alloc (.cells #[.int .i64 b, .pointer none] 44)) (l, b) 0 b none) := TfI.new W hb hO
  have hbz : (b == 0) = false := by rw [beq_eq_false_iff_ne]; exact hb
  clear hO
  go_enter Tryz.func38, Tryz.ntmps38
  go_wp2
  generalize ((W.alloc (.cells #[.int .i64 l, .int .i64 b] 89)).alloc (.cells #[.int .i64 0, .pointer none] 44)).alloc (.cells #[.int .i64 b, .pointer none] 44) = w1 at *
  go_loopw [18] (fun iv wr => ∃ (j d : Nat) (k : Int) (q : Option Addr), iv = .int .i64 j ∧ j ≤ l ∧ Hid (d = j + 0) ∧ Hid (TfI W wr (l, b) d k q)) (fun iv _ => l - (intOf iv).toNat)
  case atStart => exact ⟨0, 0, _, _, rfl, Nat.zero_le _, by show _ = _; omega, HI⟩
  case round =>
   clear HI
   obtain ⟨j, d, k, q, rfl, hj, HD, HIr⟩ := hrel
   have t0 := HIr.out.t.c0
   have t1 := HIr.out.t.c1
   have tz0 := HIr.out.t.fz 0
   have tz1 := HIr.out.t.fz 1
   have tl := HIr.out.t.lt
   by_cases hlt : j < l
   ·have hltI : (j : Int) < (l : Int) := by omega
    have HIn : Hid (TfI W ((putY wr (W.heap.size + 2) 3 (some ⟨wr.heap.size, 0, none⟩)).alloc (.cells #[.int .i64 k, .pointer q] 44)) (l, b) (d + 1) 3 (some ⟨wr.heap.size, 0, none⟩)) := HIr.out.step
    have HDn : Hid (d + 1 = (j + 1) + 0) := by have := HD.out; show _ = _; omega
    clear HIr HD
    go_wp2
    go_roundw
    case rel => exact ⟨j + 1, d + 1, _, _, by go_num, by omega, HDn, HIn⟩
    case measure => simp [intOf]; omega
   ·obtain rfl : j = l := by omega
    have HQ : Hid (TyAt (putY wr (W.heap.size + 1) k q) (W.heap.size + 1) k q ∧ Below W.heap.size W (putY wr (W.heap.size + 1) k q) ∧ TyA (fun g => W.heap.size ≤ g) (putY wr (W.heap.size + 1) k q) (j, b) (.agg #[.int .i64 k, .pointer q])) := HP.out wr d k q (by have := HD.out; omega) HIr.out
    have r0 := HIr.out.r.c0
    have r1 := HIr.out.r.c1
    have rz0 := HIr.out.r.fz 0
    have rz1 := HIr.out.r.fz 1
    have rl := HIr.out.r.lt
    clear HIr HD HP
    generalize hVV : putY wr (W.heap.size + 1) k q = VV at HQ
    have HW : Hid (putY wr (W.heap.size + 1) k q = VV) := hVV
    clear hVV
    go_wp2
    have hW := HW.out
    unfold putY at hW
    rw [hW]
    have x0 := HQ.out.1.c0
    have x1 := HQ.out.1.c1
    refine bodyPost_ret (v := .agg #[.int .i64 k, .pointer q]) ?_ rfl ?_
    ·simp [results, go_sem, x0, x1]
    ·exact ⟨k, q, rfl, HQ.out.2⟩
 ·obtain ⟨m, rfl⟩ : ∃ m, l = m + 1 := ⟨l - 1, by omega⟩
  have hwm : IntKind.i64.wrap (((m + 1 : Nat) : Int) - 1) = (m : Int) := by rw [IntKind.wrap_i64]; omega
  have HI : Hid (TfI W (((W.alloc (.cells #[.int .i64 ((m : Int) + 1), .int .i64 0] 89)).alloc (.cells #[.int .i64 0, .pointer none] 44)).alloc (.cells #[.int .i64 3, .pointer none] 44)) (m + 1, 0) 1 3 none) := TfI.newZ W m
  clear hO
  go_enter Tryz.func38, Tryz.ntmps38
  go_wp2
  generalize ((W.alloc (.cells #[.int .i64 ((m : Int) + 1), .int .i64 0] 89)).alloc (.cells #[.int .i64 0, .pointer none] 44)).alloc (.cells #[.int .i64 3, .pointer none] 44) = w1 at *
  go_loopw [18] (fun iv wr => ∃ (j d : Nat) (k : Int) (q : Option Addr), iv = .int .i64 j ∧ j ≤ m ∧ Hid (d = j + 1) ∧ Hid (TfI W wr (m + 1, 0) d k q)) (fun iv _ => m - (intOf iv).toNat)
  case atStart => exact ⟨0, 1, _, _, rfl, Nat.zero_le _, by show _ = _; omega, HI⟩
  case round =>
   clear HI
   obtain ⟨j, d, k, q, rfl, hj, HD, HIr⟩ := hrel
   have t0 := HIr.out.t.c0
   have t1 := HIr.out.t.c1
   have tz0 := HIr.out.t.fz 0
   have tz1 := HIr.out.t.fz 1
   have tl := HIr.out.t.lt
   by_cases hlt : j < m
   ·have hltI : (j : Int) < (m : Int) := by omega
    have HIn : Hid (TfI W ((putY wr (W.heap.size + 2) 3 (some ⟨wr.heap.size, 0, none⟩)).alloc (.cells #[.int .i64 k, .pointer q] 44)) (m + 1, 0) (d + 1) 3 (some ⟨wr.heap.size, 0, none⟩)) := HIr.out.step
    have HDn : Hid (d + 1 = (j + 1) + 1) := by have := HD.out; show _ = _; omega
    clear HIr HD
    go_wp2
    go_roundw
    case rel => exact ⟨j + 1, d + 1, _, _, by go_num, by omega, HDn, HIn⟩
    case measure => simp [intOf]; omega
   ·obtain rfl : j = m := by omega
    have HQ : Hid (TyAt (putY wr (W.heap.size + 1) k q) (W.heap.size + 1) k q ∧ Below W.heap.size W (putY wr (W.heap.size + 1) k q) ∧ TyA (fun g => W.heap.size ≤ g) (putY wr (W.heap.size + 1) k q) (j + 1, 0) (.agg #[.int .i64 k, .pointer q])) := HP.out wr d k q (by have := HD.out; omega) HIr.out
    have r0 := HIr.out.r.c0
    have r1 := HIr.out.r.c1
    have rz0 := HIr.out.r.fz 0
    have rz1 := HIr.out.r.fz 1
    have rl := HIr.out.r.lt
    clear HIr HD HP
    generalize hVV : putY wr (W.heap.size + 1) k q = VV at HQ
    have HW : Hid (putY wr (W.heap.size + 1) k q = VV) := hVV
    clear hVV
    go_wp2
    have hW := HW.out
    unfold putY at hW
    rw [hW]
    have x0 := HQ.out.1.c0
    have x1 := HQ.out.1.c1
    refine bodyPost_ret (v := .agg #[.int .i64 k, .pointer q]) ?_ rfl ?_
    ·simp [results, go_sem, x0, x1]
    ·exact ⟨k, q, rfl, HQ.out.2⟩

end Go.Proofs.YtgmmfpdekefamaaGreatDoor
