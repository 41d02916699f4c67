/- Texts of the proof, put together: APln. -/
import Derived.Test.YthbglakncijahaaGreatDoorAw01
import Derived.Deep.RegionHeld3
import Derived.Deep.RegionLaw
import Derived.Deep.AppendLies
namespace Go.Proofs.YthbglakncijahaaGreatDoor
open Go.RowKit
set_option linter.unusedVariables false
set_option maxRecDepth 100000

structure TmP where
  kind : Int
  num : Int
  text : ByteArray
  kids : List Int
def noTm : TmP := ⟨0, 0, ByteArray.empty, []⟩
def kidE (acc : List Ex) (k : Int) : Ex := if k < 0 ∨ (acc.length : Int) ≤ k then nilE else acc.getD k.toNat nilE
def mkE (acc : List Ex) (p : TmP) : Ex := ⟨true, p.kind, p.num, p.text, p.kids.map (kidE acc)⟩
def allE (ps : List TmP) : List Ex := ps.foldl (fun acc p => acc ++ [mkE acc p]) []
theorem allTr_take (ps : List TmP) (i : Nat) (h : i < ps.length) : allE (ps.take (i + 1)) = allE (ps.take i) ++ [mkE (allE (ps.take i)) (ps.getD i noTm)] := by
  unfold allE
  rw [List.take_succ_eq_append_getElem h, List.foldl_append]
  simp [h]
theorem foldE_len (ps : List TmP) : ∀ acc : List Ex, (ps.foldl (fun acc p => acc ++ [mkE acc p]) acc).length = acc.length + ps.length := by
  induction ps with
  | nil => intro acc; simp
  | cons p ps ih => intro acc; rw [List.foldl_cons, ih]; simp; omega
theorem allTr_len (ps : List TmP) : (allE ps).length = ps.length := by unfold allE; rw [foldE_len]; simp

/-- a term in memory -/
structure TmR (w : World) (b off : Nat) (p : TmP) (kv : Value) : Prop where
  c0 : w.cell? ⟨b, off, none⟩ = some (.int .i64 p.kind)
  c1 : w.cell? ⟨b, off + 1, none⟩ = some (.int .i64 p.num)
  c2 : w.cell? ⟨b, off + 2, none⟩ = some (.string p.text)
  c3 : w.cell? ⟨b, off + 3, none⟩ = some kv
  kids : IntsR w kv p.kids
def TmsR (w : World) (v : Value) (ps : List TmP) : Prop := ∃ a c, v = .slice a ps.length c ∧ (ps = [] ∨ ∃ b off, a = some ⟨b, off, none⟩ ∧ b < w.heap.size ∧ ∀ j, j < ps.length → ∃ kv, TmR w b (off + j * 4) (ps.getD j noTm) kv)
theorem TmR.below {w w' : World} {b off : Nat} {p : TmP} {kv : Value} (h : TmR w b off p kv) (hlt : b < w.heap.size) (hb : Below w.heap.size w w') : TmR w' b off p kv :=
  ⟨(hb.cell (p := ⟨b, off, none⟩) hlt).trans h.c0, (hb.cell (p := ⟨b, off + 1, none⟩) hlt).trans h.c1, (hb.cell (p := ⟨b, off + 2, none⟩) hlt).trans h.c2, (hb.cell (p := ⟨b, off + 3, none⟩) hlt).trans h.c3, h.kids.below hb⟩
theorem TmsR.below {w w' : World} {v : Value} {ps : List TmP} (h : TmsR w v ps) (hb : Below w.heap.size w w') : TmsR w' v ps := by
  obtain ⟨a, c, h1, h2⟩ := h
  refine ⟨a, c, h1, h2.imp id fun ⟨b, off, e, hg, hc⟩ => ⟨b, off, e, Nat.lt_of_lt_of_le hg hb.size, fun j hj => ?_⟩⟩
  obtain ⟨kv, hp⟩ := hc j hj
  exact ⟨kv, hp.below hg hb⟩
theorem TmsR.slice {w : World} {v : Value} {l : List TmP} (h : TmsR w v l) : ∃ a c, v = .slice a l.length c := by
  obtain ⟨a, c, e, _⟩ := h; exact ⟨a, c, e⟩
theorem TmsR.at {w : World} {a : Option Addr} {n c : Nat} {ps : List TmP} (h : TmsR w (.slice a n c) ps) {k : Nat} (hk : k < ps.length) : ∃ b off kv, a = some ⟨b, off, none⟩ ∧ b < w.heap.size ∧ TmR w b (off + k * 4) (ps.getD k noTm) kv := by
  obtain ⟨a', c', e, h2⟩ := h
  obtain ⟨rfl, rfl, rfl⟩ : a = a' ∧ n = ps.length ∧ c = c' := by simpa using e
  rcases h2 with rfl | ⟨b, off, rfl, hb, hc⟩
  · simp at hk
  · obtain ⟨v, hp⟩ := hc k hk
    exact ⟨b, off, v, rfl, hb, hp⟩

theorem Tryz.infoPExpr : (Tryz.prog.info? 24).map (fun i => (i.zero, i.size, i.bytes)) = some (some (.pointer none), 1, 8) := by kernel_rfl
theorem grownBy_of_belowE {w w' : World} (h : Below w.heap.size w w') (row : Option Nat) : w.grownBy w' row := ⟨h.os, h.tape, h.output, h.size, fun k hk _ => h.block k hk⟩
/-- pointers in a row of the call's own -/
def PtrsE (w : World) (B : Nat) (v : Value) (l : List Ex) : Prop := ∃ vs : List Value, vs.length = l.length ∧ w.ownsRow B 24 1 v vs.length vs ∧ ∀ j, j < l.length → ∃ t, l[j]? = some t ∧ Expr (fun b => B ≤ b ∧ v.ownBlock ≠ some b) w (vs.getD j .nilFunc) t ∧ ∃ b, vs.getD j .nilFunc = .pointer (some ⟨b, 0, none⟩)
theorem ptrsE_slice {w : World} {B : Nat} {v : Value} {l : List Ex} (h : PtrsE w B v l) : ∃ a c, v = .slice a l.length c := by
  obtain ⟨vs, hl, hown, _⟩ := h
  rcases hown.2 with ⟨rfl, h0⟩ | ⟨g, cap, cur, rfl, _⟩
  · exact ⟨none, 0, by rw [← hl, h0]⟩
  · exact ⟨_, _, by rw [← hl]⟩
theorem fuelE_all {ok : Nat → Prop} {w : World} : ∀ (l : List Ex) (vs : List Value), vs.length = l.length → (∀ j, j < l.length → ∃ t, l[j]? = some t ∧ Expr ok w (vs.getD j .nilFunc) t) → ∃ n, ∀ j, j < l.length → ∃ t, l[j]? = some t ∧ IsEx ok n w (vs.getD j .nilFunc) t
  | [], _, _, _ => ⟨0, fun j hj => by simp at hj⟩
  | a :: l, [], h, _ => by simp at h
  | a :: l, v :: vs, h, hall => by
    obtain ⟨n, hn⟩ := fuelE_all l vs (by simpa using h) (fun j hj => by
      have := hall (j + 1) (by simpa using hj)
      simpa using this)
    obtain ⟨t, ht, m, hm⟩ := hall 0 (by simp)
    refine ⟨max n m, fun j hj => ?_⟩
    cases j with
    | zero => exact ⟨t, ht, hm.more m _ (Nat.le_max_right _ _)⟩
    | succ j =>
      obtain ⟨t', h1, h2⟩ := hn j (by simpa using hj)
      exact ⟨t', by simpa using h1, by simpa using h2.more n _ (Nat.le_max_left _ _)⟩
/-- a tree more behind -/
theorem PtrsE.snoc {w w4 : World} {B : Nat} {v v' : Value} {q : Nat} {l : List Ex} {t : Ex} {vs : List Value} {o : Obj} (hl : vs.length = l.length) (hall : ∀ j, j < l.length → ∃ t, l[j]? = some t ∧ Expr (fun b => B ≤ b ∧ v.ownBlock ≠ some b) w (vs.getD j .nilFunc) t ∧ ∃ b, vs.getD j .nilFunc = .pointer (some ⟨b, 0, none⟩)) (hp : Expr (fun b => B ≤ b ∧ v.ownBlock ≠ some b) w (.pointer (some ⟨q, 0, none⟩)) t)
    (hown : w4.ownsRow B 24 1 v' (vs.length + 1) (vs ++ [.pointer (some ⟨q, 0, none⟩)])) (hg : (w.alloc o).grownBy w4 v.ownBlock) (hat : v'.ownBlock = v.ownBlock ∨ v'.ownBlock = some (w.alloc o).heap.size) : PtrsE w4 B v' (l ++ [t]) := by
  have hmv : ∀ {u : Value} {t : Ex}, Expr (fun b => B ≤ b ∧ v.ownBlock ≠ some b) w u t → Expr (fun b => B ≤ b ∧ v'.ownBlock ≠ some b) w4 u t := fun h => by
    refine h.moved (Nat.le_trans (by simp) hg.size) fun b hb hok => ⟨⟨hok.1, ?_⟩, ?_⟩
    · rcases hat with h | h
      · rw [h]; exact hok.2
      · rw [h]; simp; omega
    · rw [hg.block b (by simp; omega) (fun e => hok.2 e.symm)]
      exact Below.heap_alloc w o b hb
  refine ⟨vs ++ [.pointer (some ⟨q, 0, none⟩)], by simp [hl], by simpa using hown, fun j hj => ?_⟩
  by_cases hj2 : j < l.length
  · obtain ⟨t', h1, h2, h3⟩ := hall j hj2
    have e : (vs ++ [Value.pointer (some ⟨q, 0, none⟩)]).getD j .nilFunc = vs.getD j .nilFunc := by
      simp [List.getD_eq_getElem?_getD, List.getElem?_append_left (show j < vs.length by omega)]
    refine ⟨t', by rw [List.getElem?_append_left hj2]; exact h1, ?_, by rw [e]; exact h3⟩
    rw [e]
    exact hmv h2
  · have hj3 : j = l.length := by simp at hj; omega
    subst hj3
    have e : (vs ++ [Value.pointer (some ⟨q, 0, none⟩)]).getD l.length .nilFunc = .pointer (some ⟨q, 0, none⟩) := by rw [← hl]; simp
    refine ⟨t, by simp, ?_, ⟨q, e⟩⟩
    rw [e]
    exact hmv hp

/-- a node that is being made: what came ahead of it lies below S, the node at Q -/
structure NdE (S Q : Nat) (w0 w : World) (p : TmP) (kv : Value) (k : Nat) (us : List Value) : Prop where
  bel : Below S w0 w
  q : S ≤ Q ∧ Q < w.heap.size
  blk : w.heap[Q]? = some (.cells #[.int .i64 p.kind, .int .i64 p.num, .string p.text, kv] 64 (0, 0))
  own : w.ownsRow (Q + 1) 24 1 kv k us
  len : us.length = k
theorem NdE.cell2 {S Q k : Nat} {w0 w : World} {p : TmP} {kv : Value} {us : List Value} (h : NdE S Q w0 w p kv k us) : w.cell? ⟨Q, 3, none⟩ = some kv := by simp [World.cell?, h.blk]
theorem NdE.slice {S Q k : Nat} {w0 w : World} {p : TmP} {kv : Value} {us : List Value} (h : NdE S Q w0 w p kv k us) : ∃ a c, kv = .slice a k c := by
  rcases h.own.2 with ⟨rfl, h0⟩ | ⟨g, cap, cur, rfl, _⟩
  · exact ⟨none, 0, by rw [h0]⟩
  · exact ⟨_, _, rfl⟩
theorem NdE.step {S Q k g cap : Nat} {w0 w w5 : World} {p : TmP} {kv u : Value} {us : List Value} {o : Obj} (h : NdE S Q w0 w p kv k us) (hown : w5.ownsRow (Q + 1) 24 1 (.slice (some ⟨g, 0, none⟩) (k + 1) cap) (k + 1) (us ++ [u])) (hg : (w.alloc o).grownBy w5 kv.ownBlock) (hat : kv.ownBlock = some g ∨ g = w.heap.size + 1) :
    w5.cell? ⟨Q, 3, none⟩ = some kv ∧ w5.frozen? ⟨Q, 3, none⟩ = false ∧ Q < w5.heap.size ∧ NdE S Q w0 (w5.setCell ⟨Q, 3, none⟩ (.slice (some ⟨g, 0, none⟩) (k + 1) cap)) p (.slice (some ⟨g, 0, none⟩) (k + 1) cap) (k + 1) (us ++ [u]) := by
  have hol : ∀ b, kv.ownBlock = some b → Q + 1 ≤ b ∧ b < w.heap.size := fun b hb => h.own.lt b hb
  obtain ⟨hq1, hq2⟩ := h.q
  have hs5 : w.heap.size + 1 ≤ w5.heap.size := by have := hg.size; simpa using this
  have hset : ∀ b, b ≠ Q → (w5.setCell ⟨Q, 3, none⟩ (.slice (some ⟨g, 0, none⟩) (k + 1) cap)).heap[b]? = w5.heap[b]? := fun b hb => Below.heap_setCell _ _ _ _ (by simpa using hb)
  have hsz : (w5.setCell ⟨Q, 3, none⟩ (.slice (some ⟨g, 0, none⟩) (k + 1) cap)).heap.size = w5.heap.size := by simp
  have h45 : ∀ b, b < w.heap.size → kv.ownBlock ≠ some b → w5.heap[b]? = w.heap[b]? := fun b hb hne => (hg.block b (by simp; omega) (fun e => hne e.symm)).trans (Below.heap_alloc w o b hb)
  have hne : ∀ b, b < Q + 1 → kv.ownBlock ≠ some b := fun b hb e => by have := hol b e; omega
  have hb5 := (h45 Q hq2 (hne Q (by omega))).trans h.blk
  have hgQ : g ≠ Q := by
    rcases hat with e | e
    · have := hol g e; omega
    · omega
  refine ⟨by simp [World.cell?, hb5], by simp [World.frozen?, hb5], by omega, ⟨?_, ⟨hq1, by rw [hsz]; omega⟩, ?_, ?_, by simp [h.len]⟩⟩
  · refine ⟨?_, ?_, ?_, by rw [hsz]; have := h.bel.size; omega, fun c hc => ?_⟩
    · exact hg.os.trans h.bel.os
    · simpa using hg.tape.trans h.bel.tape
    · exact hg.output.trans h.bel.output
    · rw [hset c (by omega), h45 c (by omega) (hne c (by omega))]
      exact h.bel.block c hc
  · have := heap_setCell_same w5 Q 3 _ 64 (.slice (some ⟨g, 0, none⟩) (k + 1) cap) hb5
    simpa using this
  · refine ⟨hown.1, ?_⟩
    rcases hown.2 with ⟨e, _⟩ | ⟨g', cap', cur, e, k1, k2, k3⟩
    · simp at e
    · simp only [Value.slice.injEq, Option.some.injEq, Addr.mk.injEq, and_true, true_and] at e
      obtain ⟨rfl, rfl⟩ := e
      exact .inr ⟨g, cap, cur, rfl, k1, (hset g hgQ).trans k2, k3⟩
theorem NdE.start {S : Nat} {w0 w : World} {p : TmP} (hb : Below S w0 w) (hS : S ≤ w.heap.size) :
    NdE S w.heap.size w0 (w.alloc (.cells #[.int .i64 p.kind, .int .i64 p.num, .string p.text, .slice none 0 0] 64)) p (.slice none 0 0) 0 [] := by
  have hga := alloc_below w (.cells #[.int .i64 p.kind, .int .i64 p.num, .string p.text, .slice none 0 0] 64)
  exact ⟨hb.trans (hga.mono hS), ⟨hS, by simp⟩, heap_alloc_new w _, ⟨rfl, .inl ⟨rfl, rfl⟩⟩, rfl⟩

/-- a kid as it lies in memory -/
def kidVE (n : Nat) (vs : List Value) (k : Int) : Value := if k < 0 ∨ (n : Int) ≤ k then .pointer none else vs.getD k.toNat .nilFunc
theorem own_cellE {w : World} {B g cap n : Nat} {vs : List Value} (h : w.ownsRow B 24 1 (.slice (some ⟨g, 0, none⟩) n cap) n vs) {j : Nat} (hj : j < n) : w.cell? ⟨g, j, none⟩ = some (vs.getD j .nilFunc) := by
  have hl : vs.length = n := by have := h.1; simpa using this
  have hc := h.cells (g := g) rfl j (vs.getD j .nilFunc) (by rw [List.getD_eq_getElem?_getD, List.getElem?_eq_getElem (by omega)]; rfl)
  have hadd : (⟨g, 0, none⟩ : Addr).add j = ⟨g, 0 + j, none⟩ := by unfold Addr.add; split <;> simp_all
  rw [hadd, Nat.zero_add] at hc
  exact hc

theorem mk_exprE {S Q B : Nat} {w0 w : World} {p : TmP} {kv av : Value} {us vs : List Value} {A : List Ex} (hN : NdE S Q w0 w p kv p.kids.length us) (hS : S = w0.heap.size) (hB : B ≤ S) (hav : ∀ b, av.ownBlock = some b → b < S) (hvs : vs.length = A.length)
    (hall : ∀ j, j < A.length → ∃ t, A[j]? = some t ∧ Expr (fun b => B ≤ b ∧ av.ownBlock ≠ some b) w0 (vs.getD j .nilFunc) t) (hus : us = p.kids.map (kidVE A.length vs)) :
    Expr (fun b => B ≤ b ∧ av.ownBlock ≠ some b) w (.pointer (some ⟨Q, 0, none⟩)) (mkE A p) := by
  obtain ⟨n, hn⟩ := fuelE_all A vs hvs hall
  obtain ⟨hq1, hq2⟩ := hN.q
  have hnew : ∀ b, S ≤ b → B ≤ b ∧ av.ownBlock ≠ some b := fun b hb => ⟨by omega, fun e => by have := hav b e; omega⟩
  have hbel := hN.bel
  refine ⟨n + 2, .inr ⟨rfl, Q, kv, rfl, hnew Q hq1, hN.blk, ?_⟩⟩
  have hkl : (mkE A p).kids = p.kids.map (kidE A) := rfl
  rw [hkl]
  by_cases h0 : p.kids.length = 0
  · have e : p.kids = [] := List.eq_nil_of_length_eq_zero h0
    obtain ⟨a, c, hk⟩ := hN.slice
    exact .inl ⟨by rw [e]; rfl, a, c, by rw [hk, h0]⟩
  · obtain ⟨g, cap, hk, hg1, hg2⟩ := hN.own.form (by omega)
    subst hk
    refine .inr ⟨g, 0, cap, by rw [List.length_map], hg2, hnew g (by omega), fun j hj => ?_⟩
    rw [List.length_map] at hj
    refine ⟨us.getD j .nilFunc, by rw [Nat.zero_add]; exact own_cellE hN.own hj, ?_⟩
    have e1 : us.getD j .nilFunc = kidVE A.length vs (p.kids.getD j 0) := by rw [hus]; simp [hj]
    have e2 : (p.kids.map (kidE A)).getD j nilE = kidE A (p.kids.getD j 0) := by simp [hj]
    rw [e1, e2]
    generalize p.kids.getD j 0 = k
    unfold kidVE kidE
    by_cases hr : k < 0 ∨ (A.length : Int) ≤ k
    · rw [if_pos hr, if_pos hr]
      exact .inl ⟨rfl, rfl⟩
    · rw [if_neg hr, if_neg hr]
      obtain ⟨t, ht, hT⟩ := hn k.toNat (by omega)
      have e3 : A.getD k.toNat nilE = t := by rw [List.getD_eq_getElem?_getD, ht]; rfl
      rw [e3]
      exact (IsEx.more n (n + 1) (by omega) hT).moved (by rw [← hS] ; exact Nat.le_trans (by omega) (Nat.le_of_lt hq2)) fun b hb hok => ⟨hok, hbel.block b (by omega)⟩

/-- what is kept between two terms -/
def TmI (w0 : World) (ps : List TmP) (wr : World) (i : Nat) (av : Value) : Prop := PtrsE wr w0.heap.size av (allE (ps.take i)) ∧ Below w0.heap.size w0 wr
theorem TmI.slice {w0 wr : World} {ps : List TmP} {i : Nat} {av : Value} (h : TmI w0 ps wr i av) (hi : i ≤ ps.length) : ∃ a c, av = .slice a i c := by
  obtain ⟨a, c, e⟩ := ptrsE_slice h.1
  have : (allE (ps.take i)).length = i := by rw [allTr_len, List.length_take]; omega
  rw [this] at e
  exact ⟨a, c, e⟩

end Go.Proofs.YthbglakncijahaaGreatDoor
