/- Texts of the proof, put together: AExp5. -/
import Derived.Test.YthbglakncijahaaGreatDoorAw25
import Derived.Test.YthbglakncijahaaGreatDoorAw29
namespace Go.Proofs.YthbglakncijahaaGreatDoor
open Go.RowKit
set_option linter.unusedVariables false
set_option maxRecDepth 100000

/-- an expression that grows: its block, the row of its kids -/
structure LsM (B Q : Nat) (w : World) (kind : Int) (text : ByteArray) (kv : Value) (k : Nat) (us : List Value) : Prop where
  q : B ≤ Q ∧ Q < w.heap.size
  blk : w.heap[Q]? = some (.cells #[.int .i64 kind, .int .i64 0, .string text, kv] 64 (0, 0))
  own : w.ownsRow (Q + 1) 24 1 kv k us
  len : us.length = k
/-- .. and what the kids are -/
def LsK (B Q : Nat) (w : World) (kv : Value) (us : List Value) (xs : List Ex) : Prop := us.length = xs.length ∧ ∀ j, j < xs.length → ∃ u, us[j]? = some u ∧ Expr (fun b => B ≤ b ∧ b ≠ Q ∧ kv.ownBlock ≠ some b) w u (xs.getD j nilE)
theorem LsM.nd {B Q k : Nat} {w : World} {kind : Int} {text : ByteArray} {kv : Value} {us : List Value} (h : LsM B Q w kind text kv k us) : NdE Q Q w w ⟨kind, 0, text, []⟩ kv k us := ⟨Below.refl _ _, ⟨Nat.le_refl _, h.q.2⟩, h.blk, h.own, h.len⟩
theorem LsM.slice {B Q k : Nat} {w : World} {kind : Int} {text : ByteArray} {kv : Value} {us : List Value} (h : LsM B Q w kind text kv k us) : ∃ a c, kv = .slice a k c := h.nd.slice
theorem LsM.new {B : Nat} {w : World} (hB : B ≤ w.heap.size) (kind : Int) (text : ByteArray) : LsM B w.heap.size (w.alloc (.cells #[.int .i64 kind, .int .i64 0, .string text, .slice none 0 0] 64)) kind text (.slice none 0 0) 0 [] :=
  ⟨⟨hB, by rw [alloc_size]; omega⟩, allocAtA w _, ⟨rfl, .inl ⟨rfl, rfl⟩⟩, rfl⟩
theorem LsM.grown {B Q k R : Nat} {w w' : World} {kind : Int} {text : ByteArray} {kv : Value} {us : List Value} (h : LsM B Q w kind text kv k us) (hR : R < B) (hg : w.grownBy w' (some R)) : LsM B Q w' kind text kv k us := by
  have hq := h.q
  refine ⟨⟨hq.1, Nat.lt_of_lt_of_le hq.2 hg.size⟩, (hg.block Q hq.2 (fun e => by cases e; omega)).trans h.blk, h.own.kept hg ?_, h.len⟩
  cases e : kv.ownBlock with
  | none => first | exact .inl rfl | simp
  | some b =>
    have := h.own.lt b e
    first | exact .inr (fun h => by cases h; omega) | (simp; omega)
theorem LsK.grown {B Q R : Nat} {w w' : World} {kv : Value} {us : List Value} {xs : List Ex} (h : LsK B Q w kv us xs) (hR : R < B) (hg : w.grownBy w' (some R)) : LsK B Q w' kv us xs :=
  ⟨h.1, fun j hj => by
    obtain ⟨u, h1, h2⟩ := h.2 j hj
    exact ⟨u, h1, h2.moved hg.size fun b hb hok => ⟨hok, hg.block b hb (fun e => by cases e; omega)⟩⟩⟩
/-- one kid more -/
theorem LsM.step {B Q k g cap : Nat} {w w5 : World} {kind : Int} {text : ByteArray} {kv u : Value} {us : List Value} {o : Obj} (h : LsM B Q w kind text kv k us) (hown : w5.ownsRow (Q + 1) 24 1 (.slice (some ⟨g, 0, none⟩) (k + 1) cap) (k + 1) (us ++ [u])) (hg : (w.alloc o).grownBy w5 kv.ownBlock) (hat : kv.ownBlock = some g ∨ g = w.heap.size + 1) :
    w5.cell? ⟨Q, 3, none⟩ = some kv ∧ w5.frozen? ⟨Q, 3, none⟩ = false ∧ Q < w5.heap.size ∧ LsM B Q (w5.setCell ⟨Q, 3, none⟩ (.slice (some ⟨g, 0, none⟩) (k + 1) cap)) kind text (.slice (some ⟨g, 0, none⟩) (k + 1) cap) (k + 1) (us ++ [u]) ∧ Below Q w (w5.setCell ⟨Q, 3, none⟩ (.slice (some ⟨g, 0, none⟩) (k + 1) cap)) := by
  obtain ⟨h1, h2, h3, h4⟩ := h.nd.step hown hg hat
  exact ⟨h1, h2, h3, ⟨⟨h.q.1, h4.q.2⟩, h4.blk, h4.own, h4.len⟩, h4.bel⟩
theorem LsK.step {B Q k g cap : Nat} {w w5 : World} {kind : Int} {text : ByteArray} {kv u : Value} {us : List Value} {xs : List Ex} {x : Ex} {o : Obj} (h : LsM B Q w kind text kv k us) (hk : LsK B Q w kv us xs) (hu : Expr (fun b => B ≤ b ∧ b ≠ Q ∧ kv.ownBlock ≠ some b) w u x) (hg : (w.alloc o).grownBy w5 kv.ownBlock) (hat : kv.ownBlock = some g ∨ g = w.heap.size + 1) :
    LsK B Q (w5.setCell ⟨Q, 3, none⟩ (.slice (some ⟨g, 0, none⟩) (k + 1) cap)) (.slice (some ⟨g, 0, none⟩) (k + 1) cap) (us ++ [u]) (xs ++ [x]) := by
  have hmv : ∀ {v : Value} {t : Ex}, Expr (fun b => B ≤ b ∧ b ≠ Q ∧ kv.ownBlock ≠ some b) w v t → Expr (fun b => B ≤ b ∧ b ≠ Q ∧ (Value.slice (some ⟨g, 0, none⟩) (k + 1) cap).ownBlock ≠ some b) (w5.setCell ⟨Q, 3, none⟩ (.slice (some ⟨g, 0, none⟩) (k + 1) cap)) v t := fun h => by
    refine h.moved (by rw [show (w5.setCell ⟨Q, 3, none⟩ (.slice (some ⟨g, 0, none⟩) (k + 1) cap)).heap.size = w5.heap.size by simp]; exact Nat.le_trans (by simp) hg.size) fun b hb hok => ⟨⟨hok.1, hok.2.1, ?_⟩, ?_⟩
    · intro e
      have e2 : g = b := by simpa [Value.ownBlock] using e
      rcases hat with e3 | e3
      · exact hok.2.2 (by rw [e3, e2])
      · omega
    · rw [Below.heap_setCell _ _ _ _ (by simpa using hok.2.1), hg.block b (by simp; omega) (fun e => hok.2.2 e.symm)]
      exact Below.heap_alloc w o b hb
  obtain ⟨h1, h2⟩ := hk
  refine ⟨by simp [h1], fun j hj => ?_⟩
  by_cases hj2 : j < xs.length
  · obtain ⟨v, e1, e2⟩ := h2 j hj2
    refine ⟨v, by rw [List.getElem?_append_left (by omega)]; exact e1, ?_⟩
    rw [show (xs ++ [x]).getD j nilE = xs.getD j nilE by simp [List.getD_eq_getElem?_getD, List.getElem?_append_left hj2]]
    exact hmv e2
  · obtain rfl : j = xs.length := by simp at hj; omega
    refine ⟨u, by rw [← h1]; simp, ?_⟩
    rw [show (xs ++ [x]).getD xs.length nilE = x by simp]
    exact hmv hu
/-- it is one -/
theorem LsM.ex {B Q k : Nat} {w : World} {kind : Int} {text : ByteArray} {kv : Value} {us : List Value} {xs : List Ex} (h : LsM B Q w kind text kv k us) (hk : LsK B Q w kv us xs) : ExB B w (.pointer (some ⟨Q, 0, none⟩)) (exN kind 0 text xs) := by
  have hl : k = xs.length := by rw [← h.len, hk.1]
  by_cases h0 : xs.length = 0
  · have e := List.eq_nil_of_length_eq_zero h0
    subst e
    obtain ⟨a, c, hs⟩ := h.slice
    have hb := h.blk
    rw [hs, hl] at hb
    exact ex_leaf hb h.q.1
  · obtain ⟨g, cap, hs, hg1, hg2⟩ := h.own.form (by omega)
    subst hs
    have hb := h.blk
    rw [hl] at hb
    rcases h.own.2 with ⟨e, _⟩ | ⟨g', cap', cur, e, k1, k2, k3⟩
    · simp at e
    · simp only [Value.slice.injEq, Option.some.injEq, Addr.mk.injEq, and_true, true_and] at e
      obtain ⟨rfl, rfl⟩ := e
      refine ex_new (vs := us) hb h.q.1 k2 (by have := h.q.1; omega) hk.1 (fun j hj => ?_) fun j hj => ?_
      · have hc := own_cellE h.own (show j < k by rw [← h.len]; exact hj)
        simp only [World.cell?, k2] at hc
        rw [List.getD_eq_getElem?_getD, List.getElem?_eq_getElem hj] at hc
        rw [List.getElem?_eq_getElem hj]
        simpa using hc
      · obtain ⟨u, e1, e2⟩ := hk.2 j hj
        exact ⟨u, e1, e2.imp fun b _ hb => hb.1⟩
theorem gBelow {a w w' : World} {row : Option Nat} {Q : Nat} (h : a.grownBy w row) (hQ : a.heap.size ≤ Q) (hb : Below Q w w') : a.grownBy w' row :=
  ⟨hb.os.trans h.os, hb.tape.trans h.tape, hb.output.trans h.output, Nat.le_trans h.size hb.size, fun k hk hne => (hb.block k (by omega)).trans (h.block k hk hne)⟩
theorem PX.belowQ {W0 w w' : World} {R Q : Nat} {s : ByteArray} {o : Option Tok} (h : PX W0 w R s o) (hQ : 16 ≤ Q) (hR : R < Q) (hb : Below Q w w') : PX W0 w' R s o := by
  have hblk : ∀ {t b z}, PsAt w R s t b z → PsAt w' R s t b z := fun hp => (hb.block R hR).trans hp
  refine ⟨⟨Nat.le_trans h.env.1 hb.size, fun k hk => (hb.block k (by omega)).trans (h.env.2 k hk)⟩, h.r16, h.text, Nat.lt_of_lt_of_le h.lt hb.size, fun t ht => ?_, fun ht => ?_⟩
  · obtain ⟨h1, z, h2⟩ := h.good t ht
    exact ⟨h1, z, hblk h2⟩
  · obtain ⟨t, te, pe, z, h1, h2⟩ := h.bad ht
    exact ⟨t, te, pe, z, h1, hblk h2⟩

end Go.Proofs.YthbglakncijahaaGreatDoor
