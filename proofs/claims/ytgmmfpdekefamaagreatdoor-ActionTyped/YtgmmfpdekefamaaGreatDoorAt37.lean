/- Texts of the proof, put together: AExp5, AExp6, AExp7. -/
import Derived.Test.YtgmmfpdekefamaaGreatDoorAt36
namespace Go.Proofs.YtgmmfpdekefamaaGreatDoor
open Go.RowKit
set_option linter.unusedVariables false
set_option maxRecDepth 100000

/-- an expression that grows: its block, the row of its kids -/
structure LsM (B Q : Nat) (w : World) (kind : Int) (text : ByteArray) (kv : Value) (k : Nat) (us : List Value) : Prop where
 q : B ≤ Q ∧ Q < w.heap.size
 blk : w.heap[Q]? = some (.cells #[.int .i64 kind, .int .i64 0, .string text, kv] 64 (0, 0))
 own : w.ownsRow (Q + 1) 24 1 kv k us
 len : us.length = k
/-- .. and what the kids are -/
def LsK (B Q : Nat) (w : World) (kv : Value) (us : List Value) (xs : List Ex) : Prop := us.length = xs.length ∧ ∀ j, j < xs.length → ∃ u, us[j]? = some u ∧ Expr (fun b => B ≤ b ∧ b ≠ Q ∧ kv.ownBlock ≠ some b) w u (xs.getD j nilE)
theorem LsM.nd {B Q k : Nat} {w : World} {kind : Int} {text : ByteArray} {kv : Value} {us : List Value} (h : LsM B Q w kind text kv k us) : NdE Q Q w w ⟨kind, 0, text, []⟩ kv k us := ⟨Below.refl _ _, ⟨Nat.le_refl _, h.q.2⟩, h.blk, h.own, h.len⟩
theorem LsM.slice {B Q k : Nat} {w : World} {kind : Int} {text : ByteArray} {kv : Value} {us : List Value} (h : LsM B Q w kind text kv k us) : ∃ a c, kv = .slice a k c := h.nd.slice
theorem LsM.new {B : Nat} {w : World} (hB : B ≤ w.heap.size) (kind : Int) (text : ByteArray) : LsM B w.heap.size (w.alloc (.cells #[.int .i64 kind, .int .i64 0, .string text, .slice none 0 0] 64)) kind text (.slice none 0 0) 0 [] :=
 ⟨⟨hB, by rw [alloc_size]; omega⟩, allocAtA w _, ⟨rfl, .inl ⟨rfl, rfl⟩⟩, rfl⟩
theorem LsM.grown {B Q k R : Nat} {w w' : World} {kind : Int} {text : ByteArray} {kv : Value} {us : List Value} (h : LsM B Q w kind text kv k us) (hR : R < B) (hg : w.grownBy w' (some R)) : LsM B Q w' kind text kv k us := by
 have hq := h.q
 refine ⟨⟨hq.1, Nat.lt_of_lt_of_le hq.2 hg.size⟩, (hg.block Q hq.2 (fun e => by cases e; omega)).trans h.blk, h.own.kept hg ?_, h.len⟩
 cases e : kv.ownBlock with
 | none => first | exact .inl rfl | simp
 | some b =>
  have := h.own.lt b e
  first | exact .inr (fun h => by cases h; omega) | (simp; omega)
theorem LsK.grown {B Q R : Nat} {w w' : World} {kv : Value} {us : List Value} {xs : List Ex} (h : LsK B Q w kv us xs) (hR : R < B) (hg : w.grownBy w' (some R)) : LsK B Q w' kv us xs :=
 ⟨h.1, fun j hj => by
  obtain ⟨u, h1, h2⟩ := h.2 j hj
  exact ⟨u, h1, h2.moved hg.size fun b hb hok => ⟨hok, hg.block b hb (fun e => by cases e; omega)⟩⟩⟩
/-- one kid more -/
theorem LsM.step {B Q k g cap : Nat} {w w5 : World} {kind : Int} {text : ByteArray} {kv u : Value} {us : List Value} {o : Obj} (h : LsM B Q w kind text kv k us) (hown : w5.ownsRow (Q + 1) 24 1 (.slice (some ⟨g, 0, none⟩) (k + 1) cap) (k + 1) (us ++ [u])) (hg : (w.alloc o).grownBy w5 kv.ownBlock) (hat : kv.ownBlock = some g ∨ g = w.heap.size + 1) :
  w5.cell? ⟨Q, 3, none⟩ = some kv ∧ w5.frozen? ⟨Q, 3, none⟩ = false ∧ Q < w5.heap.size ∧ LsM B Q (w5.setCell ⟨Q, 3, none⟩ (.slice (some ⟨g, 0, none⟩) (k + 1) cap)) kind text (.slice (some ⟨g, 0, none⟩) (k + 1) cap) (k + 1) (us ++ [u]) ∧ Below Q w (w5.setCell ⟨Q, 3, none⟩ (.slice (some ⟨g, 0, none⟩) (k + 1) cap)) := by
 obtain ⟨h1, h2, h3, h4⟩ := h.nd.step hown hg hat
 exact ⟨h1, h2, h3, ⟨⟨h.q.1, h4.q.2⟩, h4.blk, h4.own, h4.len⟩, h4.bel⟩
theorem LsK.step {B Q k g cap : Nat} {w w5 : World} {kind : Int} {text : ByteArray} {kv u : Value} {us : List Value} {xs : List Ex} {x : Ex} {o : Obj} (h : LsM B Q w kind text kv k us) (hk : LsK B Q w kv us xs) (hu : Expr (fun b => B ≤ b ∧ b ≠ Q ∧ kv.ownBlock ≠ some b) w u x) (hg : (w.alloc o).grownBy w5 kv.ownBlock) (hat : kv.ownBlock = some g ∨ g = w.heap.size + 1) :
  LsK B Q (w5.setCell ⟨Q, 3, none⟩ (.slice (some ⟨g, 0, none⟩) (k + 1) cap)) (.slice (some ⟨g, 0, none⟩) (k + 1) cap) (us ++ [u]) (xs ++ [x]) := by
 have hmv : ∀ {v : Value} {t : Ex}, Expr (fun b => B ≤ b ∧ b ≠ Q ∧ kv.ownBlock ≠ some b) w v t → Expr (fun b => B ≤ b ∧ b ≠ Q ∧ (Value.slice (some ⟨g, 0, none⟩) (k + 1) cap).ownBlock ≠ some b) (w5.setCell ⟨Q, 3, none⟩ (.slice (some ⟨g, 0, none⟩) (k + 1) cap)) v t := fun h => by
  refine h.moved (by rw [show (w5.setCell ⟨Q, 3, none⟩ (.slice (some ⟨g, 0, none⟩) (k + 1) cap)).heap.size = w5.heap.size by simp]; exact Nat.le_trans (by simp) hg.size) fun b hb hok => ⟨⟨hok.1, hok.2.1, ?_⟩, ?_⟩
  ·intro e
   have e2 : g = b := by simpa [Value.ownBlock] using e
   rcases hat with e3 | e3
   ·exact hok.2.2 (by rw [e3, e2])
   ·omega
  ·rw [Below.heap_setCell _ _ _ _ (by simpa using hok.2.1), hg.block b (by simp; omega) (fun e => hok.2.2 e.symm)]
   exact Below.heap_alloc w o b hb
 obtain ⟨h1, h2⟩ := hk
 refine ⟨by simp [h1], fun j hj => ?_⟩
 by_cases hj2 : j < xs.length
 ·obtain ⟨v, e1, e2⟩ := h2 j hj2
  refine ⟨v, by rw [List.getElem?_append_left (by omega)]; exact e1, ?_⟩
  rw [show (xs ++ [x]).getD j nilE = xs.getD j nilE by simp [List.getD_eq_getElem?_getD, List.getElem?_append_left hj2]]
  exact hmv e2
 ·obtain rfl : j = xs.length := by simp at hj; omega
  refine ⟨u, by rw [← h1]; simp, ?_⟩
  rw [show (xs ++ [x]).getD xs.length nilE = x by simp]
  exact hmv hu
/-- it is one -/
theorem LsM.ex {B Q k : Nat} {w : World} {kind : Int} {text : ByteArray} {kv : Value} {us : List Value} {xs : List Ex} (h : LsM B Q w kind text kv k us) (hk : LsK B Q w kv us xs) : ExB B w (.pointer (some ⟨Q, 0, none⟩)) (exN kind 0 text xs) := by
 have hl : k = xs.length := by rw [← h.len, hk.1]
 by_cases h0 : xs.length = 0
 ·have e := List.eq_nil_of_length_eq_zero h0
  subst e
  obtain ⟨a, c, hs⟩ := h.slice
  have hb := h.blk
  rw [hs, hl] at hb
  exact ex_leaf hb h.q.1
 ·obtain ⟨g, cap, hs, hg1, hg2⟩ := h.own.form (by omega)
  subst hs
  have hb := h.blk
  rw [hl] at hb
  rcases h.own.2 with ⟨e, _⟩ | ⟨g', cap', cur, e, k1, k2, k3⟩
  ·simp at e
  ·simp only [Value.slice.injEq, Option.some.injEq, Addr.mk.injEq, and_true, true_and] at e
   obtain ⟨rfl, rfl⟩ := e
   refine ex_new (vs := us) hb h.q.1 k2 (by have := h.q.1; omega) hk.1 (fun j hj => ?_) fun j hj => ?_
   ·have hc := own_cellE h.own (show j < k by rw [← h.len]; exact hj)
    simp only [World.cell?, k2] at hc
    rw [List.getD_eq_getElem?_getD, List.getElem?_eq_getElem hj] at hc
    rw [List.getElem?_eq_getElem hj]
    simpa using hc
   ·obtain ⟨u, e1, e2⟩ := hk.2 j hj
    exact ⟨u, e1, e2.imp fun b _ hb => hb.1⟩
theorem gBelow {a w w' : World} {row : Option Nat} {Q : Nat} (h : a.grownBy w row) (hQ : a.heap.size ≤ Q) (hb : Below Q w w') : a.grownBy w' row :=
 ⟨hb.os.trans h.os, hb.tape.trans h.tape, hb.output.trans h.output, Nat.le_trans h.size hb.size, fun k hk hne => (hb.block k (by omega)).trans (h.block k hk hne)⟩
theorem PX.belowQ {W0 w w' : World} {R Q : Nat} {s : ByteArray} {o : Option Tok} (h : PX W0 w R s o) (hQ : 16 ≤ Q) (hR : R < Q) (hb : Below Q w w') : PX W0 w' R s o := by
 have hblk : ∀ {t b z}, PsAt w R s t b z → PsAt w' R s t b z := fun hp => (hb.block R hR).trans hp
 refine ⟨⟨Nat.le_trans h.env.1 hb.size, fun k hk => (hb.block k (by omega)).trans (h.env.2 k hk)⟩, h.r16, h.text, Nat.lt_of_lt_of_le h.lt hb.size, fun t ht => ?_, fun ht => ?_⟩
 ·obtain ⟨h1, z, h2⟩ := h.good t ht
  exact ⟨h1, z, hblk h2⟩
 ·obtain ⟨t, te, pe, z, h1, h2⟩ := h.bad ht
  exact ⟨t, te, pe, z, h1, hblk h2⟩

end Go.Proofs.YtgmmfpdekefamaaGreatDoor

namespace Go.Proofs.YtgmmfpdekefamaaGreatDoor
open Go.RowKit
set_option linter.unusedVariables false
set_option maxRecDepth 100000

/-- where a list is on its way: en: it has come to its end -/
def lsR (s : ByteArray) (ex : Tok → RE) (en : Bool) (f : Nat) (xs : List Ex) (o : Option Tok) : RE := if en = true then o.map (fun t => (exN 9 0 emptyT xs, t)) else elsS s ex f xs o
structure LsI (W0 w0 wr : World) (R m : Nat) (s : ByteArray) (ex : Tok → RE) (res : RE) (en : Bool) (o : Option Tok) (kv : Value) (k : Nat) (us : List Value) : Prop where
 grown : w0.grownBy wr (some R)
 px : PX W0 wr R s o
 ok : OkO s m o
 mem : LsM w0.heap.size w0.heap.size wr 9 emptyT kv k us
 kb : k ≤ s.size + 1
 kt : ∀ t, o = some t → en = false → k ≤ t.fr
 val : ∃ xs f, res = lsR s ex en f xs o ∧ (∀ t, o = some t → LsK w0.heap.size w0.heap.size wr kv us xs ∧ (en = false → s.size + 1 ≤ f + t.fr))
theorem elsS_none (s : ByteArray) (ex : Tok → RE) (f : Nat) (xs : List Ex) : elsS s ex f xs none = none := by
 cases f <;> rfl
theorem LsI.fin {W0 w0 wr : World} {R m : Nat} {s : ByteArray} {ex : Tok → RE} {res : RE} {en : Bool} {o : Option Tok} {kv : Value} {k : Nat} {us : List Value} (h : LsI W0 w0 wr R m s ex res en o kv k us) (he : en = true ∨ o = none) : GotE W0 w0 R s res (.returned (.pointer (some ⟨w0.heap.size, 0, none⟩))) wr := by
 obtain ⟨xs, f, hr, hv⟩ := h.val
 have hr2 : res = o.map (fun t => (exN 9 0 emptyT xs, t)) := by
  rw [hr]
  unfold lsR
  cases o with
  | none => split <;> first | rfl | exact elsS_none _ _ _ _
  | some t =>
   rcases he with he | he
   ·rw [if_pos he]
   ·cases he
 refine ⟨_, rfl, h.grown, ?_, fun x t hx => ?_⟩
 ·rw [hr2]
  have := h.px
  cases o <;> exact this
 ·rw [hr2] at hx
  obtain ⟨t', h1, h2⟩ := map_some hx
  simp only [Prod.mk.injEq] at h2
  obtain ⟨rfl, rfl⟩ := h2
  exact h.mem.ex (hv _ h1).1

def enOf : Value → Bool
 | .bool b => b
 | _ => false
/-- behind an element, ahead of its being put in -/
structure LsA (W0 w0 w2 : World) (R m : Nat) (s : ByteArray) (ex : Tok → RE) (res : RE) (t : Tok) (r2 : RE) (kv : Value) (k : Nat) (us : List Value) (p : Option Addr) : Prop where
 grown : w0.grownBy w2 (some R)
 px : PX W0 w2 R s (stE r2)
 ok : OkO s (t.fr + 1) (stE r2)
 mem : LsM w0.heap.size w0.heap.size w2 9 emptyT kv k us
 kb : k ≤ t.fr
 tb : t.fr ≤ s.size
 mt : m ≤ t.fr
 val : (r2 = none ∧ res = none) ∨ ∃ x u xs f, r2 = some (x, u) ∧ LsK w0.heap.size w0.heap.size w2 kv us xs ∧ Expr (fun b => w0.heap.size ≤ b ∧ b ≠ w0.heap.size ∧ kv.ownBlock ≠ some b) w2 (.pointer p) x ∧ s.size + 1 ≤ f + 1 + t.fr ∧ res = (if isS [93] (some u) = true then (nextS s (some u)).map fun v => (exN 9 0 emptyT (xs ++ [x]), v) else elsS s ex f (xs ++ [x]) (needS s [44] (some u)))
/-- .. behind it -/
structure LsB (W0 w0 w3 : World) (R m : Nat) (s : ByteArray) (ex : Tok → RE) (res : RE) (t : Tok) (r2 : RE) (kv : Value) (k : Nat) (us : List Value) : Prop where
 grown : w0.grownBy w3 (some R)
 px : PX W0 w3 R s (stE r2)
 ok : OkO s (t.fr + 1) (stE r2)
 mem : LsM w0.heap.size w0.heap.size w3 9 emptyT kv (k + 1) us
 kb : k ≤ t.fr
 tb : t.fr ≤ s.size
 mt : m ≤ t.fr
 val : (r2 = none ∧ res = none) ∨ ∃ x u xs f, r2 = some (x, u) ∧ LsK w0.heap.size w0.heap.size w3 kv us (xs ++ [x]) ∧ s.size + 1 ≤ f + 1 + t.fr ∧ res = (if isS [93] (some u) = true then (nextS s (some u)).map fun v => (exN 9 0 emptyT (xs ++ [x]), v) else elsS s ex f (xs ++ [x]) (needS s [44] (some u)))
theorem LsI.read {W0 w0 wr w2 : World} {R m : Nat} {s : ByteArray} {ex : Tok → RE} {res : RE} {t : Tok} {kv : Value} {k : Nat} {us : List Value} {p : Option Addr} (h : LsI W0 w0 wr R m s ex res false (some t) kv k us) (hgo : GoesE s ex) (hR : R < w0.heap.size) (hg : wr.grownBy w2 (some R)) (hX : PX W0 w2 R s (stE (ex t))) (hv : ∀ x u, ex t = some (x, u) → ExB wr.heap.size w2 (.pointer p) x) : LsA W0 w0 w2 R m s ex res t (ex t) kv k us p := by
 obtain ⟨hok, hm⟩ := h.ok t rfl
 obtain ⟨xs, f, hr, hh⟩ := h.val
 obtain ⟨hk, hf⟩ := hh t rfl
 have hf := hf rfl
 obtain ⟨f', rfl⟩ : ∃ f', f = f' + 1 := ⟨f - 1, by have := hok.2.1; omega⟩
 refine ⟨gT h.grown hg, hX, (OkO.one hok).st hgo, h.mem.grown hR hg, h.kt t rfl rfl, hok.2.1, hm, ?_⟩
 have hr2 : res = elsS s ex (f' + 1) xs (some t) := by rw [hr]; rfl
 rw [elsS] at hr2
 simp only [Option.bind_some] at hr2
 cases he : ex t with
 | none => rw [he] at hr2; exact .inl ⟨rfl, hr2⟩
 | some y =>
  obtain ⟨x, u⟩ := y
  rw [he] at hr2
  refine .inr ⟨x, u, xs, f', rfl, hk.grown hR hg, ?_, hf, hr2⟩
  refine Expr.imp (hv x u he) fun b hb hok => ⟨?_, ?_, ?_⟩
  ·have := h.grown.size; omega
  ·have := h.mem.q.2; omega
  ·intro e
   have := (h.mem.own.lt b e).2
   omega
theorem LsA.put {W0 w0 w2 w5 : World} {R m : Nat} {s : ByteArray} {ex : Tok → RE} {res : RE} {t : Tok} {r2 : RE} {kv : Value} {k : Nat} {us : List Value} {p : Option Addr} {o : Obj} {g cap : Nat} (h : LsA W0 w0 w2 R m s ex res t r2 kv k us p) (hR : R < w0.heap.size) (h16 : 16 ≤ R) (hown : w5.ownsRow (w0.heap.size + 1) 24 1 (.slice (some ⟨g, 0, none⟩) (k + 1) cap) (k + 1) (us ++ [.pointer p])) (hg : (w2.alloc o).grownBy w5 kv.ownBlock) (hat : kv.ownBlock = some g ∨ g = w2.heap.size + 1) :
  w5.cell? ⟨w0.heap.size, 3, none⟩ = some kv ∧ w5.frozen? ⟨w0.heap.size, 3, none⟩ = false ∧ w0.heap.size < w5.heap.size ∧ LsB W0 w0 (w5.setCell ⟨w0.heap.size, 3, none⟩ (.slice (some ⟨g, 0, none⟩) (k + 1) cap)) R m s ex res t r2 (.slice (some ⟨g, 0, none⟩) (k + 1) cap) k (us ++ [.pointer p]) := by
 obtain ⟨h1, h2, h3, h4, h5⟩ := h.mem.step hown hg hat
 refine ⟨h1, h2, h3, gBelow h.grown (Nat.le_refl _) h5, h.px.belowQ (by omega) hR h5, h.ok, h4, h.kb, h.tb, h.mt, ?_⟩
 rcases h.val with hn | ⟨x, u, xs, f, e1, e2, e3, e4, e5⟩
 ·exact .inl hn
 ·exact .inr ⟨x, u, xs, f, e1, LsK.step h.mem e2 e3 hg hat, e4, e5⟩
/-- the list has come to its end -/
theorem LsB.done {W0 w0 w3 w4 : World} {R m : Nat} {s : ByteArray} {ex : Tok → RE} {res : RE} {t : Tok} {r2 : RE} {kv : Value} {k : Nat} {us : List Value} (h : LsB W0 w0 w3 R m s ex res t r2 kv k us) (hR : R < w0.heap.size) (hi : isS [93] (stE r2) = true) (hg : w3.grownBy w4 (some R)) (hX : PX W0 w4 R s (nextS s (stE r2))) : LsI W0 w0 w4 R m s ex res true (nextS s (stE r2)) kv (k + 1) us := by
 rcases h.val with ⟨rfl, _⟩ | ⟨x, u, xs, f, rfl, e2, e4, e5⟩
 ·cases hi
 ·have hi2 : isS [93] (some u) = true := hi
  rw [if_pos hi2] at e5
  obtain ⟨g1, g2⟩ := h.ok u rfl
  have h1 := h.kb
  have h2 := h.tb
  have h3 := h.mt
  exact ⟨gT h.grown hg, hX, (OkO.next g1 g2 (by have := is_kind hi2; omega)).mono (by omega), h.mem.grown hR hg, by omega, fun t' _ e => (by cases e), xs ++ [x], 0, e5, fun t' _ => ⟨e2.grown hR hg, fun e => (by cases e)⟩⟩
/-- .. not yet -/
theorem LsB.more {W0 w0 w3 w4 : World} {R m : Nat} {s : ByteArray} {ex : Tok → RE} {res : RE} {t : Tok} {r2 : RE} {kv : Value} {k : Nat} {us : List Value} (h : LsB W0 w0 w3 R m s ex res t r2 kv k us) (hR : R < w0.heap.size) (hi : isS [93] (stE r2) = false) (hg : w3.grownBy w4 (some R)) (hX : PX W0 w4 R s (needS s [44] (stE r2))) : LsI W0 w0 w4 R m s ex res false (needS s [44] (stE r2)) kv (k + 1) us := by
 have h1 := h.kb
 have h2 := h.tb
 have h3 := h.mt
 have hO := h.ok.need [44]
 refine ⟨gT h.grown hg, hX, hO.mono (by omega), h.mem.grown hR hg, by omega, fun t' e _ => (by have := (hO t' e).2; omega), ?_⟩
 rcases h.val with ⟨rfl, e5⟩ | ⟨x, u, xs, f, rfl, e2, e4, e5⟩
 ·exact ⟨[], 0, e5, fun t' e => (by cases e)⟩
 ·have hi2 : isS [93] (some u) = false := hi
  rw [hi2] at e5
  exact ⟨xs ++ [x], f, e5, fun t' e => ⟨e2.grown hR hg, fun _ => (by have := (hO t' e).2; omega)⟩⟩

set_option maxHeartbeats 8000000 in
theorem plist_any {W0 w : World} (L : LibA W0) {R m : Nat} {s : ByteArray} {ex : Tok → RE} (hE : ExC W0 R s m ex) (hgo : GoesE s ex) {o : Option Tok} (h : PX W0 w R s o) (ho : OkO s m o) (hm : 1 ≤ m) :
  Calls Tryz.prog 183 #[.pointer (some ⟨R, 0, none⟩)] w (GotE W0 w R s (listS s ex o)) := by
 obtain ⟨i1, hj0, hj1, hj2, hj3⟩ := info_parts Tryz.infoPExpr
 have hRw := h.lt
 have h16 := h.r16
 have hsz := h.text
 generalize hres : listS s ex o = res
 have hal := alloc_below w (.cells #[.int .i64 9, .int .i64 0, .string ⟨#[]⟩, .slice none 0 0] 64)
 have HM : Hid (LsM w.heap.size w.heap.size (w.alloc (.cells #[.int .i64 9, .int .i64 0, .string ⟨#[]⟩, .slice none 0 0] 64)) 9 emptyT (.slice none 0 0) 0 []) := LsM.new (Nat.le_refl _) 9 emptyT
 have HE1 : Hid (Calls Tryz.prog 56 #[.pointer (some ⟨R, 0, none⟩), .string ⟨#[93]⟩] (w.alloc (.cells #[.int .i64 9, .int .i64 0, .string ⟨#[]⟩, .slice none 0 0] 64)) fun e w' => ∃ en o', e = .returned (.bool en) ∧ LsI W0 w w' R m s ex res en o' (.slice none 0 0) 0 []) := by
  have hX1 := h.below hal
  have := peat_any L hX1 ⟨#[93]⟩
  rw [Lib.toList_data] at this
  refine this.mono ?_
  rintro e w' ⟨rfl, hg, hX⟩
  have hg0 := gT (grownA_below hal (some R)) hg
  refine ⟨_, _, rfl, hg0, hX, ?_, HM.out.grown hRw hg, by omega, fun t _ _ => Nat.zero_le _, [], s.size + 1, ?_, fun t ht => ⟨⟨rfl, fun j hj => by simp at hj⟩, fun _ => by omega⟩⟩
  ·unfold eatS
   split
   ·rename_i hi
    cases o with
    | none => cases hi
    | some t =>
     obtain ⟨h1, h2⟩ := ho t rfl
     exact (OkO.next h1 h2 (by have := is_kind hi; omega)).mono (by omega)
   ·exact ho
  ·rw [← hres]
   unfold listS lsR eatS
   show _ = if isS [93] o = true then _ else _
   cases hi : isS [93] o
   ·simp
   ·simp
 have HEx : Hid (∀ w o, PX W0 w R s o → OkO s m o → Calls Tryz.prog 31 #[.pointer (some ⟨R, 0, none⟩)] w (GotE W0 w R s (o.bind ex))) := hE
 have HG : Hid (GoesE s ex) := hgo
 clear hres h ho hE hgo hal HM
 go_enter Tryz.func183, Tryz.ntmps183
 go_wp2_with fail
 go_at_call 56
 refine HE1.out.mono ?_
 rintro e w1 ⟨en1, o1, rfl, hI1⟩
 have HI1 : Hid (LsI W0 w w1 R m s ex res en1 o1 (.slice none 0 0) 0 []) := hI1
 clear HE1 hI1
 go_wp2_with fail
 go_loopw [4, 5] (fun ev _ wr => ∃ (en : Bool) (o : Option Tok) (kv : Value) (k : Nat) (us : List Value), ev = .bool en ∧ Hid (LsI W0 w wr R m s ex res en o kv k us)) (fun ev _ wr => if enOf ev = true then 0 else meaP s R wr)
 case atStart => exact ⟨en1, o1, _, 0, [], rfl, HI1⟩
 case round =>
  obtain ⟨en, o, kv, k, us, rfl, HI⟩ := hrel
  cases en
  ·obtain ⟨t, b, z, hp, hf, ⟨rfl, rfl, hok⟩ | ⟨rfl, te', pe', rfl⟩⟩ := HI.out.px.cells
   ·obtain ⟨c0, c1, c2, c3, c4, c5, c6, c7, c8⟩ := hp.cells
    have hO := HI.out.ok
    have HE2 : Hid (Calls Tryz.prog 31 #[.pointer (some ⟨R, 0, none⟩)] wr fun e w2 => ∃ p, e = .returned (.pointer p) ∧ LsA W0 w w2 R m s ex res t (ex t) kv k us p) := by
     refine (HEx.out wr (some t) HI.out.px hO).mono ?_
     rintro e w2 ⟨p, rfl, hg, hX, hv⟩
     exact ⟨p, rfl, HI.out.read HG.out hRw hg hX hv⟩
    have HX : Hid (PX W0 wr R s (some t)) := HI.out.px
    obtain ⟨va, vc, rfl⟩ := HI.out.mem.slice
    generalize ex t = r2 at *
    clear hp HI HEx HG hO
    go_wp2_with fail
    go_at_call 31
    refine HE2.out.mono ?_
    rintro e w2 ⟨p, rfl, hA⟩
    have HA : Hid (LsA W0 w w2 R m s ex res t r2 (.slice va k vc) k us p) := hA
    have hkb := hA.kb
    have htb := hA.tb
    have hq2 := hA.mem.q.2
    have d4 := hA.mem.nd.cell2
    clear hA HE2
    go_wp2_with (at_builtin; refine wpList_append_lies _ rfl _ _ 62 rfl (w.heap.size + 1) 24 i1 (.pointer none) 1 8 Tryz.underlying62 hj0 hj1 hj2 hj3 rfl (by decide) (.slice va k vc) k us rfl (World.ownsRow.alloc HA.out.mem.own _) ⟨w2.heap.size, 0, none⟩ 1 1 [.pointer p] rfl rfl (cell_one_new w2 _ _) (by intro x hx; simp at hx; subst hx; rfl) (by omega) (by unfold maxLen; omega) (by omega) (by simp; omega) (w2.heap.size + 1) (by simp) ?_)
    intro g9 cap9 w9 hown9 hg9 hat9 hlt9
    obtain ⟨q1, q2, q3, q4⟩ := HA.out.put hRw h16 hown9 hg9 hat9
    have HB : Hid (LsB W0 w (w9.setCell ⟨w.heap.size, 3, none⟩ (.slice (some ⟨g9, 0, none⟩) (k + 1) cap9)) R m s ex res t r2 (.slice (some ⟨g9, 0, none⟩) (k + 1) cap9) k (us ++ [.pointer p])) := q4
    clear q4 hown9 hg9 hat9 hlt9 HA d4
    go_wp2_with fail
    generalize w9.setCell ⟨w.heap.size, 3, none⟩ (.slice (some ⟨g9, 0, none⟩) (k + 1) cap9) = w3 at *
    have HEt : Hid (Calls Tryz.prog 56 #[.pointer (some ⟨R, 0, none⟩), .string ⟨#[93]⟩] w3 fun e w' => e = .returned (.bool (isS [93] (stE r2))) ∧ w3.grownBy w' (some R) ∧ PX W0 w' R s (eatS s [93] (stE r2))) := by
     have := peat_any L HB.out.px ⟨#[93]⟩
     rwa [Lib.toList_data] at this
    go_at_call 56
    refine HEt.out.mono ?_
    rintro e w4 ⟨rfl, hg4, hX4⟩
    clear HEt
    cases hi : isS [93] (stE r2)
    ·have e1 : eatS s [93] (stE r2) = stE r2 := by unfold eatS; rw [hi]; rfl
     rw [e1] at hX4
     have HNd : Hid (Calls Tryz.prog 58 #[.pointer (some ⟨R, 0, none⟩), .string ⟨#[44]⟩] w4 fun e w' => e = .returned (.tuple #[]) ∧ LsI W0 w w' R m s ex res false (needS s [44] (stE r2)) (.slice (some ⟨g9, 0, none⟩) (k + 1) cap9) (k + 1) (us ++ [.pointer p])) := by
      have := pneed_any L hX4 ⟨#[44]⟩
      rw [Lib.toList_data] at this
      refine this.mono ?_
      rintro e w5 ⟨rfl, hg5, hX5⟩
      exact ⟨rfl, HB.out.more hRw hi (gT hg4 hg5) hX5⟩
     have HO : Hid (OkO s (t.fr + 1) (needS s [44] (stE r2))) := (HB.out.ok.need [44]).mono (by omega)
     clear hX4 hg4 HB e1 hi
     go_wp2_with fail
     go_at_call 58
     refine HNd.out.mono ?_
     rintro e w5 ⟨rfl, hI5⟩
     have HI5 : Hid (LsI W0 w w5 R m s ex res false (needS s [44] (stE r2)) (.slice (some ⟨g9, 0, none⟩) (k + 1) cap9) (k + 1) (us ++ [.pointer p])) := hI5
     clear hI5 HNd
     go_wp2
     go_roundw
     case rel => exact ⟨false, _, _, _, _, rfl, HI5⟩
     case measure => exact meaP_lt HX.out HI5.out.px HO.out
    ·have e1 : eatS s [93] (stE r2) = nextS s (stE r2) := by unfold eatS; rw [hi]; rfl
     rw [e1] at hX4
     have HI5 : Hid (LsI W0 w w4 R m s ex res true (nextS s (stE r2)) (.slice (some ⟨g9, 0, none⟩) (k + 1) cap9) (k + 1) (us ++ [.pointer p])) := HB.out.done hRw hi hg4 hX4
     clear hX4 hg4 HB e1 hi
     go_wp2
     go_roundw
     case rel => exact ⟨true, _, _, _, _, rfl, HI5⟩
     case measure =>
      have := meaP_some HX.out
      simp only [enOf]
      rw [this]
      simp
   ·obtain ⟨c0, c1, c2, c3, c4, c5, c6, c7, c8⟩ := hp.cells
    have HF : Hid (GotE W0 w R s res (.returned (.pointer (some ⟨w.heap.size, 0, none⟩))) wr) := HI.out.fin (.inr rfl)
    clear hp HI HEx HG
    go_wp2
    go_ret
    exact HF.out
  ·have HF : Hid (GotE W0 w R s res (.returned (.pointer (some ⟨w.heap.size, 0, none⟩))) wr) := HI.out.fin (.inl rfl)
   clear HI HEx HG
   go_wp2
   go_ret
   exact HF.out

end Go.Proofs.YtgmmfpdekefamaaGreatDoor

namespace Go.Proofs.YtgmmfpdekefamaaGreatDoor
open Go.RowKit
set_option linter.unusedVariables false
set_option maxRecDepth 100000

set_option maxHeartbeats 4000000 in
theorem patom_bad {W0 w : World} {R : Nat} {s : ByteArray} {ex : Tok → RE} (h : PX W0 w R s none) :
  Calls Tryz.prog 163 #[.pointer (some ⟨R, 0, none⟩)] w (GotE W0 w R s ((none : Option Tok).bind (atomS s ex))) := by
 obtain ⟨t, te, pe, z, _, hp⟩ := h.bad rfl
 obtain ⟨c0, c1, c2, c3, c4, c5, c6, c7, c8⟩ := hp.cells
 have hal := alloc_below w (.cells #[.int .i64 t.kind, .string t.text, .int .i64 t.fr, .int .i64 t.fin, .int .i64 t.num] 71)
 have HX1 : Hid (PX W0 (w.alloc (.cells #[.int .i64 t.kind, .string t.text, .int .i64 t.fr, .int .i64 t.fin, .int .i64 t.num] 71)) R s none) := h.below hal
 have HG : Hid (w.grownBy (w.alloc (.cells #[.int .i64 t.kind, .string t.text, .int .i64 t.fr, .int .i64 t.fin, .int .i64 t.num] 71)) (some R)) := grownA_below hal _
 have hRw := h.lt
 have d7 := (hal.cell (p := ⟨R, 7, none⟩) hRw).trans c7
 clear h hp hal
 go_enter Tryz.func163, Tryz.ntmps163
 go_wp2
 go_ret
 exact ⟨none, rfl, HG.out, HX1.out, fun x t h => by cases h⟩

set_option maxHeartbeats 4000000 in
theorem patom_num {W0 w : World} (L : LibA W0) {R : Nat} {s : ByteArray} {ex : Tok → RE} {t : Tok} (h : PX W0 w R s (some t)) (hk : t.kind = 1) :
  Calls Tryz.prog 163 #[.pointer (some ⟨R, 0, none⟩)] w (GotE W0 w R s (atomS s ex t)) := by
 have hRw := h.lt
 obtain ⟨hok, z, hp⟩ := h.good t rfl
 obtain ⟨c0, c1, c2, c3, c4, c5, c6, c7, c8⟩ := hp.cells
 have hal := alloc_below w (.cells #[.int .i64 t.kind, .string t.text, .int .i64 t.fr, .int .i64 t.fin, .int .i64 t.num] 71)
 have HX1 : Hid (PX W0 (w.alloc (.cells #[.int .i64 t.kind, .string t.text, .int .i64 t.fr, .int .i64 t.fin, .int .i64 t.num] 71)) R s (some t)) := h.below hal
 have HT1 : Hid (TokAt (w.alloc (.cells #[.int .i64 t.kind, .string t.text, .int .i64 t.fr, .int .i64 t.fin, .int .i64 t.num] 71)) w.heap.size t) := TokAt.new w t
 have HB1 : Hid (Below w.heap.size w (w.alloc (.cells #[.int .i64 t.kind, .string t.text, .int .i64 t.fr, .int .i64 t.fin, .int .i64 t.num] 71))) := hal
 have HN : Hid (Calls Tryz.prog 30 #[.pointer (some ⟨R, 0, none⟩)] (w.alloc (.cells #[.int .i64 t.kind, .string t.text, .int .i64 t.fr, .int .i64 t.fin, .int .i64 t.num] 71)) fun e w' => e = .returned (.tuple #[]) ∧ w.grownBy w' (some R) ∧ PX W0 w' R s (nextS s (some t)) ∧ TokAt w' w.heap.size t) := by
  refine (pnext_any L HX1.out).mono ?_
  rintro e w' ⟨rfl, hg, hX⟩
  exact ⟨rfl, gT (grownA_below hal _) hg, hX, (hg.block _ HT1.out.lt (fun e => by cases e; omega)).trans HT1.out⟩
 have HV : Hid (atomS s ex t = (nextS s (some t)).map fun u => (exN 1 t.num emptyT [], u)) := by
  show _ = _
  unfold atomS
  rw [if_pos hk]
 rw [hk] at HN
 have hk2 : Hid (t.kind = 1) := hk
 rw [hk] at c2
 clear h hp hok HX1 HT1 HB1 hal hk
 generalize nextS s (some t) = o2 at *
 go_enter Tryz.func163, Tryz.ntmps163
 go_wp2_with fail
 go_at_call 30
 refine HN.out.mono ?_
 rintro e w2 ⟨rfl, hg2, hX2, hT2⟩
 obtain ⟨d0, d1, d2, d3, d4⟩ := hT2.cells
 clear HN hT2
 go_wp2
 go_ret
 have hb2 := alloc_below w2 (.cells #[.int .i64 1, .int .i64 t.num, .string ⟨#[]⟩, .slice none 0 0] 64)
 refine ⟨some ⟨w2.heap.size, 0, none⟩, by simp, gT hg2 (grownA_below hb2 _), ?_, fun x u hx => ?_⟩
 ·rw [HV.out]
  have := hX2.below hb2
  cases o2 <;> exact this
 ·rw [HV.out] at hx
  obtain ⟨v, h1, h2⟩ := map_some hx
  simp only [Prod.mk.injEq] at h2
  obtain ⟨rfl, rfl⟩ := h2
  exact ex_leaf (allocAtA w2 _) hg2.size

set_option maxHeartbeats 4000000 in
theorem patom_arg {W0 w : World} (L : LibA W0) {R : Nat} {s : ByteArray} {ex : Tok → RE} {t : Tok} (h : PX W0 w R s (some t)) (hk : t.kind = 3) :
  Calls Tryz.prog 163 #[.pointer (some ⟨R, 0, none⟩)] w (GotE W0 w R s (atomS s ex t)) := by
 have hRw := h.lt
 obtain ⟨hok, z, hp⟩ := h.good t rfl
 obtain ⟨c0, c1, c2, c3, c4, c5, c6, c7, c8⟩ := hp.cells
 have hal := alloc_below w (.cells #[.int .i64 t.kind, .string t.text, .int .i64 t.fr, .int .i64 t.fin, .int .i64 t.num] 71)
 have HX1 : Hid (PX W0 (w.alloc (.cells #[.int .i64 t.kind, .string t.text, .int .i64 t.fr, .int .i64 t.fin, .int .i64 t.num] 71)) R s (some t)) := h.below hal
 have HT1 : Hid (TokAt (w.alloc (.cells #[.int .i64 t.kind, .string t.text, .int .i64 t.fr, .int .i64 t.fin, .int .i64 t.num] 71)) w.heap.size t) := TokAt.new w t
 have HB1 : Hid (Below w.heap.size w (w.alloc (.cells #[.int .i64 t.kind, .string t.text, .int .i64 t.fr, .int .i64 t.fin, .int .i64 t.num] 71))) := hal
 have HN : Hid (Calls Tryz.prog 30 #[.pointer (some ⟨R, 0, none⟩)] (w.alloc (.cells #[.int .i64 t.kind, .string t.text, .int .i64 t.fr, .int .i64 t.fin, .int .i64 t.num] 71)) fun e w' => e = .returned (.tuple #[]) ∧ w.grownBy w' (some R) ∧ PX W0 w' R s (nextS s (some t)) ∧ TokAt w' w.heap.size t) := by
  refine (pnext_any L HX1.out).mono ?_
  rintro e w' ⟨rfl, hg, hX⟩
  exact ⟨rfl, gT (grownA_below hal _) hg, hX, (hg.block _ HT1.out.lt (fun e => by cases e; omega)).trans HT1.out⟩
 have HV : Hid (atomS s ex t = (nextS s (some t)).map fun u => (exN 3 t.num emptyT [], u)) := by
  show _ = _
  unfold atomS
  rw [if_neg (by omega), if_pos hk]
 rw [hk] at HN
 have hk2 : Hid (t.kind = 3) := hk
 rw [hk] at c2
 clear h hp hok HX1 HT1 HB1 hal hk
 generalize nextS s (some t) = o2 at *
 go_enter Tryz.func163, Tryz.ntmps163
 go_wp2_with fail
 go_at_call 30
 refine HN.out.mono ?_
 rintro e w2 ⟨rfl, hg2, hX2, hT2⟩
 obtain ⟨d0, d1, d2, d3, d4⟩ := hT2.cells
 clear HN hT2
 go_wp2
 go_ret
 have hb2 := alloc_below w2 (.cells #[.int .i64 3, .int .i64 t.num, .string ⟨#[]⟩, .slice none 0 0] 64)
 refine ⟨some ⟨w2.heap.size, 0, none⟩, by simp, gT hg2 (grownA_below hb2 _), ?_, fun x u hx => ?_⟩
 ·rw [HV.out]
  have := hX2.below hb2
  cases o2 <;> exact this
 ·rw [HV.out] at hx
  obtain ⟨v, h1, h2⟩ := map_some hx
  simp only [Prod.mk.injEq] at h2
  obtain ⟨rfl, rfl⟩ := h2
  exact ex_leaf (allocAtA w2 _) hg2.size

set_option maxHeartbeats 4000000 in
theorem patom_text {W0 w : World} (L : LibA W0) {R : Nat} {s : ByteArray} {ex : Tok → RE} {t : Tok} (h : PX W0 w R s (some t)) (hk : t.kind = 2) :
  Calls Tryz.prog 163 #[.pointer (some ⟨R, 0, none⟩)] w (GotE W0 w R s (atomS s ex t)) := by
 have hRw := h.lt
 obtain ⟨hok, z, hp⟩ := h.good t rfl
 obtain ⟨c0, c1, c2, c3, c4, c5, c6, c7, c8⟩ := hp.cells
 have hal := alloc_below w (.cells #[.int .i64 t.kind, .string t.text, .int .i64 t.fr, .int .i64 t.fin, .int .i64 t.num] 71)
 have HX1 : Hid (PX W0 (w.alloc (.cells #[.int .i64 t.kind, .string t.text, .int .i64 t.fr, .int .i64 t.fin, .int .i64 t.num] 71)) R s (some t)) := h.below hal
 have HT1 : Hid (TokAt (w.alloc (.cells #[.int .i64 t.kind, .string t.text, .int .i64 t.fr, .int .i64 t.fin, .int .i64 t.num] 71)) w.heap.size t) := TokAt.new w t
 have HB1 : Hid (Below w.heap.size w (w.alloc (.cells #[.int .i64 t.kind, .string t.text, .int .i64 t.fr, .int .i64 t.fin, .int .i64 t.num] 71))) := hal
 have HN : Hid (Calls Tryz.prog 30 #[.pointer (some ⟨R, 0, none⟩)] (w.alloc (.cells #[.int .i64 t.kind, .string t.text, .int .i64 t.fr, .int .i64 t.fin, .int .i64 t.num] 71)) fun e w' => e = .returned (.tuple #[]) ∧ w.grownBy w' (some R) ∧ PX W0 w' R s (nextS s (some t)) ∧ TokAt w' w.heap.size t) := by
  refine (pnext_any L HX1.out).mono ?_
  rintro e w' ⟨rfl, hg, hX⟩
  exact ⟨rfl, gT (grownA_below hal _) hg, hX, (hg.block _ HT1.out.lt (fun e => by cases e; omega)).trans HT1.out⟩
 have HV : Hid (atomS s ex t = (nextS s (some t)).map fun u => (exN 2 0 t.text [], u)) := by
  show _ = _
  unfold atomS
  rw [if_neg (by omega), if_neg (by omega), if_pos hk]
 rw [hk] at HN
 have hk2 : Hid (t.kind = 2) := hk
 rw [hk] at c2
 clear h hp hok HX1 HT1 HB1 hal hk
 generalize nextS s (some t) = o2 at *
 go_enter Tryz.func163, Tryz.ntmps163
 go_wp2_with fail
 go_at_call 30
 refine HN.out.mono ?_
 rintro e w2 ⟨rfl, hg2, hX2, hT2⟩
 obtain ⟨d0, d1, d2, d3, d4⟩ := hT2.cells
 clear HN hT2
 go_wp2
 go_ret
 have hb2 := alloc_below w2 (.cells #[.int .i64 2, .int .i64 0, .string t.text, .slice none 0 0] 64)
 refine ⟨some ⟨w2.heap.size, 0, none⟩, by simp, gT hg2 (grownA_below hb2 _), ?_, fun x u hx => ?_⟩
 ·rw [HV.out]
  have := hX2.below hb2
  cases o2 <;> exact this
 ·rw [HV.out] at hx
  obtain ⟨v, h1, h2⟩ := map_some hx
  simp only [Prod.mk.injEq] at h2
  obtain ⟨rfl, rfl⟩ := h2
  exact ex_leaf (allocAtA w2 _) hg2.size

end Go.Proofs.YtgmmfpdekefamaaGreatDoor
