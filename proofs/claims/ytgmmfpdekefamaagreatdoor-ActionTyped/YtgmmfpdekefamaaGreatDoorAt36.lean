/- Texts of the proof, put together: AExp2, AExp3, AExp4, AWrE, AWrF, AWrG, AWrH, APln. -/
import Derived.Test.YtgmmfpdekefamaaGreatDoorAt13
import Derived.Test.YtgmmfpdekefamaaGreatDoorAt35
import Derived.Test.YtgmmfpdekefamaaGreatDoorAt01
import Derived.Deep.RegionHeld3
import Derived.Deep.RegionLaw
import Derived.Deep.AppendLies
namespace Go.Proofs.YtgmmfpdekefamaaGreatDoor
open Go.RowKit
set_option linter.unusedVariables false
set_option maxRecDepth 100000

/-- an expression in blocks from B on -/
abbrev ExB (B : Nat) (w : World) (v : Value) (x : Ex) : Prop := Expr (fun b => B ≤ b) w v x
theorem ExB.grown {B R : Nat} {w w' : World} {v : Value} {x : Ex} (h : ExB B w v x) (hR : R < B) (hg : w.grownBy w' (some R)) : ExB B w' v x :=
 Expr.moved h hg.size fun b hb hok => ⟨hok, hg.block b hb (fun e => by cases e; omega)⟩
theorem ExB.below {B : Nat} {w w' : World} {v : Value} {x : Ex} (h : ExB B w v x) (hb : Below w.heap.size w w') : ExB B w' v x :=
 Expr.moved h hb.size fun b hb1 hok => ⟨hok, hb.block b hb1⟩
theorem ExB.mono {B C : Nat} {w : World} {v : Value} {x : Ex} (h : ExB B w v x) (hC : C ≤ B) : ExB C w v x := Expr.imp h fun b _ hok => Nat.le_trans hC hok
/-- as deep as the deepest of several -/
theorem ex_all {ok : Nat → Prop} {w : World} : ∀ (vs : List Value) (xs : List Ex), vs.length = xs.length → (∀ j, j < xs.length → ∃ u, vs[j]? = some u ∧ Expr ok w u (xs.getD j nilE)) → ∃ n, ∀ j, j < xs.length → ∃ u, vs[j]? = some u ∧ IsEx ok n w u (xs.getD j nilE)
 | [], [], _, _ => ⟨0, fun j hj => by simp at hj⟩
 | [], x :: xs, h, _ => by simp at h
 | v :: vs, [], h, _ => by simp at h
 | v :: vs, x :: xs, hl, h => by
  obtain ⟨n, hn⟩ := ex_all vs xs (by simpa using hl) fun j hj => by simpa using h (j + 1) (by simp; omega)
  obtain ⟨u, hu, m, hm⟩ := h 0 (by simp)
  refine ⟨max n m, fun j hj => ?_⟩
  cases j with
  | zero => exact ⟨u, hu, hm.more _ _ (Nat.le_max_right _ _)⟩
  | succ j =>
   obtain ⟨u', h1, h2⟩ := hn j (by simpa using hj)
   exact ⟨u', by simpa using h1, by simpa using h2.more _ _ (Nat.le_max_left _ _)⟩
/-- a new expression over kids in a block -/
theorem ex_new {B K Q : Nat} {w : World} {kind num : Int} {text : ByteArray} {vs : List Value} {xs : List Ex} {cap : Nat} {cs : Array Value} {ty : TypeId} (hQ : w.heap[Q]? = some (.cells #[.int .i64 kind, .int .i64 num, .string text, .slice (some ⟨K, 0, none⟩) xs.length cap] 64 (0, 0))) (hQB : B ≤ Q) (hK : w.heap[K]? = some (.cells cs ty (0, 0))) (hKB : B ≤ K) (hl : vs.length = xs.length) (hcs : ∀ j, j < vs.length → cs[j]? = vs[j]?) (hk : ∀ j, j < xs.length → ∃ u, vs[j]? = some u ∧ ExB B w u (xs.getD j nilE)) : ExB B w (.pointer (some ⟨Q, 0, none⟩)) (exN kind num text xs) := by
 obtain ⟨n, hn⟩ := ex_all vs xs hl hk
 refine ⟨n + 1, .inr ⟨rfl, Q, _, rfl, hQB, hQ, .inr ⟨K, 0, cap, rfl, (Array.getElem?_eq_some_iff.1 hK).1, hKB, fun j hj => ?_⟩⟩⟩
 have hj' : j < xs.length := hj
 obtain ⟨u, h1, h2⟩ := hn j hj'
 refine ⟨u, ?_, h2⟩
 rw [Nat.zero_add]
 exact cellsAtA hK j u ((hcs j (by omega)).trans h1)
/-- .. without kids -/
theorem ex_leaf {B Q : Nat} {w : World} {kind num : Int} {text : ByteArray} {a : Option Addr} {cap : Nat} (hQ : w.heap[Q]? = some (.cells #[.int .i64 kind, .int .i64 num, .string text, .slice a 0 cap] 64 (0, 0))) (hQB : B ≤ Q) : ExB B w (.pointer (some ⟨Q, 0, none⟩)) (exN kind num text []) :=
 ⟨1, .inr ⟨rfl, Q, _, rfl, hQB, hQ, .inl ⟨rfl, a, cap, rfl⟩⟩⟩
/-- the two new blocks: a row of pointers, and the expression -/
theorem ex_built {B : Nat} {w : World} (hB : B ≤ w.heap.size) (kind num : Int) (text : ByteArray) (vs : List Value) (xs : List Ex) (hl : vs.length = xs.length) (h0 : xs ≠ []) (hk : ∀ j, j < xs.length → ∃ u, vs[j]? = some u ∧ ExB B w u (xs.getD j nilE)) :
  ∃ W, (w.alloc (.cells vs.toArray 24)).alloc (.cells #[.int .i64 kind, .int .i64 num, .string text, .slice (some ⟨w.heap.size, 0, none⟩) xs.length xs.length] 64) = W ∧ Below w.heap.size w W ∧ ExB B W (.pointer (some ⟨w.heap.size + 1, 0, none⟩)) (exN kind num text xs) := by
 have hb1 := alloc_below w (.cells vs.toArray 24)
 have hb2 := alloc_below (w.alloc (.cells vs.toArray 24)) (.cells #[.int .i64 kind, .int .i64 num, .string text, .slice (some ⟨w.heap.size, 0, none⟩) xs.length xs.length] 64)
 have hb : Below w.heap.size w ((w.alloc (.cells vs.toArray 24)).alloc (.cells #[.int .i64 kind, .int .i64 num, .string text, .slice (some ⟨w.heap.size, 0, none⟩) xs.length xs.length] 64)) := hb1.trans (hb2.mono (by rw [alloc_size]; omega))
 refine ⟨_, rfl, hb, ?_⟩
 have hQ := allocAtA (w.alloc (.cells vs.toArray 24)) (.cells #[.int .i64 kind, .int .i64 num, .string text, .slice (some ⟨w.heap.size, 0, none⟩) xs.length xs.length] 64)
 rw [alloc_size] at hQ
 have hK := (hb2.block w.heap.size (by rw [alloc_size]; omega)).trans (allocAtA w (.cells vs.toArray 24))
 exact ex_new hQ (by omega) hK hB hl (fun j hj => by simp) fun j hj => by
  obtain ⟨u, h1, h2⟩ := hk j hj
  exact ⟨u, h1, h2.below hb⟩

/-- what a reader of the document gives -/
def GotE (W0 w : World) (R : Nat) (s : ByteArray) (r : RE) (e : Ending) (w' : World) : Prop := ∃ p : Option Addr, e = .returned (.pointer p) ∧ w.grownBy w' (some R) ∧ PX W0 w' R s (stE r) ∧ ∀ x t, r = some (x, t) → ExB w.heap.size w' (.pointer p) x
def ExC (W0 : World) (R : Nat) (s : ByteArray) (m : Nat) (ex : Tok → RE) : Prop := ∀ w o, PX W0 w R s o → OkO s m o → Calls Tryz.prog 31 #[.pointer (some ⟨R, 0, none⟩)] w (GotE W0 w R s (o.bind ex))
def SgC (W0 : World) (R : Nat) (s : ByteArray) (m : Nat) (ex : Tok → RE) : Prop := ∀ w o, PX W0 w R s o → OkO s m o → Calls Tryz.prog 118 #[.pointer (some ⟨R, 0, none⟩)] w (GotE W0 w R s (o.bind ex))
def AtC (W0 : World) (R : Nat) (s : ByteArray) (m : Nat) (ex : Tok → RE) : Prop := ∀ w o, PX W0 w R s o → OkO s m o → Calls Tryz.prog 163 #[.pointer (some ⟨R, 0, none⟩)] w (GotE W0 w R s (o.bind ex))
def LvC (W0 : World) (R : Nat) (s : ByteArray) (m : Nat) (n : Int) (ex : Tok → RE) : Prop := ∀ w o, PX W0 w R s o → OkO s m o → Calls Tryz.prog 59 #[.pointer (some ⟨R, 0, none⟩), .int .i64 n] w (GotE W0 w R s (o.bind ex))
theorem OkO.st {s : ByteArray} {m : Nat} {o : Option Tok} {r : Tok → RE} (h : OkO s m o) (hr : GoesE s r) : OkO s (m + 1) (stE (o.bind r)) := fun u hu => by
 obtain ⟨x, h1, h2⟩ := map_some hu
 obtain ⟨e, v⟩ := x
 obtain rfl := h2
 have := h.read hr h1
 exact ⟨this.1, this.2.1⟩

theorem let_st (s : ByteArray) (ex : Tok → RE) (o : Option Tok) : stE (letS s ex o) = stE ((needS s inL (stE ((needS s [61] (nameS s o)).bind ex))).bind ex) := by
 unfold letS
 cases h1 : (needS s [61] (nameS s o)).bind ex with
 | none => rfl
 | some x =>
  obtain ⟨v, t3⟩ := x
  simp only [stE, Option.map_some]
  cases h2 : (needS s inL (some t3)).bind ex with
  | none => rfl
  | some y => rfl
theorem let_val {s : ByteArray} {ex : Tok → RE} {o : Option Tok} {x : Ex} {t : Tok} (h : letS s ex o = some (x, t)) : ∃ v t3 b, (needS s [61] (nameS s o)).bind ex = some (v, t3) ∧ (needS s inL (stE ((needS s [61] (nameS s o)).bind ex))).bind ex = some (b, t) ∧ x = exN 5 0 (textS o) [v, b] ∧ namedS o = true := by
 have hn : namedS o = true := by
  cases hn : namedS o with
  | true => rfl
  | false =>
   unfold letS at h
   have : nameS s o = none := by unfold nameS; rw [hn]; rfl
   rw [this] at h
   simp [needS, isS] at h
 unfold letS at h
 cases h1 : (needS s [61] (nameS s o)).bind ex with
 | none => rw [h1] at h; cases h
 | some y =>
  obtain ⟨v, t3⟩ := y
  rw [h1] at h
  simp only at h
  cases h2 : (needS s inL (some t3)).bind ex with
  | none => rw [h2] at h; cases h
  | some z =>
   obtain ⟨b, t'⟩ := z
   rw [h2] at h
   simp only [Option.some.injEq, Prod.mk.injEq] at h
   obtain ⟨rfl, rfl⟩ := h
   exact ⟨v, t3, b, rfl, by simp only [stE, Option.map_some]; exact h2, rfl, hn⟩
theorem if_st (s : ByteArray) (ex : Tok → RE) (o : Option Tok) : stE (ifS s ex o) = stE ((needS s elseL (stE ((needS s thenL (stE (o.bind ex))).bind ex))).bind ex) := by
 unfold ifS
 cases h1 : o.bind ex with
 | none => rfl
 | some x =>
  obtain ⟨v, t3⟩ := x
  simp only [stE, Option.map_some]
  cases h2 : (needS s thenL (some t3)).bind ex with
  | none => rfl
  | some y =>
   obtain ⟨b, t4⟩ := y
   simp only [Option.map_some]
   cases h3 : (needS s elseL (some t4)).bind ex with
   | none => rfl
   | some z => rfl
theorem if_val {s : ByteArray} {ex : Tok → RE} {o : Option Tok} {x : Ex} {t : Tok} (h : ifS s ex o = some (x, t)) : ∃ a t1 b t2 c, o.bind ex = some (a, t1) ∧ (needS s thenL (stE (o.bind ex))).bind ex = some (b, t2) ∧ (needS s elseL (stE ((needS s thenL (stE (o.bind ex))).bind ex))).bind ex = some (c, t) ∧ x = exN 6 0 emptyT [a, b, c] := by
 unfold ifS at h
 cases h1 : o.bind ex with
 | none => rw [h1] at h; cases h
 | some y =>
  obtain ⟨v, t3⟩ := y
  rw [h1] at h
  simp only at h
  cases h2 : (needS s thenL (some t3)).bind ex with
  | none => rw [h2] at h; cases h
  | some z =>
   obtain ⟨b, t'⟩ := z
   rw [h2] at h
   simp only at h
   cases h3 : (needS s elseL (some t')).bind ex with
   | none => rw [h3] at h; cases h
   | some z =>
    obtain ⟨c, t''⟩ := z
    rw [h3] at h
    simp only [Option.some.injEq, Prod.mk.injEq] at h
    obtain ⟨rfl, rfl⟩ := h
    refine ⟨v, t3, b, t', c, rfl, ?_, ?_, rfl⟩
    ·simp only [stE, Option.map_some]; exact h2
    ·simp only [stE, Option.map_some]; rw [h2]; simp only [Option.map_some]; exact h3

end Go.Proofs.YtgmmfpdekefamaaGreatDoor

namespace Go.Proofs.YtgmmfpdekefamaaGreatDoor
open Go.RowKit
set_option linter.unusedVariables false
set_option maxRecDepth 100000

set_option maxHeartbeats 4000000 in
theorem psigned_step {W0 w : World} (L : LibA W0) {R m f : Nat} {s : ByteArray} {ex : Tok → RE} (hA : AtC W0 R s m (atomS s ex)) {o : Option Tok} (hS : (∃ t, o = some t) → SgC W0 R s (m + 1) (sgdS s ex f)) (h : PX W0 w R s o) (ho : OkO s m o) :
  Calls Tryz.prog 118 #[.pointer (some ⟨R, 0, none⟩)] w (GotE W0 w R s (o.bind (sgdS s ex (f + 1)))) := by
 have HE : Hid (Calls Tryz.prog 56 #[.pointer (some ⟨R, 0, none⟩), .string ⟨#[45]⟩] w fun e w' => e = .returned (.bool (isS [45] o)) ∧ w.grownBy w' (some R) ∧ PX W0 w' R s (eatS s [45] o)) := by
  have := peat_any L h ⟨#[45]⟩
  rwa [Lib.toList_data] at this
 have hRw := h.lt
 cases hi : isS [45] o
 ·have HA : Hid (∀ w1, w.grownBy w1 (some R) → PX W0 w1 R s (eatS s [45] o) → Calls Tryz.prog 163 #[.pointer (some ⟨R, 0, none⟩)] w1 fun e w' => ∃ p, e = .returned (.pointer p) ∧ GotE W0 w R s (o.bind (sgdS s ex (f + 1))) (.returned (.pointer p)) w') := by
   intro w1 hg h1
   have e1 : eatS s [45] o = o := by unfold eatS; rw [hi]; rfl
   rw [e1] at h1
   refine (hA w1 o h1 ho).mono ?_
   rintro e w' ⟨p, rfl, hg2, hX, hv⟩
   have e2 : o.bind (sgdS s ex (f + 1)) = o.bind (atomS s ex) := by
    cases o with
    | none => rfl
    | some t => simp only [Option.bind_some]; rw [sgdS, hi]; rfl
   refine ⟨p, rfl, p, rfl, gT hg hg2, by rw [e2]; exact hX, fun x t hx => ?_⟩
   rw [e2] at hx
   exact (hv x t hx).mono hg.size
  rw [hi] at HE
  generalize o.bind (sgdS s ex (f + 1)) = res at *
  clear h hA hS ho hi
  go_enter Tryz.func118, Tryz.ntmps118
  go_wp2_with fail
  go_at_call 56
  refine HE.out.mono ?_
  rintro e w1 ⟨rfl, hg1, hX1⟩
  have HA1 : Hid (Calls Tryz.prog 163 #[.pointer (some ⟨R, 0, none⟩)] w1 fun e w' => ∃ p, e = .returned (.pointer p) ∧ GotE W0 w R s res (.returned (.pointer p)) w') := HA.out w1 hg1 hX1
  clear HA HE hX1
  go_wp2_with fail
  go_at_call 163
  refine HA1.out.mono ?_
  rintro e w2 ⟨p, rfl, hG⟩
  go_wp2
  go_ret
  exact hG
 ·have HA : Hid (∀ w1, w.grownBy w1 (some R) → PX W0 w1 R s (eatS s [45] o) → Calls Tryz.prog 118 #[.pointer (some ⟨R, 0, none⟩)] w1 fun e w' => ∃ p, e = .returned (.pointer p) ∧ w.grownBy w' (some R) ∧ PX W0 w' R s (stE (o.bind (sgdS s ex (f + 1)))) ∧ ∀ x t, o.bind (sgdS s ex (f + 1)) = some (x, t) → ∃ k, x = exN 8 0 emptyT [k] ∧ ExB w.heap.size w' (.pointer p) k) := by
   intro w1 hg h1
   cases o with
   | none => cases hi
   | some t =>
    have e1 : eatS s [45] (some t) = nextS s (some t) := by unfold eatS; rw [hi]; rfl
    rw [e1] at h1
    obtain ⟨ht, hm⟩ := ho t rfl
    refine (hS ⟨t, rfl⟩ w1 _ h1 (OkO.next ht hm (by have := is_kind hi; omega))).mono ?_
    rintro e w' ⟨p, rfl, hg2, hX, hv⟩
    have e2 : (some t).bind (sgdS s ex (f + 1)) = (match (nextS s (some t)).bind (sgdS s ex f) with | none => none | some (k, u) => some (exN 8 0 emptyT [k], u)) := by
     simp only [Option.bind_some]
     rw [sgdS, hi]
     rfl
    rw [e2]
    generalize (nextS s (some t)).bind (sgdS s ex f) = r at *
    refine ⟨p, rfl, gT hg hg2, ?_, fun x t' hx => ?_⟩
    ·cases r with
     | none => exact hX
     | some y => exact hX
    ·cases r with
     | none => cases hx
     | some y =>
      obtain ⟨k, u⟩ := y
      simp only [Option.some.injEq, Prod.mk.injEq] at hx
      obtain ⟨rfl, rfl⟩ := hx
      exact ⟨k, rfl, (hv k u rfl).mono hg.size⟩
  rw [hi] at HE
  generalize o.bind (sgdS s ex (f + 1)) = res at *
  clear h hA hS ho hi
  go_enter Tryz.func118, Tryz.ntmps118
  go_wp2_with fail
  go_at_call 56
  refine HE.out.mono ?_
  rintro e w1 ⟨rfl, hg1, hX1⟩
  have HA1 := HA.out w1 hg1 hX1
  have HA2 : Hid (Calls Tryz.prog 118 #[.pointer (some ⟨R, 0, none⟩)] w1 fun e w' => ∃ p, e = .returned (.pointer p) ∧ w.grownBy w' (some R) ∧ PX W0 w' R s (stE res) ∧ ∀ x t, res = some (x, t) → ∃ k, x = exN 8 0 emptyT [k] ∧ ExB w.heap.size w' (.pointer p) k) := HA1
  clear HA HE hX1 HA1
  go_wp2_with fail
  go_at_call 118
  refine HA2.out.mono ?_
  rintro e w2 ⟨p, rfl, hg2, hX2, hv2⟩
  have HV : Hid (∀ x t, res = some (x, t) → ∃ k, x = exN 8 0 emptyT [k] ∧ ExB w.heap.size w2 (.pointer p) k) := hv2
  clear hv2
  go_wp2
  go_ret
  have hbl : Below w2.heap.size w2 ((w2.alloc (.cells #[.pointer p] 24)).alloc (.cells #[.int .i64 8, .int .i64 0, .string ⟨#[]⟩, .slice (some ⟨w2.heap.size, 0, none⟩) 1 1] 64)) := (alloc_below w2 _).trans ((alloc_below _ _).mono (by rw [alloc_size]; omega))
  refine ⟨some ⟨w2.heap.size + 1, 0, none⟩, by simp, gT hg2 (grownA_below hbl _), hX2.below hbl, fun x t hx => ?_⟩
  obtain ⟨k, rfl, hk⟩ := HV.out x t hx
  obtain ⟨W, hW, _, hE⟩ := ex_built hg2.size 8 0 emptyT [.pointer p] [k] rfl (by simp) (fun j hj => by
   have : j = 0 := by simp at hj; omega
   subst this
   exact ⟨_, rfl, hk⟩)
  rw [← hW] at hE
  exact hE

end Go.Proofs.YtgmmfpdekefamaaGreatDoor

namespace Go.Proofs.YtgmmfpdekefamaaGreatDoor
open Go.RowKit
set_option linter.unusedVariables false
set_option maxRecDepth 100000

/-- how much is left to read; nothing where something is wrong -/
def meaP (s : ByteArray) (R : Nat) (w : World) : Nat := match w.cell? ⟨R, 7, none⟩ with
 | some .nilIface => (match w.cell? ⟨R, 4, none⟩ with | some (.int _ z) => s.size - z.toNat + 1 | _ => 0)
 | _ => 0
theorem meaP_some {W0 w : World} {R : Nat} {s : ByteArray} {t : Tok} (h : PX W0 w R s (some t)) : meaP s R w = s.size - t.fr + 1 := by
 obtain ⟨_, z, hp⟩ := h.good t rfl
 obtain ⟨_, _, _, _, c4, _, _, c7, _⟩ := hp.cells
 unfold meaP
 rw [c7, c4]
 simp
theorem meaP_none {W0 w : World} {R : Nat} {s : ByteArray} (h : PX W0 w R s none) : meaP s R w = 0 := by
 obtain ⟨t, te, pe, z, _, hp⟩ := h.bad rfl
 obtain ⟨_, _, _, _, c4, _, _, c7, _⟩ := hp.cells
 unfold meaP
 rw [c7]
theorem meaP_lt {W0 w w' : World} {R : Nat} {s : ByteArray} {t : Tok} {o : Option Tok} (h : PX W0 w R s (some t)) (h' : PX W0 w' R s o) (ho : OkO s (t.fr + 1) o) : meaP s R w' < meaP s R w := by
 rw [meaP_some h]
 cases o with
 | none => rw [meaP_none h']; omega
 | some u =>
  rw [meaP_some h']
  have := (ho u rfl).2
  have := (ho u rfl).1.2.1
  omega
theorem meaP_below {W0 w w' : World} {R : Nat} {s : ByteArray} {o : Option Tok} (h : PX W0 w R s o) (hb : Below w.heap.size w w') : meaP s R w' = meaP s R w := by
 unfold meaP
 rw [World.cell?_of_block (a := ⟨R, 7, none⟩) (hb.block R h.lt), World.cell?_of_block (a := ⟨R, 4, none⟩) (hb.block R h.lt)]

/-- the operators of a level, on their way -/
def OpI (W0 w0 wr : World) (R m : Nat) (s : ByteArray) (n : Int) (sub : Tok → RE) (res : RE) (p : Option Addr) : Prop :=
 ∃ o : Option Tok, w0.grownBy wr (some R) ∧ PX W0 wr R s o ∧ OkO s m o ∧ ((o = none ∧ res = none) ∨ ∃ t a f, o = some t ∧ res = opsS s n sub f a t ∧ s.size + 1 ≤ f + t.fr ∧ ExB w0.heap.size wr (.pointer p) a)
/-- behind an operator and what stands on its right -/
def opK (s : ByteArray) (n : Int) (sub : Tok → RE) (f : Nat) (text : ByteArray) (a : Ex) : RE → RE
 | none => none
 | some (k, u) => if n = 0 then some (exN 7 0 text [a, k], u) else opsS s n sub f (exN 7 0 text [a, k]) u
theorem ops_hit {s : ByteArray} {n : Int} {sub : Tok → RE} {f : Nat} {a : Ex} {t : Tok} (h6 : t.kind = 6) (hl : lvlL t.text.toList = n) : opsS s n sub (f + 1) a t = opK s n sub f t.text a ((nextS s (some t)).bind sub) := by
 rw [opsS, if_pos ⟨h6, hl⟩]
 cases (nextS s (some t)).bind sub <;> rfl
theorem ops_miss {s : ByteArray} {n : Int} {sub : Tok → RE} {f : Nat} {a : Ex} {t : Tok} (h : ¬ (t.kind = 6 ∧ lvlL t.text.toList = n)) : opsS s n sub (f + 1) a t = some (a, t) := by
 rw [opsS, if_neg h]

/-- behind an operator -/
structure OpK (W0 w wr w3 : World) (R : Nat) (s : ByteArray) (r2 : RE) (fr : Nat) (p pk : Option Addr) (a : Ex) : Prop where
 grown : w.grownBy w3 (some R)
 grownR : wr.grownBy w3 (some R)
 px : PX W0 w3 R s (stE r2)
 ok : OkO s (fr + 1 + 1) (stE r2)
 val : ∀ x u, r2 = some (x, u) → ExB w.heap.size w3 (.pointer pk) x
 left : ExB w.heap.size w3 (.pointer p) a
theorem OpK.below (w3 : World) (p pk : Option Addr) (text : ByteArray) : Below w3.heap.size w3 ((w3.alloc (.cells #[.pointer p, .pointer pk] 24)).alloc (.cells #[.int .i64 7, .int .i64 0, .string text, .slice (some ⟨w3.heap.size, 0, none⟩) 2 2] 64)) := (alloc_below w3 _).trans ((alloc_below _ _).mono (by rw [alloc_size]; omega))
theorem OpK.ex {W0 w wr w3 : World} {R : Nat} {s : ByteArray} {r2 : RE} {fr : Nat} {p pk : Option Addr} {a k : Ex} {u : Tok} (h : OpK W0 w wr w3 R s r2 fr p pk a) (hr : r2 = some (k, u)) (text : ByteArray) : ExB w.heap.size ((w3.alloc (.cells #[.pointer p, .pointer pk] 24)).alloc (.cells #[.int .i64 7, .int .i64 0, .string text, .slice (some ⟨w3.heap.size, 0, none⟩) 2 2] 64)) (.pointer (some ⟨w3.heap.size + 1, 0, none⟩)) (exN 7 0 text [a, k]) := by
 obtain ⟨W, hW, _, hE⟩ := ex_built h.grown.size 7 0 text [.pointer p, .pointer pk] [a, k] rfl (by simp) (fun j hj => by
  rcases (show j = 0 ∨ j = 1 by simp at hj; omega) with rfl | rfl
  ·exact ⟨_, rfl, h.left⟩
  ·exact ⟨_, rfl, h.val k u hr⟩)
 rw [← hW] at hE
 exact hE
theorem OpK.fin {W0 w wr w3 : World} {R : Nat} {s : ByteArray} {r2 : RE} {fr f' : Nat} {p pk : Option Addr} {a : Ex} {sub : Tok → RE} {res : RE} {text : ByteArray} (h : OpK W0 w wr w3 R s r2 fr p pk a) (hres : res = opK s 0 sub f' text a r2) : GotE W0 w R s res (.returned (.pointer (some ⟨w3.heap.size + 1, 0, none⟩))) ((w3.alloc (.cells #[.pointer p, .pointer pk] 24)).alloc (.cells #[.int .i64 7, .int .i64 0, .string text, .slice (some ⟨w3.heap.size, 0, none⟩) 2 2] 64)) := by
 have hb := OpK.below w3 p pk text
 refine ⟨_, rfl, gT h.grown (grownA_below hb _), ?_, fun x t hx => ?_⟩
 ·have := h.px.below hb
  rw [hres]
  cases r2 with
  | none => exact this
  | some y => exact this
 ·rw [hres] at hx
  cases hr : r2 with
  | none => rw [hr] at hx; cases hx
  | some y =>
   obtain ⟨k, u⟩ := y
   rw [hr] at hx
   simp only [opK, if_true, Option.some.injEq, Prod.mk.injEq] at hx
   obtain ⟨rfl, rfl⟩ := hx
   exact h.ex hr text
theorem OpK.more {W0 w wr w3 : World} {R m : Nat} {s : ByteArray} {r2 : RE} {fr f' : Nat} {p pk : Option Addr} {a : Ex} {n : Int} {sub : Tok → RE} {res : RE} {text : ByteArray} (h : OpK W0 w wr w3 R s r2 fr p pk a) (hn : n ≠ 0) (hres : res = opK s n sub f' text a r2) (hm : m ≤ fr) (hf : s.size + 1 ≤ f' + 1 + fr) : Hid (OpI W0 w ((w3.alloc (.cells #[.pointer p, .pointer pk] 24)).alloc (.cells #[.int .i64 7, .int .i64 0, .string text, .slice (some ⟨w3.heap.size, 0, none⟩) 2 2] 64)) R m s n sub res (some ⟨w3.heap.size + 1, 0, none⟩)) := by
 have hb := OpK.below w3 p pk text
 refine ⟨stE r2, gT h.grown (grownA_below hb _), h.px.below hb, h.ok.mono (by omega), ?_⟩
 cases hr : r2 with
 | none => exact .inl ⟨rfl, by rw [hres, hr]; rfl⟩
 | some y =>
  obtain ⟨k, u⟩ := y
  have hu := (h.ok u (by rw [hr]; rfl)).2
  refine .inr ⟨u, _, f', rfl, ?_, by omega, h.ex hr text⟩
  rw [hres, hr]
  simp only [opK, if_neg hn]
theorem OpK.less {W0 w wr w3 : World} {R : Nat} {s : ByteArray} {r2 : RE} {p pk : Option Addr} {a : Ex} {t : Tok} (h : OpK W0 w wr w3 R s r2 t.fr p pk a) (hX : PX W0 wr R s (some t)) (x : List Value) (text : ByteArray) : meaP s R ((w3.alloc (.cells #[.pointer p, .pointer pk] 24)).alloc (.cells #[.int .i64 7, .int .i64 0, .string text, .slice (some ⟨w3.heap.size, 0, none⟩) 2 2] 64)) < meaP s R wr := by
 rw [meaP_below h.px (OpK.below w3 p pk text)]
 exact meaP_lt hX h.px (h.ok.mono (by omega))

set_option maxHeartbeats 8000000 in
theorem plevel_step {W0 w : World} (L : LibA W0) {R m : Nat} {s : ByteArray} {sub : Tok → RE} {n : Int} (hn0 : 0 ≤ n) (hn2 : n ≤ 2) (hS : LvC W0 R s m (n + 1) sub) (hgo : GoesE s sub) {o : Option Tok} (h : PX W0 w R s o) (ho : OkO s m o) :
  Calls Tryz.prog 59 #[.pointer (some ⟨R, 0, none⟩), .int .i64 n] w (GotE W0 w R s (o.bind (levS s n sub))) := by
 have hn3 : (n == 3) = false := by rw [beq_eq_false_iff_ne]; omega
 have hw1 : IntKind.i64.wrap (n + 1) = n + 1 := by rw [IntKind.wrap_i64]; omega
 have hRw := h.lt
 generalize hres : o.bind (levS s n sub) = res
 have H1 : Hid (Calls Tryz.prog 59 #[.pointer (some ⟨R, 0, none⟩), .int .i64 (n + 1)] w fun e w' => ∃ p, e = .returned (.pointer p) ∧ OpI W0 w w' R m s n sub res p) := by
  refine (hS w o h ho).mono ?_
  rintro e w' ⟨p, rfl, hg, hX, hv⟩
  refine ⟨p, rfl, stE (o.bind sub), hg, hX, (ho.st hgo).mono (by omega), ?_⟩
  cases hr : o.bind sub with
  | none =>
   refine .inl ⟨rfl, ?_⟩
   rw [← hres]
   cases o with
   | none => rfl
   | some t => simp only [Option.bind_some] at hr ⊢; unfold levS; rw [hr]
  | some y =>
   obtain ⟨a, u⟩ := y
   refine .inr ⟨u, a, s.size + 1, rfl, ?_, by omega, hv a u hr⟩
   rw [← hres]
   cases o with
   | none => cases hr
   | some t => simp only [Option.bind_some] at hr ⊢; unfold levS; rw [hr]
 have HS : Hid (∀ w o, PX W0 w R s o → OkO s m o → Calls Tryz.prog 59 #[.pointer (some ⟨R, 0, none⟩), .int .i64 (n + 1)] w (GotE W0 w R s (o.bind sub))) := hS
 have HG : Hid (GoesE s sub) := hgo
 clear hres h ho hS hgo
 go_enter Tryz.func59, Tryz.ntmps59
 go_wp2_with fail
 go_at_call 59
 refine H1.out.mono ?_
 rintro e w1 ⟨p1, rfl, hI1⟩
 have HI1 : Hid (OpI W0 w w1 R m s n sub res p1) := hI1
 clear H1 hI1
 go_wp2_with fail
 go_loopw [5, 6, 7] (fun pv _ _ wr => ∃ p, pv = .pointer p ∧ Hid (OpI W0 w wr R m s n sub res p)) (fun _ _ _ wr => meaP s R wr)
 case atStart => exact ⟨p1, rfl, HI1⟩
 case round =>
  obtain ⟨p, rfl, HI⟩ := hrel
  obtain ⟨o, hg, hX, hO, hst⟩ := HI.out
  rcases hst with ⟨rfl, hr⟩ | ⟨t, a, f, rfl, hr, hf, hE⟩
  ·obtain ⟨t, te, pe, z, _, hp⟩ := hX.bad rfl
   obtain ⟨c0, c1, c2, c3, c4, c5, c6, c7, c8⟩ := hp.cells
   have HEnd : Hid (GotE W0 w R s res (.returned (.pointer p)) wr) := ⟨p, rfl, hg, by rw [hr]; exact hX, fun x t h => by rw [hr] at h; cases h⟩
   clear hg hX hO hr hp HI HS HG
   go_wp2
   go_ret
   exact HEnd.out
  ·obtain ⟨hok, z, hp⟩ := hX.good t rfl
   obtain ⟨c0, c1, c2, c3, c4, c5, c6, c7, c8⟩ := hp.cells
   obtain ⟨f', rfl⟩ : ∃ f', f = f' + 1 := ⟨f - 1, by have := hok.2.1; omega⟩
   have HStop : Hid (¬ (t.kind = 6 ∧ lvlL t.text.toList = n) → GotE W0 w R s res (.returned (.pointer p)) wr) := fun hno => ⟨p, rfl, hg, by rw [hr, ops_miss hno]; exact hX, fun x u h => by rw [hr, ops_miss hno] at h; simp only [Option.some.injEq, Prod.mk.injEq] at h; obtain ⟨rfl, rfl⟩ := h; exact hE⟩
   have HL : Hid (∀ w, Calls Tryz.prog 89 #[.string t.text] w fun e w' => e = .returned (.int .i64 (lvlL t.text.toList)) ∧ w' = w) := fun w => rlevel_any t.text w
   cases h6 : (t.kind == 6)
   ·have HEnd : Hid (GotE W0 w R s res (.returned (.pointer p)) wr) := HStop.out fun hh => by rw [hh.1] at h6; cases h6
    clear hg hX hO hr hp HI HS HG HStop HL hE hok
    go_wp2
    go_ret
    exact HEnd.out
   ·rw [beq_iff_eq] at h6
    by_cases hl : lvlL t.text.toList = n
    ·have hl2 : (lvlL t.text.toList != n) = false := by rw [bne_eq_false_iff_eq]; exact hl
     have h62 : (t.kind == 6) = true := by rw [h6]; rfl
     rw [ops_hit h6 hl] at hr
     obtain ⟨hok1, hm1⟩ := hO t rfl
     have hO2 : OkO s (t.fr + 1) (nextS s (some t)) := OkO.next hok1 (Nat.le_refl _) (by omega)
     have HN : Hid (Calls Tryz.prog 30 #[.pointer (some ⟨R, 0, none⟩)] wr fun e w' => e = .returned (.tuple #[]) ∧ wr.grownBy w' (some R) ∧ PX W0 w' R s (nextS s (some t))) := pnext_any L hX
     have HK : Hid (∀ w2, wr.grownBy w2 (some R) → PX W0 w2 R s (nextS s (some t)) → Calls Tryz.prog 59 #[.pointer (some ⟨R, 0, none⟩), .int .i64 (n + 1)] w2 fun e w3 => ∃ pk, e = .returned (.pointer pk) ∧ OpK W0 w wr w3 R s ((nextS s (some t)).bind sub) t.fr p pk a) := by
      intro w2 hg2 hX2
      refine (HS.out w2 _ hX2 (hO2.mono (by omega))).mono ?_
      rintro e w3 ⟨pk, rfl, hg3, hX3, hv3⟩
      exact ⟨pk, rfl, gT hg (gT hg2 hg3), gT hg2 hg3, hX3, hO2.st HG.out, fun x u hx => (hv3 x u hx).mono (Nat.le_trans hg.size hg2.size), hE.grown hRw (gT hg2 hg3)⟩
     have HRes : Hid (res = opK s n sub f' t.text a ((nextS s (some t)).bind sub)) := hr
     have HX : Hid (PX W0 wr R s (some t)) := hX
     clear hr hg hX hO hp HI HS HG HStop hE hok hok1 hO2
     generalize (nextS s (some t)).bind sub = r2 at *
     generalize nextS s (some t) = o2 at *
     go_wp2_with fail
     go_at_call 89
     refine (HL.out _).mono ?_
     rintro e w2 ⟨rfl, hw⟩
     obtain rfl := hw.symm
     clear hw HL
     go_wp2_with fail
     go_at_call 30
     refine HN.out.mono ?_
     rintro e w2 ⟨rfl, hg2, hX2⟩
     have HK2 : Hid (Calls Tryz.prog 59 #[.pointer (some ⟨R, 0, none⟩), .int .i64 (n + 1)] w2 fun e w3 => ∃ pk, e = .returned (.pointer pk) ∧ OpK W0 w wr w3 R s r2 t.fr p pk a) := HK.out w2 hg2 hX2
     clear HK HN hX2 hg2
     go_wp2_with fail
     go_at_call 59
     refine HK2.out.mono ?_
     rintro e w3 ⟨pk, rfl, hK3⟩
     have HK3 : Hid (OpK W0 w wr w3 R s r2 t.fr p pk a) := hK3
     clear HK2 hK3
     by_cases hn : n = 0
     ·subst hn
      go_wp2
      go_ret
      exact HK3.out.fin HRes.out
     ·have hn2 : (n == 0) = false := by rw [beq_eq_false_iff_ne]; exact hn
      go_wp2
      go_roundw
      case rel => exact ⟨some ⟨w3.heap.size + 1, 0, none⟩, by simp, HK3.out.more hn HRes.out (by omega) (by omega)⟩
      case measure => exact HK3.out.less HX.out [] _
    ·have HEnd : Hid (GotE W0 w R s res (.returned (.pointer p)) wr) := HStop.out fun hh => hl hh.2
     have hl2 : (lvlL t.text.toList != n) = true := by rw [bne_iff_ne]; exact hl
     have h62 : (t.kind == 6) = true := by rw [h6]; rfl
     clear hg hX hO hr hp HI HS HG HStop hE hok
     go_wp2_with fail
     go_at_call 89
     refine (HL.out _).mono ?_
     rintro e w2 ⟨rfl, hw⟩
     obtain rfl := hw.symm
     clear hw
     go_wp2
     go_ret
     exact HEnd.out

end Go.Proofs.YtgmmfpdekefamaaGreatDoor

namespace Go.Proofs.YtgmmfpdekefamaaGreatDoor
open Go.RowKit
set_option linter.unusedVariables false
set_option maxRecDepth 100000

end Go.Proofs.YtgmmfpdekefamaaGreatDoor

namespace Go.Proofs.YtgmmfpdekefamaaGreatDoor
open Go.RowKit
set_option linter.unusedVariables false
set_option maxRecDepth 100000

end Go.Proofs.YtgmmfpdekefamaaGreatDoor

namespace Go.Proofs.YtgmmfpdekefamaaGreatDoor
open Go.RowKit
set_option linter.unusedVariables false
set_option maxRecDepth 100000

end Go.Proofs.YtgmmfpdekefamaaGreatDoor

namespace Go.Proofs.YtgmmfpdekefamaaGreatDoor
open Go.RowKit
set_option linter.unusedVariables false
set_option maxRecDepth 100000

end Go.Proofs.YtgmmfpdekefamaaGreatDoor

namespace Go.Proofs.YtgmmfpdekefamaaGreatDoor
open Go.RowKit
set_option linter.unusedVariables false
set_option maxRecDepth 100000

structure TmP where
 kind : Int
 num : Int
 text : ByteArray
 kids : List Int
theorem Tryz.infoPExpr : (Tryz.prog.info? 24).map (fun i => (i.zero, i.size, i.bytes)) = some (some (.pointer none), 1, 8) := by kernel_rfl
/-- a node that is being made: what came ahead of it lies below S, the node at Q -/
structure NdE (S Q : Nat) (w0 w : World) (p : TmP) (kv : Value) (k : Nat) (us : List Value) : Prop where
 bel : Below S w0 w
 q : S ≤ Q ∧ Q < w.heap.size
 blk : w.heap[Q]? = some (.cells #[.int .i64 p.kind, .int .i64 p.num, .string p.text, kv] 64 (0, 0))
 own : w.ownsRow (Q + 1) 24 1 kv k us
 len : us.length = k
theorem NdE.cell2 {S Q k : Nat} {w0 w : World} {p : TmP} {kv : Value} {us : List Value} (h : NdE S Q w0 w p kv k us) : w.cell? ⟨Q, 3, none⟩ = some kv := by simp [World.cell?, h.blk]
theorem NdE.slice {S Q k : Nat} {w0 w : World} {p : TmP} {kv : Value} {us : List Value} (h : NdE S Q w0 w p kv k us) : ∃ a c, kv = .slice a k c := by
 rcases h.own.2 with ⟨rfl, h0⟩ | ⟨g, cap, cur, rfl, _⟩
 ·exact ⟨none, 0, by rw [h0]⟩
 ·exact ⟨_, _, rfl⟩
theorem NdE.step {S Q k g cap : Nat} {w0 w w5 : World} {p : TmP} {kv u : Value} {us : List Value} {o : Obj} (h : NdE S Q w0 w p kv k us) (hown : w5.ownsRow (Q + 1) 24 1 (.slice (some ⟨g, 0, none⟩) (k + 1) cap) (k + 1) (us ++ [u])) (hg : (w.alloc o).grownBy w5 kv.ownBlock) (hat : kv.ownBlock = some g ∨ g = w.heap.size + 1) :
  w5.cell? ⟨Q, 3, none⟩ = some kv ∧ w5.frozen? ⟨Q, 3, none⟩ = false ∧ Q < w5.heap.size ∧ NdE S Q w0 (w5.setCell ⟨Q, 3, none⟩ (.slice (some ⟨g, 0, none⟩) (k + 1) cap)) p (.slice (some ⟨g, 0, none⟩) (k + 1) cap) (k + 1) (us ++ [u]) := by
 have hol : ∀ b, kv.ownBlock = some b → Q + 1 ≤ b ∧ b < w.heap.size := fun b hb => h.own.lt b hb
 obtain ⟨hq1, hq2⟩ := h.q
 have hs5 : w.heap.size + 1 ≤ w5.heap.size := by have := hg.size; simpa using this
 have hset : ∀ b, b ≠ Q → (w5.setCell ⟨Q, 3, none⟩ (.slice (some ⟨g, 0, none⟩) (k + 1) cap)).heap[b]? = w5.heap[b]? := fun b hb => Below.heap_setCell _ _ _ _ (by simpa using hb)
 have hsz : (w5.setCell ⟨Q, 3, none⟩ (.slice (some ⟨g, 0, none⟩) (k + 1) cap)).heap.size = w5.heap.size := by simp
 have h45 : ∀ b, b < w.heap.size → kv.ownBlock ≠ some b → w5.heap[b]? = w.heap[b]? := fun b hb hne => (hg.block b (by simp; omega) (fun e => hne e.symm)).trans (Below.heap_alloc w o b hb)
 have hne : ∀ b, b < Q + 1 → kv.ownBlock ≠ some b := fun b hb e => by have := hol b e; omega
 have hb5 := (h45 Q hq2 (hne Q (by omega))).trans h.blk
 have hgQ : g ≠ Q := by
  rcases hat with e | e
  ·have := hol g e; omega
  ·omega
 refine ⟨by simp [World.cell?, hb5], by simp [World.frozen?, hb5], by omega, ⟨?_, ⟨hq1, by rw [hsz]; omega⟩, ?_, ?_, by simp [h.len]⟩⟩
 ·refine ⟨?_, ?_, ?_, by rw [hsz]; have := h.bel.size; omega, fun c hc => ?_⟩
  ·exact hg.os.trans h.bel.os
  ·simpa using hg.tape.trans h.bel.tape
  ·exact hg.output.trans h.bel.output
  ·rw [hset c (by omega), h45 c (by omega) (hne c (by omega))]
   exact h.bel.block c hc
 ·have := heap_setCell_same w5 Q 3 _ 64 (.slice (some ⟨g, 0, none⟩) (k + 1) cap) hb5
  simpa using this
 ·refine ⟨hown.1, ?_⟩
  rcases hown.2 with ⟨e, _⟩ | ⟨g', cap', cur, e, k1, k2, k3⟩
  ·simp at e
  ·simp only [Value.slice.injEq, Option.some.injEq, Addr.mk.injEq, and_true, true_and] at e
   obtain ⟨rfl, rfl⟩ := e
   exact .inr ⟨g, cap, cur, rfl, k1, (hset g hgQ).trans k2, k3⟩
theorem own_cellE {w : World} {B g cap n : Nat} {vs : List Value} (h : w.ownsRow B 24 1 (.slice (some ⟨g, 0, none⟩) n cap) n vs) {j : Nat} (hj : j < n) : w.cell? ⟨g, j, none⟩ = some (vs.getD j .nilFunc) := by
 have hl : vs.length = n := by have := h.1; simpa using this
 have hc := h.cells (g := g) rfl j (vs.getD j .nilFunc) (by rw [List.getD_eq_getElem?_getD, List.getElem?_eq_getElem (by omega)]; rfl)
 have hadd : (⟨g, 0, none⟩ : Addr).add j = ⟨g, 0 + j, none⟩ := by unfold Addr.add; split <;> simp_all
 rw [hadd, Nat.zero_add] at hc
 exact hc

end Go.Proofs.YtgmmfpdekefamaaGreatDoor
