/- Texts of the proof, put together: AExp2, AExp3. -/
import Derived.Test.YthbglakncijahaaGreatDoorAw14
namespace Go.Proofs.YthbglakncijahaaGreatDoor
open Go.RowKit
set_option linter.unusedVariables false
set_option maxRecDepth 100000

/-- an expression in blocks from B on -/
abbrev ExB (B : Nat) (w : World) (v : Value) (x : Ex) : Prop := Expr (fun b => B ≤ b) w v x
theorem ExB.grown {B R : Nat} {w w' : World} {v : Value} {x : Ex} (h : ExB B w v x) (hR : R < B) (hg : w.grownBy w' (some R)) : ExB B w' v x :=
  Expr.moved h hg.size fun b hb hok => ⟨hok, hg.block b hb (fun e => by cases e; omega)⟩
theorem ExB.below {B : Nat} {w w' : World} {v : Value} {x : Ex} (h : ExB B w v x) (hb : Below w.heap.size w w') : ExB B w' v x :=
  Expr.moved h hb.size fun b hb1 hok => ⟨hok, hb.block b hb1⟩
theorem ExB.mono {B C : Nat} {w : World} {v : Value} {x : Ex} (h : ExB B w v x) (hC : C ≤ B) : ExB C w v x := Expr.imp h fun b _ hok => Nat.le_trans hC hok
/-- as deep as the deepest of several -/
theorem ex_all {ok : Nat → Prop} {w : World} : ∀ (vs : List Value) (xs : List Ex), vs.length = xs.length → (∀ j, j < xs.length → ∃ u, vs[j]? = some u ∧ Expr ok w u (xs.getD j nilE)) → ∃ n, ∀ j, j < xs.length → ∃ u, vs[j]? = some u ∧ IsEx ok n w u (xs.getD j nilE)
  | [], [], _, _ => ⟨0, fun j hj => by simp at hj⟩
  | [], x :: xs, h, _ => by simp at h
  | v :: vs, [], h, _ => by simp at h
  | v :: vs, x :: xs, hl, h => by
    obtain ⟨n, hn⟩ := ex_all vs xs (by simpa using hl) fun j hj => by simpa using h (j + 1) (by simp; omega)
    obtain ⟨u, hu, m, hm⟩ := h 0 (by simp)
    refine ⟨max n m, fun j hj => ?_⟩
    cases j with
    | zero => exact ⟨u, hu, hm.more _ _ (Nat.le_max_right _ _)⟩
    | succ j =>
      obtain ⟨u', h1, h2⟩ := hn j (by simpa using hj)
      exact ⟨u', by simpa using h1, by simpa using h2.more _ _ (Nat.le_max_left _ _)⟩
/-- a new expression over kids in a block -/
theorem ex_new {B K Q : Nat} {w : World} {kind num : Int} {text : ByteArray} {vs : List Value} {xs : List Ex} {cap : Nat} {cs : Array Value} {ty : TypeId} (hQ : w.heap[Q]? = some (.cells #[.int .i64 kind, .int .i64 num, .string text, .slice (some ⟨K, 0, none⟩) xs.length cap] 64 (0, 0))) (hQB : B ≤ Q) (hK : w.heap[K]? = some (.cells cs ty (0, 0))) (hKB : B ≤ K) (hl : vs.length = xs.length) (hcs : ∀ j, j < vs.length → cs[j]? = vs[j]?) (hk : ∀ j, j < xs.length → ∃ u, vs[j]? = some u ∧ ExB B w u (xs.getD j nilE)) : ExB B w (.pointer (some ⟨Q, 0, none⟩)) (exN kind num text xs) := by
  obtain ⟨n, hn⟩ := ex_all vs xs hl hk
  refine ⟨n + 1, .inr ⟨rfl, Q, _, rfl, hQB, hQ, .inr ⟨K, 0, cap, rfl, (Array.getElem?_eq_some_iff.1 hK).1, hKB, fun j hj => ?_⟩⟩⟩
  have hj' : j < xs.length := hj
  obtain ⟨u, h1, h2⟩ := hn j hj'
  refine ⟨u, ?_, h2⟩
  rw [Nat.zero_add]
  exact cellsAtA hK j u ((hcs j (by omega)).trans h1)
/-- .. without kids -/
theorem ex_leaf {B Q : Nat} {w : World} {kind num : Int} {text : ByteArray} {a : Option Addr} {cap : Nat} (hQ : w.heap[Q]? = some (.cells #[.int .i64 kind, .int .i64 num, .string text, .slice a 0 cap] 64 (0, 0))) (hQB : B ≤ Q) : ExB B w (.pointer (some ⟨Q, 0, none⟩)) (exN kind num text []) :=
  ⟨1, .inr ⟨rfl, Q, _, rfl, hQB, hQ, .inl ⟨rfl, a, cap, rfl⟩⟩⟩
/-- the two new blocks: a row of pointers, and the expression -/
theorem ex_built {B : Nat} {w : World} (hB : B ≤ w.heap.size) (kind num : Int) (text : ByteArray) (vs : List Value) (xs : List Ex) (hl : vs.length = xs.length) (h0 : xs ≠ []) (hk : ∀ j, j < xs.length → ∃ u, vs[j]? = some u ∧ ExB B w u (xs.getD j nilE)) :
    ∃ W, (w.alloc (.cells vs.toArray 24)).alloc (.cells #[.int .i64 kind, .int .i64 num, .string text, .slice (some ⟨w.heap.size, 0, none⟩) xs.length xs.length] 64) = W ∧ Below w.heap.size w W ∧ ExB B W (.pointer (some ⟨w.heap.size + 1, 0, none⟩)) (exN kind num text xs) := by
  have hb1 := alloc_below w (.cells vs.toArray 24)
  have hb2 := alloc_below (w.alloc (.cells vs.toArray 24)) (.cells #[.int .i64 kind, .int .i64 num, .string text, .slice (some ⟨w.heap.size, 0, none⟩) xs.length xs.length] 64)
  have hb : Below w.heap.size w ((w.alloc (.cells vs.toArray 24)).alloc (.cells #[.int .i64 kind, .int .i64 num, .string text, .slice (some ⟨w.heap.size, 0, none⟩) xs.length xs.length] 64)) := hb1.trans (hb2.mono (by rw [alloc_size]; omega))
  refine ⟨_, rfl, hb, ?_⟩
  have hQ := allocAtA (w.alloc (.cells vs.toArray 24)) (.cells #[.int .i64 kind, .int .i64 num, .string text, .slice (some ⟨w.heap.size, 0, none⟩) xs.length xs.length] 64)
  rw [alloc_size] at hQ
  have hK := (hb2.block w.heap.size (by rw [alloc_size]; omega)).trans (allocAtA w (.cells vs.toArray 24))
  exact ex_new hQ (by omega) hK hB hl (fun j hj => by simp) fun j hj => by
    obtain ⟨u, h1, h2⟩ := hk j hj
    exact ⟨u, h1, h2.below hb⟩

/-- what a reader of the document gives -/
def GotE (W0 w : World) (R : Nat) (s : ByteArray) (r : RE) (e : Ending) (w' : World) : Prop := ∃ p : Option Addr, e = .returned (.pointer p) ∧ w.grownBy w' (some R) ∧ PX W0 w' R s (stE r) ∧ ∀ x t, r = some (x, t) → ExB w.heap.size w' (.pointer p) x
def ExC (W0 : World) (R : Nat) (s : ByteArray) (m : Nat) (ex : Tok → RE) : Prop := ∀ w o, PX W0 w R s o → OkO s m o → Calls Tryz.prog 31 #[.pointer (some ⟨R, 0, none⟩)] w (GotE W0 w R s (o.bind ex))
def SgC (W0 : World) (R : Nat) (s : ByteArray) (m : Nat) (ex : Tok → RE) : Prop := ∀ w o, PX W0 w R s o → OkO s m o → Calls Tryz.prog 118 #[.pointer (some ⟨R, 0, none⟩)] w (GotE W0 w R s (o.bind ex))
def AtC (W0 : World) (R : Nat) (s : ByteArray) (m : Nat) (ex : Tok → RE) : Prop := ∀ w o, PX W0 w R s o → OkO s m o → Calls Tryz.prog 163 #[.pointer (some ⟨R, 0, none⟩)] w (GotE W0 w R s (o.bind ex))
def LvC (W0 : World) (R : Nat) (s : ByteArray) (m : Nat) (n : Int) (ex : Tok → RE) : Prop := ∀ w o, PX W0 w R s o → OkO s m o → Calls Tryz.prog 59 #[.pointer (some ⟨R, 0, none⟩), .int .i64 n] w (GotE W0 w R s (o.bind ex))
theorem OkO.st {s : ByteArray} {m : Nat} {o : Option Tok} {r : Tok → RE} (h : OkO s m o) (hr : GoesE s r) : OkO s (m + 1) (stE (o.bind r)) := fun u hu => by
  obtain ⟨x, h1, h2⟩ := map_some hu
  obtain ⟨e, v⟩ := x
  obtain rfl := h2
  have := h.read hr h1
  exact ⟨this.1, this.2.1⟩

theorem let_st (s : ByteArray) (ex : Tok → RE) (o : Option Tok) : stE (letS s ex o) = stE ((needS s inL (stE ((needS s [61] (nameS s o)).bind ex))).bind ex) := by
  unfold letS
  cases h1 : (needS s [61] (nameS s o)).bind ex with
  | none => rfl
  | some x =>
    obtain ⟨v, t3⟩ := x
    simp only [stE, Option.map_some]
    cases h2 : (needS s inL (some t3)).bind ex with
    | none => rfl
    | some y => rfl
theorem let_val {s : ByteArray} {ex : Tok → RE} {o : Option Tok} {x : Ex} {t : Tok} (h : letS s ex o = some (x, t)) : ∃ v t3 b, (needS s [61] (nameS s o)).bind ex = some (v, t3) ∧ (needS s inL (stE ((needS s [61] (nameS s o)).bind ex))).bind ex = some (b, t) ∧ x = exN 5 0 (textS o) [v, b] ∧ namedS o = true := by
  have hn : namedS o = true := by
    cases hn : namedS o with
    | true => rfl
    | false =>
      unfold letS at h
      have : nameS s o = none := by unfold nameS; rw [hn]; rfl
      rw [this] at h
      simp [needS, isS] at h
  unfold letS at h
  cases h1 : (needS s [61] (nameS s o)).bind ex with
  | none => rw [h1] at h; cases h
  | some y =>
    obtain ⟨v, t3⟩ := y
    rw [h1] at h
    simp only at h
    cases h2 : (needS s inL (some t3)).bind ex with
    | none => rw [h2] at h; cases h
    | some z =>
      obtain ⟨b, t'⟩ := z
      rw [h2] at h
      simp only [Option.some.injEq, Prod.mk.injEq] at h
      obtain ⟨rfl, rfl⟩ := h
      exact ⟨v, t3, b, rfl, by simp only [stE, Option.map_some]; exact h2, rfl, hn⟩
theorem if_st (s : ByteArray) (ex : Tok → RE) (o : Option Tok) : stE (ifS s ex o) = stE ((needS s elseL (stE ((needS s thenL (stE (o.bind ex))).bind ex))).bind ex) := by
  unfold ifS
  cases h1 : o.bind ex with
  | none => rfl
  | some x =>
    obtain ⟨v, t3⟩ := x
    simp only [stE, Option.map_some]
    cases h2 : (needS s thenL (some t3)).bind ex with
    | none => rfl
    | some y =>
      obtain ⟨b, t4⟩ := y
      simp only [Option.map_some]
      cases h3 : (needS s elseL (some t4)).bind ex with
      | none => rfl
      | some z => rfl
theorem if_val {s : ByteArray} {ex : Tok → RE} {o : Option Tok} {x : Ex} {t : Tok} (h : ifS s ex o = some (x, t)) : ∃ a t1 b t2 c, o.bind ex = some (a, t1) ∧ (needS s thenL (stE (o.bind ex))).bind ex = some (b, t2) ∧ (needS s elseL (stE ((needS s thenL (stE (o.bind ex))).bind ex))).bind ex = some (c, t) ∧ x = exN 6 0 emptyT [a, b, c] := by
  unfold ifS at h
  cases h1 : o.bind ex with
  | none => rw [h1] at h; cases h
  | some y =>
    obtain ⟨v, t3⟩ := y
    rw [h1] at h
    simp only at h
    cases h2 : (needS s thenL (some t3)).bind ex with
    | none => rw [h2] at h; cases h
    | some z =>
      obtain ⟨b, t'⟩ := z
      rw [h2] at h
      simp only at h
      cases h3 : (needS s elseL (some t')).bind ex with
      | none => rw [h3] at h; cases h
      | some z =>
        obtain ⟨c, t''⟩ := z
        rw [h3] at h
        simp only [Option.some.injEq, Prod.mk.injEq] at h
        obtain ⟨rfl, rfl⟩ := h
        refine ⟨v, t3, b, t', c, rfl, ?_, ?_, rfl⟩
        · simp only [stE, Option.map_some]; exact h2
        · simp only [stE, Option.map_some]; rw [h2]; simp only [Option.map_some]; exact h3

end Go.Proofs.YthbglakncijahaaGreatDoor

namespace Go.Proofs.YthbglakncijahaaGreatDoor
open Go.RowKit
set_option linter.unusedVariables false
set_option maxRecDepth 100000

set_option maxHeartbeats 4000000 in
theorem psigned_step {W0 w : World} (L : LibA W0) {R m f : Nat} {s : ByteArray} {ex : Tok → RE} (hA : AtC W0 R s m (atomS s ex)) {o : Option Tok} (hS : (∃ t, o = some t) → SgC W0 R s (m + 1) (sgdS s ex f)) (h : PX W0 w R s o) (ho : OkO s m o) :
    Calls Tryz.prog 118 #[.pointer (some ⟨R, 0, none⟩)] w (GotE W0 w R s (o.bind (sgdS s ex (f + 1)))) := by
  have HE : Hid (Calls Tryz.prog 56 #[.pointer (some ⟨R, 0, none⟩), .string ⟨#[45]⟩] w fun e w' => e = .returned (.bool (isS [45] o)) ∧ w.grownBy w' (some R) ∧ PX W0 w' R s (eatS s [45] o)) := by
    have := peat_any L h ⟨#[45]⟩
    rwa [Lib.toList_data] at this
  have hRw := h.lt
  cases hi : isS [45] o
  · have HA : Hid (∀ w1, w.grownBy w1 (some R) → PX W0 w1 R s (eatS s [45] o) → Calls Tryz.prog 163 #[.pointer (some ⟨R, 0, none⟩)] w1 fun e w' => ∃ p, e = .returned (.pointer p) ∧ GotE W0 w R s (o.bind (sgdS s ex (f + 1))) (.returned (.pointer p)) w') := by
      intro w1 hg h1
      have e1 : eatS s [45] o = o := by unfold eatS; rw [hi]; rfl
      rw [e1] at h1
      refine (hA w1 o h1 ho).mono ?_
      rintro e w' ⟨p, rfl, hg2, hX, hv⟩
      have e2 : o.bind (sgdS s ex (f + 1)) = o.bind (atomS s ex) := by
        cases o with
        | none => rfl
        | some t => simp only [Option.bind_some]; rw [sgdS, hi]; rfl
      refine ⟨p, rfl, p, rfl, gT hg hg2, by rw [e2]; exact hX, fun x t hx => ?_⟩
      rw [e2] at hx
      exact (hv x t hx).mono hg.size
    rw [hi] at HE
    generalize o.bind (sgdS s ex (f + 1)) = res at *
    clear h hA hS ho hi
    go_enter Tryz.func118, Tryz.ntmps118
    go_wp2_with fail
    go_at_call 56
    refine HE.out.mono ?_
    rintro e w1 ⟨rfl, hg1, hX1⟩
    have HA1 : Hid (Calls Tryz.prog 163 #[.pointer (some ⟨R, 0, none⟩)] w1 fun e w' => ∃ p, e = .returned (.pointer p) ∧ GotE W0 w R s res (.returned (.pointer p)) w') := HA.out w1 hg1 hX1
    clear HA HE hX1
    go_wp2_with fail
    go_at_call 163
    refine HA1.out.mono ?_
    rintro e w2 ⟨p, rfl, hG⟩
    go_wp2
    go_ret
    exact hG
  · have HA : Hid (∀ w1, w.grownBy w1 (some R) → PX W0 w1 R s (eatS s [45] o) → Calls Tryz.prog 118 #[.pointer (some ⟨R, 0, none⟩)] w1 fun e w' => ∃ p, e = .returned (.pointer p) ∧ w.grownBy w' (some R) ∧ PX W0 w' R s (stE (o.bind (sgdS s ex (f + 1)))) ∧ ∀ x t, o.bind (sgdS s ex (f + 1)) = some (x, t) → ∃ k, x = exN 8 0 emptyT [k] ∧ ExB w.heap.size w' (.pointer p) k) := by
      intro w1 hg h1
      cases o with
      | none => cases hi
      | some t =>
        have e1 : eatS s [45] (some t) = nextS s (some t) := by unfold eatS; rw [hi]; rfl
        rw [e1] at h1
        obtain ⟨ht, hm⟩ := ho t rfl
        refine (hS ⟨t, rfl⟩ w1 _ h1 (OkO.next ht hm (by have := is_kind hi; omega))).mono ?_
        rintro e w' ⟨p, rfl, hg2, hX, hv⟩
        have e2 : (some t).bind (sgdS s ex (f + 1)) = (match (nextS s (some t)).bind (sgdS s ex f) with | none => none | some (k, u) => some (exN 8 0 emptyT [k], u)) := by
          simp only [Option.bind_some]
          rw [sgdS, hi]
          rfl
        rw [e2]
        generalize (nextS s (some t)).bind (sgdS s ex f) = r at *
        refine ⟨p, rfl, gT hg hg2, ?_, fun x t' hx => ?_⟩
        · cases r with
          | none => exact hX
          | some y => exact hX
        · cases r with
          | none => cases hx
          | some y =>
            obtain ⟨k, u⟩ := y
            simp only [Option.some.injEq, Prod.mk.injEq] at hx
            obtain ⟨rfl, rfl⟩ := hx
            exact ⟨k, rfl, (hv k u rfl).mono hg.size⟩
    rw [hi] at HE
    generalize o.bind (sgdS s ex (f + 1)) = res at *
    clear h hA hS ho hi
    go_enter Tryz.func118, Tryz.ntmps118
    go_wp2_with fail
    go_at_call 56
    refine HE.out.mono ?_
    rintro e w1 ⟨rfl, hg1, hX1⟩
    have HA1 := HA.out w1 hg1 hX1
    have HA2 : Hid (Calls Tryz.prog 118 #[.pointer (some ⟨R, 0, none⟩)] w1 fun e w' => ∃ p, e = .returned (.pointer p) ∧ w.grownBy w' (some R) ∧ PX W0 w' R s (stE res) ∧ ∀ x t, res = some (x, t) → ∃ k, x = exN 8 0 emptyT [k] ∧ ExB w.heap.size w' (.pointer p) k) := HA1
    clear HA HE hX1 HA1
    go_wp2_with fail
    go_at_call 118
    refine HA2.out.mono ?_
    rintro e w2 ⟨p, rfl, hg2, hX2, hv2⟩
    have HV : Hid (∀ x t, res = some (x, t) → ∃ k, x = exN 8 0 emptyT [k] ∧ ExB w.heap.size w2 (.pointer p) k) := hv2
    clear hv2
    go_wp2
    go_ret
    have hbl : Below w2.heap.size w2 ((w2.alloc (.cells #[.pointer p] 24)).alloc (.cells #[.int .i64 8, .int .i64 0, .string ⟨#[]⟩, .slice (some ⟨w2.heap.size, 0, none⟩) 1 1] 64)) := (alloc_below w2 _).trans ((alloc_below _ _).mono (by rw [alloc_size]; omega))
    refine ⟨some ⟨w2.heap.size + 1, 0, none⟩, by simp, gT hg2 (grownA_below hbl _), hX2.below hbl, fun x t hx => ?_⟩
    obtain ⟨k, rfl, hk⟩ := HV.out x t hx
    obtain ⟨W, hW, _, hE⟩ := ex_built hg2.size 8 0 emptyT [.pointer p] [k] rfl (by simp) (fun j hj => by
      have : j = 0 := by simp at hj; omega
      subst this
      exact ⟨_, rfl, hk⟩)
    rw [← hW] at hE
    exact hE

end Go.Proofs.YthbglakncijahaaGreatDoor
