import Derived.Test.YtbiiapdeincpbaaCPart
import Derived.Test.YtbiiapdeincpbaaRBoth
import Derived.Maps.OwnSet
import Derived.DeepKeys4
import Derived.MapViews
import Derived.BigRegion
namespace Go.Proofs.Ytbiiapdeincpbaa
open Go.RowKit
open Go.Maps (Keyed)
set_option linter.unusedVariables false
set_option maxRecDepth 100000

theorem Try.laidM : laidOutB Try.prog = true := by kernel_rfl
theorem Try.rowPair : (88 : TypeId) < Try.prog.types.size := of_decide_eq_true (by kernel_rfl)
theorem Try.widePair : (match Try.prog.underlying 88 with | some (.array _ _) | some (.struct _) => true | _ => false) = true := by kernel_rfl
theorem Try.lawPair : Keyed Try.prog 88 := Keyed.of_law (deep_law_laid Try.laidM (m := 3) (by omega) Try.rowPair (by kernel_rfl) Try.widePair)
theorem Try.deepPair : Try.prog.keyTypeAt (Try.prog.types.size + 1) 88 = true := by kernel_rfl
theorem Try.cellsPair : Try.prog.cellsOf 88 = 2 := by kernel_rfl
theorem Try.cellsInt : Try.prog.cellsOf 3 = 1 := by kernel_rfl
theorem Try.zeroInt (w : World) : (zeroValue 3).run Try.prog w = .ok (.int .i64 0) w := by kernel_rfl
theorem Try.lawInt : Keyed Try.prog 3 := Maps.int_keyed Try.underlying3

def pairV (x : Pr) : Value := .agg #[.int .i64 x.1, .int .i64 x.2]

theorem pair_key (x : Pr) (h1 : -9223372036854775808 ≤ x.1) (h2 : x.1 ≤ 9223372036854775807) (h3 : -9223372036854775808 ≤ x.2) (h4 : x.2 ≤ 9223372036854775807) : ∃ kl, keyOf Try.prog 88 (pairV x) = some kl := by
  have wa : (Lit.int .i64 x.1).wf = true := WalkArith.wf_i64 (by omega)
  have wb : (Lit.int .i64 x.2).wf = true := WalkArith.wf_i64 (by omega)
  have hT : DataW.Trod (H := Unit) (fun _ => ()) Try.prog (World.settled Try.prog default) 0 (fun _ => true) true 88 (pairV x) (.agg [.lit (.int .i64 x.1), .lit (.int .i64 x.2)]) [] := by
    refine ⟨2, ?_⟩
    show DataW.trod _ Try.prog _ _ _ _ (1 + 1) 88 [.int .i64 x.1, .int .i64 x.2] = _
    rw [DataW.trod_step]
    unfold DataW.trodStep
    simp only [Try.underlying88]
    simp [Try.cellsPair, Try.cellsInt, DataW.trod, Try.underlying3, wa, wb]
  exact ⟨_, (keyOf_asKey Try.deepPair Try.widePair (by simp [pairV, Value.formed, Try.underlying88, Try.cellsPair]) hT).1⟩


section
variable {α : Type} {k : TypeId} {enc : α → Value}

/-- the map tells of each of the list's elements its place -/
def IdxG (k : TypeId) (enc : α → Value) (D : DataW Unit) (l : List α) : Prop :=
  Maps.size D = l.length ∧ ∀ (x : α) (kl : Lit), keyOf Try.prog k (enc x) = some kl → (∀ i : Nat, l[i]? = some x → Maps.has D kl = true ∧ D.atKey kl (.lit (.int .i64 0)) = .lit (.int .i64 i)) ∧ (x ∉ l → Maps.has D kl = false)

theorem idx_nil : IdxG k enc (.map []) [] := ⟨rfl, fun x kl _ => ⟨fun i hi => by simp at hi, fun _ => rfl⟩⟩

theorem idx_put (K : Keyed Try.prog k) (hinj : ∀ x y, enc x = enc y → x = y) {D : DataW Unit} {l : List α} (h : IdxG k enc D l) (hT : Maps.Tidy D) {x : α} {kl : Lit} (hk : keyOf Try.prog k (enc x) = some kl) (hx : x ∉ l) :
    IdxG k enc (D.put kl (.lit (.int .i64 (l.length : Nat)))) (l ++ [x]) := by
  have hno := (h.2 x kl hk).2 hx
  refine ⟨by rw [Maps.size_put hT, hno]; simp [h.1], fun y kl' hk' => ?_⟩
  by_cases e : y = x
  · subst e
    obtain rfl : kl' = kl := by rw [hk] at hk'; exact (Option.some.inj hk').symm
    refine ⟨fun i hi => ?_, fun hn => absurd (by simp) hn⟩
    have hil : i = l.length := by
      rcases (show i < l.length ∨ i = l.length ∨ l.length < i from by omega) with q | q | q
      · rw [List.getElem?_append_left q] at hi
        exact absurd (List.mem_of_getElem? hi) hx
      · exact q
      · rw [List.getElem?_append_right (by omega)] at hi
        have : i - l.length ≠ 0 := by omega
        obtain ⟨z, hz⟩ : ∃ z, i - l.length = z + 1 := ⟨i - l.length - 1, by omega⟩
        rw [hz] at hi; simp at hi
    subst hil
    exact ⟨Maps.has_put_same hT.isMap (K.key hk) _, Maps.atKey_put_same hT.isMap (K.key hk) _ _⟩
  · have hne : kl' ≠ kl := fun e2 => e (hinj _ _ (K.inj hk' (e2 ▸ hk)))
    refine ⟨fun i hi => ?_, fun hn => ?_⟩
    · have hi2 : l[i]? = some y := by
        rcases (show i < l.length ∨ l.length ≤ i from by omega) with q | q
        · rw [List.getElem?_append_left q] at hi; exact hi
        · rw [List.getElem?_append_right q] at hi
          obtain ⟨z, hz⟩ : ∃ z, i - l.length = z := ⟨_, rfl⟩
          rw [hz] at hi
          cases z with
          | zero => simp at hi; exact absurd hi.symm e
          | succ z => simp at hi
      have := (h.2 y kl' hk').1 i hi2
      rw [Maps.has_put_other hne, Maps.atKey_put_other hne]
      exact this
    · rw [Maps.has_put_other hne]
      exact (h.2 y kl' hk').2 (fun hm => hn (by simp [hm]))
end

theorem pair_inj (x y : Pr) (h : pairV x = pairV y) : x = y := by
  obtain ⟨a, b⟩ := x
  obtain ⟨c, d⟩ := y
  simp [pairV] at h
  simp [h]

/-- w' is w but for the blocks of S and new ones -/
structure But (S : List Nat) (w w' : World) : Prop where
  os : w'.os = w.os
  tape : w'.tape = w.tape
  output : w'.output = w.output
  size : w.heap.size ≤ w'.heap.size
  block : ∀ k, k < w.heap.size → k ∉ S → w'.heap[k]? = w.heap[k]?
theorem But.refl (S : List Nat) (w : World) : But S w w := ⟨rfl, rfl, rfl, Nat.le_refl _, fun _ _ _ => rfl⟩
theorem But.trans {S : List Nat} {a b c : World} (h : But S a b) (h' : But S b c) : But S a c :=
  ⟨h'.os.trans h.os, h'.tape.trans h.tape, h'.output.trans h.output, Nat.le_trans h.size h'.size, fun k hk hS => (h'.block k (Nat.lt_of_lt_of_le hk h.size) hS).trans (h.block k hk hS)⟩
theorem But.mono {S T : List Nat} {a b : World} (h : But S a b) (hs : ∀ k ∈ S, k ∈ T) : But T a b := ⟨h.os, h.tape, h.output, h.size, fun k hk hT => h.block k hk (fun hS => hT (hs k hS))⟩
theorem But.alloc (S : List Nat) (w : World) (o : Obj) : But S w (w.alloc o) := ⟨rfl, rfl, rfl, by simp, fun k hk _ => Below.heap_alloc _ _ _ hk⟩
theorem But.drewN (S : List Nat) (w : World) (n : Nat) : But S w (w.drewN n) := ⟨rfl, rfl, rfl, Nat.le_refl _, fun _ _ _ => rfl⟩
theorem But.setCell {S : List Nat} (w : World) {b : Nat} (hb : b ∈ S) (o : Nat) (u : Value) : But S w (w.setCell ⟨b, o, none⟩ u) := ⟨rfl, rfl, rfl, by simp, fun k hk hS => Below.heap_setCell _ _ _ _ (fun e => hS (by simp at e; rw [e]; exact hb))⟩
theorem But.grown {S : List Nat} {w w' : World} {row : Option Nat} (h : w.grownBy w' row) (hr : ∀ k, row = some k → k ∈ S) : But S w w' := ⟨h.os, h.tape, h.output, h.size, fun k hk hS => h.block k hk (fun e => hS (hr k e.symm))⟩
theorem But.below {S : List Nat} {w w' : World} {B : Nat} (h : But S w w') (hB : B ≤ w.heap.size) (hS : ∀ k ∈ S, B ≤ k) : Below B w w' := ⟨h.os, h.tape, h.output, h.size, fun k hk => h.block k (by omega) (fun hk2 => by have := hS k hk2; omega)⟩

def intsA (l : List Int) : Array Value := (l.map fun z => Value.int .i64 z).toArray
theorem intsA_get (l : List Int) (j : Nat) (h : j < l.length) : (intsA l)[j]? = some (.int .i64 (l.getD j 0)) := by simp [intsA, h]
theorem intsA_set (l : List Int) (j : Nat) (x : Int) : (intsA l).setIfInBounds j (.int .i64 x) = intsA (l.set j x) := by simp [intsA, List.map_set]

structure MemAt (w : World) (M Dp Nd Mp n L : Nat) (ds nodes : List Int) (ps : List Pr) : Prop where
  hM : w.heap[M]? = some (.cells #[.slice (some ⟨Dp, 0, none⟩) n n, .slice (some ⟨Nd, 0, none⟩) (2 * L) (2 * L), .map (some Mp)] 78 (0, 0))
  hD : w.heap[Dp]? = some (.cells (intsA ds) 3 (0, 0))
  hN : w.heap[Nd]? = some (.cells (intsA nodes) 3 (0, 0))
  dn : Dp ≠ Nd
  ld : ds.length = n
  ln : nodes.length = 2 * L
  map : ∃ D : DataW Unit, w.ownsMap Try.prog 88 (plainElem Try.prog 3) Mp ps.length D ∧ IdxG 88 pairV D ps
  nd : ps.Nodup

theorem MemAt.ne {w : World} {M Dp Nd Mp n L : Nat} {ds nodes : List Int} {ps : List Pr} (h : MemAt w M Dp Nd Mp n L ds nodes ps) : M ≠ Dp ∧ M ≠ Nd ∧ M ≠ Mp ∧ Dp ≠ Mp ∧ Nd ≠ Mp := by
  obtain ⟨D, ⟨es, cl, hm, _⟩, _⟩ := h.map
  have h1 := h.hM
  have h2 := h.hD
  have h3 := h.hN
  refine ⟨?_, ?_, ?_, ?_, ?_⟩ <;> intro e <;> subst e <;> simp_all

theorem MemAt.but {w w' : World} {S : List Nat} {M Dp Nd Mp n L : Nat} {ds nodes : List Int} {ps : List Pr} (h : MemAt w M Dp Nd Mp n L ds nodes ps) (hb : But S w w') (h1 : M ∉ S) (h2 : Dp ∉ S) (h3 : Nd ∉ S) (h4 : Mp ∉ S) : MemAt w' M Dp Nd Mp n L ds nodes ps := by
  have lt : ∀ {k : Nat} {o : Obj}, w.heap[k]? = some o → k < w.heap.size := fun h => (Array.getElem?_eq_some_iff.1 h).1
  refine ⟨(hb.block M (lt h.hM) h1).trans h.hM, (hb.block Dp (lt h.hD) h2).trans h.hD, (hb.block Nd (lt h.hN) h3).trans h.hN, h.dn, h.ld, h.ln, ?_, h.nd⟩
  obtain ⟨D, ⟨es, cl, hm, r⟩, hi⟩ := h.map
  exact ⟨D, ⟨es, cl, (hb.block Mp (lt hm) h4).trans hm, r⟩, hi⟩

set_option maxHeartbeats 1000000 in
theorem renumber_old (M Nd Mp i L : Nat) (a b : Int) (q : Nat) (w : World) (hM : M < w.heap.size) (hNd : Nd < w.heap.size) (hi : i < L) (hL : L ≤ 1000)
    (c1 : w.cell? ⟨M, 1, none⟩ = some (.slice (some ⟨Nd, 0, none⟩) (2 * L) (2 * L))) (c2 : w.cell? ⟨M, 2, none⟩ = some (.map (some Mp))) (ca : w.cell? ⟨Nd, 2 * i, none⟩ = some (.int .i64 a)) (cb : w.cell? ⟨Nd, 2 * i + 1, none⟩ = some (.int .i64 b)) (z : Int) (ci : w.cell? ⟨Nd, i, none⟩ = some (.int .i64 z)) (fz : w.frozen? ⟨Nd, i, none⟩ = false)
    (hlook : ∀ m, (Instr.lookup 76 (.map (some Mp)) (.agg #[.int .i64 a, .int .i64 b]) true).run Try.prog ((w.alloc (.cells #[.int .i64 a, .int .i64 b] 88)).drewN m) = .ok (.tuple #[.int .i64 q, .bool true]) ((w.alloc (.cells #[.int .i64 a, .int .i64 b] 88)).drewN m)) :
    Calls Try.prog 56 #[.pointer (some ⟨M, 0, none⟩), .int .i64 i] w fun e w' => e = .returned (.tuple #[]) ∧ ∃ m, w' = ((w.setCell ⟨Nd, i, none⟩ (.int .i64 q)).alloc (.cells #[.int .i64 a, .int .i64 b] 88)).drewN m := by
  have hw1 : IntKind.i64.wrap (2 * (i : Int)) = 2 * (i : Int) := wrap_k64 _ (by omega) (by omega)
  have hw2 : IntKind.i64.wrap (2 * (i : Int) + 1) = 2 * (i : Int) + 1 := wrap_k64 _ (by omega) (by omega)
  have hx1 : (0 : Int) ≤ 2 * (i : Int) := by omega
  have hx2 : (2 * (i : Int)) < ((2 * L : Nat) : Int) := by omega
  have hx3 : (2 * (i : Int) + 1) < ((2 * L : Nat) : Int) := by omega
  have hx4 : (0 : Int) ≤ 2 * (i : Int) + 1 := by omega
  go_enter Try.func56, Try.ntmps56
  go_wp2
  go_region
  have hl1 := hlook 1
  have hl2 := hlook 2
  rw [show ∀ W : World, W.drewN 1 = W.drew from fun _ => rfl] at hl1
  rw [show ∀ W : World, W.drewN 2 = W.drew.drew from fun _ => rfl] at hl2
  clear hlook
  go_wp2
  go_region
  go_wp2
  go_end0
  exact ⟨rfl, 2, rfl⟩

set_option maxHeartbeats 1000000 in
theorem renumber_new (M Nd Mp i L n : Nat) (a b : Int) (w W3 : World) (hM : M < w.heap.size) (hNd : Nd < w.heap.size) (hi : i < L) (hL : L ≤ 1000)
    (c1 : w.cell? ⟨M, 1, none⟩ = some (.slice (some ⟨Nd, 0, none⟩) (2 * L) (2 * L))) (c2 : w.cell? ⟨M, 2, none⟩ = some (.map (some Mp))) (ca : w.cell? ⟨Nd, 2 * i, none⟩ = some (.int .i64 a)) (cb : w.cell? ⟨Nd, 2 * i + 1, none⟩ = some (.int .i64 b))
    (hl1 : (Instr.lookup 76 (.map (some Mp)) (.agg #[.int .i64 a, .int .i64 b]) true).run Try.prog (w.alloc (.cells #[.int .i64 a, .int .i64 b] 88)).drew.drew = .ok (.tuple #[.int .i64 0, .bool false]) (w.alloc (.cells #[.int .i64 a, .int .i64 b] 88)).drew.drew)
    (hlen : ∀ ty, (Builtin.len_ #[76] ty #[.map (some Mp)]).run Try.prog (w.alloc (.cells #[.int .i64 a, .int .i64 b] 88)).drew.drew = .ok (.int .i64 n) (w.alloc (.cells #[.int .i64 a, .int .i64 b] 88)).drew.drew)
    (hup : (Instr.mapUpdate 76 (.map (some Mp)) (.agg #[.int .i64 a, .int .i64 b]) (.int .i64 n)).run Try.prog (w.alloc (.cells #[.int .i64 a, .int .i64 b] 88)).drew.drew.drew = .ok () W3)
    (d1 : W3.cell? ⟨M, 1, none⟩ = some (.slice (some ⟨Nd, 0, none⟩) (2 * L) (2 * L))) (z : Int) (di : W3.cell? ⟨Nd, i, none⟩ = some (.int .i64 z)) (fz : W3.frozen? ⟨Nd, i, none⟩ = false) :
    Calls Try.prog 56 #[.pointer (some ⟨M, 0, none⟩), .int .i64 i] w fun e w' => e = .returned (.tuple #[]) ∧ w' = W3.setCell ⟨Nd, i, none⟩ (.int .i64 n) := by
  have hw1 : IntKind.i64.wrap (2 * (i : Int)) = 2 * (i : Int) := wrap_k64 _ (by omega) (by omega)
  have hw2 : IntKind.i64.wrap (2 * (i : Int) + 1) = 2 * (i : Int) + 1 := wrap_k64 _ (by omega) (by omega)
  have hx1 : (0 : Int) ≤ 2 * (i : Int) := by omega
  have hx2 : (2 * (i : Int)) < ((2 * L : Nat) : Int) := by omega
  have hx3 : (2 * (i : Int) + 1) < ((2 * L : Nat) : Int) := by omega
  have hx4 : (0 : Int) ≤ 2 * (i : Int) + 1 := by omega
  go_enter Try.func56, Try.ntmps56
  go_wp2
  go_region
  go_wp2
  go_region
  go_wp2
  go_region
  go_wp2
  go_end0
  exact ⟨rfl, rfl⟩

end Go.Proofs.Ytbiiapdeincpbaa
