/- The program: is a tree one of a name, with the next leaves. -/
import Derived.Test.YtbgklfmhmpjboaaDoorTLef
namespace Go.Proofs.YtbgklfmhmpjboaaDoor
open Go.RowKit
set_option linter.unusedVariables false
set_option maxRecDepth 100000

/-- a walk on its way: what lay below is as it was; nodes that were gone through without leaves -/
structure Wk (W0 w : World) (W M : Nat) (g : Gm) (pv lv sv iv : Value) (inp : List Int) (a : Nat) (K : List Nat) : Prop where
  bel : Below W0.heap.size W0 w
  wk : WkM w W M g pv lv sv iv a K
  hW : W0.heap.size ≤ W
  hM : W0.heap.size ≤ M
  inv : ∀ b ∈ K, ∃ (n : Nat) (t : Tr) (name : Int) (a0 : Nat), IsTr (fun _ => True) n W0 (.pointer (some ⟨b, 0, none⟩)) t ∧ 0 ≤ name ∧ lvT g.prods inp t (-1 - name) a0 = some a0
theorem isTr_cel {ok : Nat → Prop} {W0 : World} {n b : Nat} {t : Tr} (h : IsTr ok n W0 (.pointer (some ⟨b, 0, none⟩)) t) : Cel W0 b ∧ b < W0.heap.size := by
  cases n with
  | zero => exact h.elim
  | succ n =>
    rcases h with ⟨_, h⟩ | ⟨_, b', kv, h1, _, h2, _⟩
    · simp at h
    · simp only [Value.pointer.injEq, Option.some.injEq, Addr.mk.injEq, and_true] at h1
      subst h1
      exact ⟨⟨_, _, h2⟩, (Array.getElem?_eq_some_iff.1 h2).1⟩
theorem Wk.cel {W0 w : World} {W M : Nat} {g : Gm} {pv lv sv iv : Value} {inp : List Int} {a : Nat} {K : List Nat} (h : Wk W0 w W M g pv lv sv iv inp a K) : ∀ b ∈ K, Cel w b := fun b hb => by
  obtain ⟨n, t, nm, a0, h1, _⟩ := h.inv b hb
  obtain ⟨⟨cs, ty, h2⟩, h3⟩ := isTr_cel h1
  exact ⟨cs, ty, (h.bel.block b h3).trans h2⟩
/-- what only draws and makes -/
theorem Wk.below {W0 w w' : World} {W M : Nat} {g : Gm} {pv lv sv iv : Value} {inp : List Int} {a : Nat} {K : List Nat} (h : Wk W0 w W M g pv lv sv iv inp a K) (hb : Below w.heap.size w w') : Wk W0 w' W M g pv lv sv iv inp a K :=
  ⟨h.bel.trans (hb.mono h.bel.size), h.wk.below hb, h.hW, h.hM, h.inv⟩
/-- a world that is another but for one block above -/
theorem below_but {W0 w w' : World} {Q : Nat} (h : Below W0.heap.size W0 w) (hg : w.grownBy w' (some Q)) (hQ : W0.heap.size ≤ Q) : Below W0.heap.size W0 w' :=
  h.trans ⟨hg.os, hg.tape, hg.output, hg.size, fun k hk => hg.block k (Nat.lt_of_lt_of_le hk h.size) (by intro e; have := Option.some.inj e; omega)⟩
/-- what the walk answers -/
def PostW (W0 : World) (W M : Nat) (g : Gm) (pv lv sv iv : Value) (inp : List Int) (o : Option Nat) (e : Ending) (w' : World) : Prop :=
  Below W0.heap.size W0 w' ∧ ((o = none ∧ e = .returned (.bool false)) ∨ ∃ a', o = some a' ∧ e = .returned (.bool true) ∧ ∃ K', Wk W0 w' W M g pv lv sv iv inp a' K')
def NdC (W0 : World) (W M : Nat) (g : Gm) (pv lv sv iv : Value) (inp : List Int) (u : Value) (t : Tr) : Prop := ∀ (w : World) (a : Nat) (K : List Nat) (name : Int), Wk W0 w W M g pv lv sv iv inp a K → 0 ≤ name → name ≤ 300 → a ≤ inp.length →
  Calls Tryd.prog 15 #[.pointer (some ⟨W, 0, none⟩), u, .int .i64 name] w fun e w' => PostW W0 W M g pv lv sv iv inp (lvT g.prods inp t (-1 - name) a) e w'
def TrC (W0 : World) (W M : Nat) (g : Gm) (pv lv sv iv : Value) (inp : List Int) (u : Value) (t : Tr) : Prop := ∀ (w : World) (a : Nat) (K : List Nat) (s : Int), Wk W0 w W M g pv lv sv iv inp a K → -301 ≤ s → s ≤ 300 → a ≤ inp.length →
  Calls Tryd.prog 22 #[.pointer (some ⟨W, 0, none⟩), u, .int .i64 s] w fun e w' => PostW W0 W M g pv lv sv iv inp (lvT g.prods inp t s a) e w'

theorem PostW.ret {W0 : World} {W M : Nat} {g : Gm} {pv lv sv iv : Value} {inp : List Int} {o : Option Nat} {e : Ending} {w' : World} (h : PostW W0 W M g pv lv sv iv inp o e w') : ∃ r, e = .returned (.bool r) := by
  rcases h.2 with ⟨_, h⟩ | ⟨_, _, h, _⟩
  · exact ⟨_, h⟩
  · exact ⟨_, h⟩

set_option maxHeartbeats 4000000 in
theorem isTree_walk (W0 : World) (W M : Nat) (g : Gm) (pv lv sv iv : Value) (inp : List Int) (o : Option Nat) (u : Value) (s : Int) (h1 : -301 ≤ s) (h2 : s ≤ 300) (w : World)
    (hl : 0 ≤ s → Calls Tryd.prog 31 #[.pointer (some ⟨W, 0, none⟩), u, .int .i64 s] w fun e w' => PostW W0 W M g pv lv sv iv inp o e w')
    (hn : s < 0 → Calls Tryd.prog 15 #[.pointer (some ⟨W, 0, none⟩), u, .int .i64 (-1 - s)] w fun e w' => PostW W0 W M g pv lv sv iv inp o e w') :
    Calls Tryd.prog 22 #[.pointer (some ⟨W, 0, none⟩), u, .int .i64 s] w fun e w' => PostW W0 W M g pv lv sv iv inp o e w' := by
  have HL : Hid (0 ≤ s → Calls Tryd.prog 31 #[.pointer (some ⟨W, 0, none⟩), u, .int .i64 s] w fun e w' => PostW W0 W M g pv lv sv iv inp o e w') := hl
  have HN : Hid (s < 0 → Calls Tryd.prog 15 #[.pointer (some ⟨W, 0, none⟩), u, .int .i64 (-1 - s)] w fun e w' => PostW W0 W M g pv lv sv iv inp o e w') := hn
  clear hl hn
  by_cases hs : 0 ≤ s
  · have d : decide (s ≥ 0) = true := decide_eq_true hs
    have hc := HL.out hs
    have HC : Hid (Calls Tryd.prog 31 #[.pointer (some ⟨W, 0, none⟩), u, .int .i64 s] w fun e w' => PostW W0 W M g pv lv sv iv inp o e w') := hc
    clear hc HL HN
    go_enter Tryd.func22, Tryd.ntmps22
    go_wp2_with fail
    go_at_call 31
    refine HC.out.mono ?_
    intro e w1 hq
    obtain ⟨r, rfl⟩ := hq.ret
    have HQ : Hid (PostW W0 W M g pv lv sv iv inp o (.returned (.bool r)) w1) := hq
    clear hq
    go_wp2
    go_ret
    exact HQ.out
  · have d : decide (s ≥ 0) = false := decide_eq_false (by omega)
    have hc := HN.out (by omega)
    have HC : Hid (Calls Tryd.prog 15 #[.pointer (some ⟨W, 0, none⟩), u, .int .i64 (-1 - s)] w fun e w' => PostW W0 W M g pv lv sv iv inp o e w') := hc
    have hw : IntKind.i64.wrap (-1 - s) = -1 - s := by rw [IntKind.wrap_i64]; omega
    clear hc HL HN
    go_enter Tryd.func22, Tryd.ntmps22
    go_wp2_with fail
    go_at_call 15
    refine HC.out.mono ?_
    intro e w1 hq
    obtain ⟨r, rfl⟩ := hq.ret
    have HQ : Hid (PostW W0 W M g pv lv sv iv inp o (.returned (.bool r)) w1) := hq
    clear hq
    go_wp2
    go_ret
    exact HQ.out

theorem isTree_all {ok : Nat → Prop} (W0 : World) (W M : Nat) (g : Gm) (pv lv sv iv : Value) (inp : List Int) (hin : inp.length ≤ 12) (hI : IntsR W0 iv inp) (n : Nat) (u : Value) (t : Tr) (h : IsTr ok n W0 u t) (hk : t.kids.length ≤ 1000000000000000) (hN : NdC W0 W M g pv lv sv iv inp u t) : TrC W0 W M g pv lv sv iv inp u t := by
  intro w a K s hw h1 h2 ha
  refine isTree_walk W0 W M g pv lv sv iv inp _ u s h1 h2 w (fun hs => ?_) (fun hs => ?_)
  · cases n with
    | zero => exact h.elim
    | succ n =>
      rcases h with ⟨rfl, rfl⟩ | ⟨his, b, kv, rfl, _, hblk, hkids⟩
      · refine (isLeaf_nil W s w).mono ?_
        rintro e w' ⟨rfl, hb⟩
        exact ⟨(hw.below hb).bel, .inl ⟨by rw [lvT_eq]; rfl, rfl⟩⟩
      · obtain ⟨ka, kc, rfl⟩ := hkids.slice
        obtain ⟨ia, ic, rfl⟩ := hI.slice
        have hblk' := (hw.bel.block b (Array.getElem?_eq_some_iff.1 hblk).1).trans hblk
        refine (isLeaf_any W M g pv lv sv ia ic inp hin a K t.prod t.tok b t.kids.length hk ka kc s w hw.wk hblk' (hI.below hw.bel) ha).mono ?_
        rintro e w' (⟨hf, rfl, hb⟩ | ⟨hf, rfl, hM, hg⟩)
        · exact ⟨(hw.below hb).bel, .inl ⟨by rw [lvT_eq, his, hf]; simp [hs], rfl⟩⟩
        · exact ⟨below_but hw.bel hg hw.hW, .inr ⟨a + 1, by rw [lvT_eq, his, hf]; simp [hs], rfl, K, below_but hw.bel hg hw.hW, hM, hw.hW, hw.hM, hw.inv⟩⟩
  · have := hN w a K (-1 - s) hw (by omega) (by omega) ha
    rw [show -1 - (-1 - s) = s by omega] at this
    exact this

set_option maxHeartbeats 2000000 in
theorem isNode_nil (W : Nat) (name : Int) (w : World) : Calls Tryd.prog 15 #[.pointer (some ⟨W, 0, none⟩), .pointer none, .int .i64 name] w fun e w' => e = .returned (.bool false) ∧ Below w.heap.size w w' := by
  have HC : Hid (Calls Tryd.prog 21 #[.pointer (some ⟨W, 0, none⟩), .pointer none, .int .i64 name] w fun e w' => e = .returned (.bool false) ∧ Below w.heap.size w w') := isOf_nil W name w
  go_enter Tryd.func15, Tryd.ntmps15
  go_wp2_with fail
  go_at_call 21
  refine HC.out.mono ?_
  rintro e w1 ⟨rfl, hb⟩
  go_wp2
  go_ret
  exact ⟨rfl, hb⟩

set_option maxHeartbeats 2000000 in
theorem isNode_bad (W b : Nat) (name : Int) (w : World) (hc : Calls Tryd.prog 21 #[.pointer (some ⟨W, 0, none⟩), .pointer (some ⟨b, 0, none⟩), .int .i64 name] w fun e w' => e = .returned (.bool false) ∧ Below w.heap.size w w') :
    Calls Tryd.prog 15 #[.pointer (some ⟨W, 0, none⟩), .pointer (some ⟨b, 0, none⟩), .int .i64 name] w fun e w' => e = .returned (.bool false) ∧ Below w.heap.size w w' := by
  have HC : Hid (Calls Tryd.prog 21 #[.pointer (some ⟨W, 0, none⟩), .pointer (some ⟨b, 0, none⟩), .int .i64 name] w fun e w' => e = .returned (.bool false) ∧ Below w.heap.size w w') := hc
  clear hc
  go_enter Tryd.func15, Tryd.ntmps15
  go_wp2_with fail
  go_at_call 21
  refine HC.out.mono ?_
  rintro e w1 ⟨rfl, hb⟩
  go_wp2
  go_ret
  exact ⟨rfl, hb⟩

set_option maxHeartbeats 4000000 in
theorem isNode_met (W0 : World) (W M : Nat) (g : Gm) (pv lv sv iv : Value) (inp : List Int) (a b : Nat) (K : List Nat) (name : Int) (w : World) (hw : Wk W0 w W M g pv lv sv iv inp a K) (hb : Cel w b) (hbl : b < w.heap.size) (hK : b ∈ K)
    (hc : Calls Tryd.prog 21 #[.pointer (some ⟨W, 0, none⟩), .pointer (some ⟨b, 0, none⟩), .int .i64 name] w fun e w' => e = .returned (.bool true) ∧ Below w.heap.size w w') :
    Calls Tryd.prog 15 #[.pointer (some ⟨W, 0, none⟩), .pointer (some ⟨b, 0, none⟩), .int .i64 name] w fun e w' => e = .returned (.bool true) ∧ Wk W0 w' W M g pv lv sv iv inp a K := by
  have HC : Hid (Calls Tryd.prog 21 #[.pointer (some ⟨W, 0, none⟩), .pointer (some ⟨b, 0, none⟩), .int .i64 name] w fun e w' => e = .returned (.bool true) ∧ Below w.heap.size w w') := hc
  have HW : Hid (Wk W0 w W M g pv lv sv iv inp a K) := hw
  clear hc hw
  go_enter Tryd.func15, Tryd.ntmps15
  go_wp2_with fail
  go_at_call 21
  refine HC.out.mono ?_
  rintro e w1 ⟨rfl, hb1⟩
  have HW1 : Hid (Wk W0 w1 W M g pv lv sv iv inp a K) := HW.out.below hb1
  have hcel : Cel w1 b := by obtain ⟨cs, t, h⟩ := hb; exact ⟨cs, t, (hb1.block b hbl).trans h⟩
  have hlook := HW1.out.wk.map.look hcel HW1.out.cel
  rw [decide_eq_true hK] at hlook
  obtain ⟨_, _, _, m8⟩ := HW1.out.wk.cells
  have hWl := HW1.out.wk.lt
  have HW2 : Hid (∀ w', Below w1.heap.size w1 w' → Wk W0 w' W M g pv lv sv iv inp a K) := fun w' h => HW1.out.below h
  clear hcel hb1 HW HC hb hbl
  go_wp2
  go_ret
  exact ⟨rfl, HW2.out _ (alloc_below _ _)⟩

end Go.Proofs.YtbgklfmhmpjboaaDoor
