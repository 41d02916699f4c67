/- Texts of the proof, put together: RInn, RRec, RBrk, RBrkB, RBrkC. -/
import Derived.Test.YtbjohedenfindaaGreatDoorMg21
import Derived.Test.YtbjohedenfindaaGreatDoorMg18
namespace Go.Proofs.YtbjohedenfindaaGreatDoor
open Go.RowKit
set_option linter.unusedVariables false
set_option maxRecDepth 100000

def parS (s : ByteArray) (r : Option (Re × Nat)) : Option (Re × Nat) := match r with
  | none => none
  | some (p, j) => if cpAt s j = 41 then some (p, j + 1) else none

theorem not_tree {B : Nat} {w : World} {p : Value} {t : Re} (hB : B ≤ w.heap.size) (hp : RT' B w p t) : RT' B ((w.alloc (.cells #[p] 22)).alloc (.cells #[.int .i64 5, .slice none 0 0, .int .i64 0, .int .i64 0, .slice (some ⟨w.heap.size, 0, none⟩) 1 1] 48)) (.pointer (some ⟨w.heap.size + 1, 0, none⟩)) (notRe t) := by
  have hga := ((below_allocU w (.cells #[p] 22)).trans ((below_allocU _ (.cells #[.int .i64 5, .slice none 0 0, .int .i64 0, .int .i64 0, .slice (some ⟨w.heap.size, 0, none⟩) 1 1] 48)).mono (by simp)))
  have h1 : ((w.alloc (.cells #[p] 22)).alloc (.cells #[.int .i64 5, .slice none 0 0, .int .i64 0, .int .i64 0, .slice (some ⟨w.heap.size, 0, none⟩) 1 1] 48)).heap[w.heap.size]? = some (.cells #[p] 22 (0, 0)) := by
    rw [Below.heap_alloc _ _ _ (by simp)]
    exact heap_alloc_new w _
  have h2 := heap_alloc_new (w.alloc (.cells #[p] 22)) (.cells #[.int .i64 5, .slice none 0 0, .int .i64 0, .int .i64 0, .slice (some ⟨w.heap.size, 0, none⟩) 1 1] 48)
  rw [show (w.alloc _).heap.size = w.heap.size + 1 from by simp] at h2
  obtain ⟨n, hn⟩ := Tree.moved hp hga.size fun b hb hok => ⟨hok, hga.block b hb⟩
  refine ⟨n + 1, w.heap.size + 1, _, _, rfl, by omega, h2, .inl ⟨rfl, none, 0, rfl⟩, .inr ⟨w.heap.size, 0, 1, rfl, by simp; omega, hB, fun j hj => ?_⟩⟩
  have hj0 : j = 0 := by simp [notRe] at hj; omega
  subst hj0
  exact ⟨p, by simp [World.cell?, h1], by simpa [notRe] using hn⟩

set_option maxHeartbeats 2000000 in
theorem rinner_not {W0 w : World} {R i o : Nat} {s : ByteArray} {u : Nat → Option (Re × Nat)} (U : RUnitC W0 R s o u) (h : XR W0 w R s i o) :
    Calls Tryz.prog 139 #[.pointer (some ⟨R, 0, none⟩), .int .i64 126] w fun e w' => GotT W0 w R s i o ((u i).map fun x => (notRe x.1, x.2)) e w' := by
  have HU : Hid (Calls Tryz.prog 127 #[.pointer (some ⟨R, 0, none⟩)] w fun e w1 => ∃ p, e = .returned (.pointer p) ∧ GotT W0 w R s i o ((u i).map fun x => (notRe x.1, x.2)) (.returned (.pointer (some ⟨w1.heap.size + 1, 0, none⟩))) ((w1.alloc (.cells #[.pointer p] 22)).alloc (.cells #[.int .i64 5, .slice none 0 0, .int .i64 0, .int .i64 0, .slice (some ⟨w1.heap.size, 0, none⟩) 1 1] 48))) := by
    refine (U w i h).mono ?_
    rintro e w1 ⟨p, j, rfl, hg, hx, hh⟩
    have hga := ((below_allocU w1 (.cells #[.pointer p] 22)).trans ((below_allocU _ (.cells #[.int .i64 5, .slice none 0 0, .int .i64 0, .int .i64 0, .slice (some ⟨w1.heap.size, 0, none⟩) 1 1] 48)).mono (by simp)))
    refine ⟨p, rfl, _, j, rfl, Lib.grownBy_trans hg (grownBy_of_below hga _), hx.kept (grownBy_of_below hga none), ?_⟩
    rcases hh with hB | ⟨h1, t, h2, h3⟩
    · exact .inl (hB.kept (grownBy_of_below hga none))
    · exact .inr ⟨h1, notRe t, by rw [h2]; rfl, not_tree hg.size h3⟩
  clear U h
  go_enter Tryz.func139, Tryz.ntmps139
  go_wp2_with fail
  go_at_call 127
  refine HU.out.mono ?_
  rintro e w1 ⟨p, rfl, hG⟩
  have HG : Hid (_) := hG
  clear hG HU
  go_wp2
  go_ret
  exact HG.out

set_option maxHeartbeats 2000000 in
theorem rinner_par {W0 w : World} (L : LibC W0) {R i o : Nat} {s : ByteArray} {r : Nat → Option (Re × Nat)} (U : RdC W0 R s o 21 r) (h : XR W0 w R s i o) :
    Calls Tryz.prog 139 #[.pointer (some ⟨R, 0, none⟩), .int .i64 40] w fun e w' => GotT W0 w R s i o (parS s (r i)) e w' := by
  have hRB := h.lt
  have HU : Hid (Calls Tryz.prog 21 #[.pointer (some ⟨R, 0, none⟩)] w fun e w1 => ∃ p, e = .returned (.pointer p) ∧ Hid (Calls Tryz.prog 142 #[.pointer (some ⟨R, 0, none⟩), .int .i64 41] w1 fun e w2 => e = .returned (.tuple #[]) ∧ GotT W0 w R s i o (parS s (r i)) (.returned (.pointer p)) w2)) := by
    refine (U w i h).mono ?_
    rintro e w1 ⟨p, j, rfl, hg, hx, hh⟩
    refine ⟨p, rfl, ?_⟩
    have ho : BR W0 w1 R s ∨ o ≤ 1000 := hx.elim (fun h => .inr h.2) .inl
    refine (need_x L hx 41 (by omega) (by omega)).mono ?_
    rintro e w2 ⟨h1, hg2, hh2⟩
    have hg12 := Lib.grownBy_trans hg hg2
    rcases hh2 with hB | ⟨k1, k2, k3⟩
    · exact ⟨h1, p, 0, rfl, hg12, .inr hB, .inl hB⟩
    · have ho2 : o ≤ 1000 := ho.elim (fun hB => (k1.not_br hB).elim) id
      refine ⟨h1, p, j + 1, rfl, hg12, .inl ⟨k3, ho2⟩, ?_⟩
      rcases hh with hB | ⟨q1, t, q2, q3⟩
      · exact (k1.not_br hB).elim
      · refine .inr ⟨q1, t, ?_, tree_grown q3 hRB hg2⟩
        rw [q2]
        show (if cpAt s j = 41 then some (t, j + 1) else none) = _
        rw [if_pos k2]
  clear U h
  go_enter Tryz.func139, Tryz.ntmps139
  go_wp2_with fail
  go_at_call 21
  refine HU.out.mono ?_
  rintro e w1 ⟨p, rfl, HNd⟩
  clear HU
  go_wp2_with fail
  go_at_call 142
  refine HNd.out.mono ?_
  rintro e w2 ⟨rfl, hG⟩
  have HG : Hid (_) := hG
  clear hG HNd
  go_wp2
  go_ret
  exact HG.out

end Go.Proofs.YtbjohedenfindaaGreatDoor

namespace Go.Proofs.YtbjohedenfindaaGreatDoor
open Go.RowKit
set_option linter.unusedVariables false
set_option maxRecDepth 100000

/-- brackets, as they are read -/
def BrC (W0 : World) (R : Nat) (s : ByteArray) (mk : List Rg → Bool → List Rg) : Prop := ∀ (o : Nat) (w : World) (i : Nat), XR W0 w R s i o → Calls Tryz.prog 139 #[.pointer (some ⟨R, 0, none⟩), .int .i64 91] w fun e w' => GotT W0 w R s i o (brackS s mk i) e w'
/-- what stands behind an opening sign -/
def innS (s : ByteArray) (mk : List Rg → Bool → List Rg) (n : Nat) (c : Int) (i : Nat) : Option (Re × Nat) :=
  if c = 126 then (unitS s mk n i).map fun x => (notRe x.1, x.2) else if c = 40 then parS s (patS s (fun j => unitS s mk n j) i) else brackS s mk i
theorem unitS_open {s : ByteArray} {mk : List Rg → Bool → List Rg} {n i : Nat} {c : Int} (hc : cpAt s i = c) (h : c = 40 ∨ c = 91 ∨ c = 126) : unitS s mk (n + 1) i = innS s mk n c (i + 1) := by
  subst hc
  unfold innS
  rw [unitS]
  rcases h with h | h | h
  · rw [if_neg (by omega), if_pos h, if_neg (by omega), if_pos h]
    rfl
  · rw [if_neg (by omega), if_neg (by omega), if_pos h, if_neg (by omega), if_neg (by omega)]
  · rw [if_pos h, if_pos h]
theorem unitS_leaf {s : ByteArray} {mk : List Rg → Bool → List Rg} {n i : Nat} (h1 : cpAt s i ≠ 40) (h2 : cpAt s i ≠ 91) (h3 : cpAt s i ≠ 126) : unitS s mk n i = leafS s mk i := by
  cases n with
  | zero => rfl
  | succ n => rw [unitS, if_neg h3, if_neg h1, if_neg h2]

theorem part_goes {s : ByteArray} {u : Nat → Option (Re × Nat)} (hu : Goes s u) : Goes s fun i => (u i).bind fun x => partS s (s.size + 1) x.1 x.2 := fun i t j hi hx => by
  cases hui : u i with
  | none => simp [hui] at hx
  | some x =>
    obtain ⟨q, m⟩ := x
    simp [hui] at hx
    have h1 := hu i q m hi hui
    have h2 := partS_some _ (by omega) hx
    omega
theorem runit_all {W0 : World} (L : LibC W0) {R : Nat} {s : ByteArray} {mk : List Rg → Bool → List Rg} (hmk : mk [(10, 10)] true = [(0, 9), (11, 1114111)]) (HBr : BrC W0 R s mk) :
    ∀ n o, n + o = 100 → RUnitC W0 R s o (unitS s mk n) := by
  intro n
  induction n with
  | zero =>
    intro o ho w i h
    obtain rfl : o = 100 := by omega
    by_cases hc : cpAt s i = 40 ∨ cpAt s i = 91 ∨ cpAt s i = 126
    · rcases h with ⟨h, _⟩ | h
      · exact runit_full L h rfl hc
      · exact runit_leaf (i := i) (o := 100) L hmk (.inr h) (.inl h)
    · refine (runit_leaf L hmk h (.inr ⟨fun e => hc (.inl e), fun e => hc (.inr (.inl e)), fun e => hc (.inr (.inr e))⟩)).mono ?_
      exact fun e w' h => h
  | succ n ih =>
    intro o ho w i h
    have hU := ih (o + 1) (by omega)
    by_cases hc : cpAt s i = 40 ∨ cpAt s i = 91 ∨ cpAt s i = 126
    · rw [unitS_open rfl hc]
      rcases h with ⟨h, _⟩ | h
      · refine runit_open L (q := innS s mk n) (fun w i c hc h => ?_) h (by omega) rfl hc
        rcases hc with rfl | rfl | rfl
        · exact rinner_par L (rpat_any L hU (unitS_goes n) (part_goes (unitS_goes n))) h
        · exact HBr (o + 1) w i h
        · exact rinner_not hU h
      · refine (runit_leaf (mk := mk) (i := i) (o := o) L hmk (.inr h) (.inl h)).mono ?_
        rintro e w' ⟨p, j, h1, h2, h3, h4⟩
        refine ⟨p, j, h1, h2, h3, ?_⟩
        rcases h4 with h4 | ⟨h5, _⟩
        · exact .inl h4
        · exact (h5.not_br h).elim
    · have hl := unitS_leaf (s := s) (mk := mk) (n := n + 1) (i := i) (fun e => hc (.inl e)) (fun e => hc (.inr (.inl e))) (fun e => hc (.inr (.inr e)))
      rw [hl]
      exact runit_leaf L hmk h (.inr ⟨fun e => hc (.inl e), fun e => hc (.inr (.inl e)), fun e => hc (.inr (.inr e))⟩)

end Go.Proofs.YtbjohedenfindaaGreatDoor

namespace Go.Proofs.YtbjohedenfindaaGreatDoor
open Go.RowKit
set_option linter.unusedVariables false
set_option maxRecDepth 100000

/-- the document's sets -/
structure SetD (mk : List Rg → Bool → List Rg) : Prop where
  canon : ∀ (v : Value) (l : List Rg) (w : World), l.length ≤ 2002 → Rngs w v l → Calls Tryz.prog 51 #[v] w fun e w' => ∃ u, e = .returned u ∧ RowR (fun b => w.heap.size ≤ b) w' u (mk l false) ∧ Below w.heap.size w w'
  all : ∀ (w : World), Calls Tryz.prog 157 #[] w fun e w' => ∃ u, e = .returned u ∧ Rngs w' u [(0, 1114111)] ∧ Below w.heap.size w w'
  both : ∀ (v1 v : Value) (l : List Rg) (w : World), l.length ≤ 2002 → Rngs w v1 [(0, 1114111)] → Rngs w v l → Calls Tryz.prog 82 #[v1, v, .int .i64 3] w fun e w' => ∃ u, e = .returned u ∧ RowR (fun b => w.heap.size ≤ b) w' u (mk l true) ∧ Below w.heap.size w w'

/-- what is to be read of items from here on -/
def ItZ (s : ByteArray) (res : Option (List Rg × Nat)) (acc : List Rg) (j : Nat) : Prop := ∃ f, res = itemsS s f acc j ∧ s.size + 1 ≤ f + j
theorem ItZ.stop {s : ByteArray} {res : Option (List Rg × Nat)} {acc : List Rg} {j : Nat} (h : ItZ s res acc j) (hj : j ≤ s.size) (he : cpAt s j = 93) : res = some (acc, j + 1) := by
  obtain ⟨f, h1, h2⟩ := h
  obtain ⟨f', rfl⟩ : ∃ f', f = f' + 1 := ⟨f - 1, by omega⟩
  rw [h1, itemsS, if_pos he]
theorem ItZ.next {s : ByteArray} {res : Option (List Rg × Nat)} {acc : List Rg} {j k : Nat} {r : Rg} (h : ItZ s res acc j) (hj : j ≤ s.size) (he : cpAt s j ≠ 93) (hr : itemS s j = some (r, k)) (hk : j < k) : ItZ s res (acc ++ [r]) k := by
  obtain ⟨f, h1, h2⟩ := h
  obtain ⟨f', rfl⟩ : ∃ f', f = f' + 1 := ⟨f - 1, by omega⟩
  refine ⟨f', ?_, by omega⟩
  rw [h1, itemsS, if_neg he, hr]

/-- items that are being read -/
structure BI (W0 w0 w : World) (R : Nat) (s : ByteArray) (i o : Nat) (res : Option (List Rg × Nat)) (v : Value) (acc : List Rg) (j : Nat) : Prop where
  x : XR W0 w R s j o
  g : w0.grownBy w (some R)
  own : OwnR w w0.heap.size v acc
  hist : BR W0 w R s ∨ (SR W0 w0 R s i o ∧ ItZ s res acc j)
theorem BI.keep {W0 w0 w w' : World} {R i o j : Nat} {s : ByteArray} {res : Option (List Rg × Nat)} {v : Value} {acc : List Rg} (h : BI W0 w0 w R s i o res v acc j) (hR : R < w0.heap.size) (hg : w.grownBy w' (some R)) (hx : XR W0 w' R s j o) (hS : BR W0 w' R s ∨ SR W0 w R s j o) : BI W0 w0 w' R s i o res v acc j :=
  ⟨hx, Lib.grownBy_trans h.g hg, h.own.grown hR hg, hS.elim .inl fun hS => h.hist.elim (fun hB => (hS.not_br hB).elim) .inr⟩
theorem itemS_one {s : ByteArray} {j k : Nat} {lo : Int} (h : pointS s innerS j = some (lo, k)) (h45 : cpAt s k ≠ 45) : itemS s j = some ((lo, lo), k) := by
  unfold itemS; rw [h]; simp only; rw [if_neg h45]
theorem itemS_two {s : ByteArray} {j k m : Nat} {lo hi : Int} (h : pointS s innerS j = some (lo, k)) (h45 : cpAt s k = 45) (h2 : pointS s innerS (k + 1) = some (hi, m)) (hle : ¬ hi < lo) : itemS s j = some ((lo, hi), m) := by
  unfold itemS; rw [h]; simp only; rw [if_pos h45, h2]; simp only; rw [if_neg hle]
/-- one item more -/
theorem BI.snoc {W0 w0 w2 w3 w5 : World} {R i o j k : Nat} {s : ByteArray} {res : Option (List Rg × Nat)} {v v' : Value} {acc : List Rg} {r : Rg} {ob : Obj} (h : BI W0 w0 w2 R s i o res v acc j) (hR : R < w0.heap.size) (hg3 : w2.grownBy w3 (some R)) (hx3 : XR W0 w3 R s k o) (hh3 : BR W0 w3 R s ∨ (SR W0 w2 R s j o ∧ cpAt s j ≠ 93 ∧ itemS s j = some (r, k)))
    (hown : OwnR w5 w0.heap.size v' (acc ++ [r])) (hg : (w3.alloc ob).grownBy w5 v.ownBlock) : BI W0 w0 w5 R s i o res v' (acc ++ [r]) k ∧ (BR W0 w5 R s ∨ j < k) := by
  have hlt : ∀ q, v.ownBlock = some q → w0.heap.size ≤ q ∧ q < w2.heap.size := fun q hq => World.ownsRow.lt h.own q hq
  have h16 := hx3.r16
  have hb5 : ∀ b, b < w3.heap.size → v.ownBlock ≠ some b → w5.heap[b]? = w3.heap[b]? := fun b hb hn => (hg.block b (by simp; omega) (fun e => hn e.symm)).trans (Below.heap_alloc w3 ob b hb)
  have hsz5 : w3.heap.size ≤ w5.heap.size := Nat.le_trans (by simp) hg.size
  have hRlt := hx3.lt
  have hkeep : ∀ b, b = R ∨ b < 16 → w5.heap[b]? = w3.heap[b]? := fun b hb => hb5 b (by omega) (fun e => by have := hlt b e; omega)
  have hx5 := hx3.other hsz5 hkeep
  have hg35 := Lib.grownBy_trans h.g hg3
  have hbr : BR W0 w3 R s → BR W0 w5 R s := fun hB => by
    obtain ⟨i1, o1, te, pe, z, h1, h2, hz⟩ := hB.at_
    exact ⟨⟨Nat.le_trans hB.env.1 hsz5, fun k hk => (hkeep k (.inr hk)).trans (hB.env.2 k hk)⟩, ⟨i1, o1, te, pe, z, h1, h2, (hkeep R (.inl rfl)).trans hz⟩, hB.r16, hB.text⟩
  refine ⟨⟨hx5, grownBy_own (Lib.grownBy_allocR hg35 ob) hg (fun q hq => (hlt q hq).1), hown, ?_⟩, ?_⟩
  · rcases hh3 with hB | ⟨hS, h93, hr⟩
    · exact .inl (hbr hB)
    · rcases h.hist with hB | ⟨h1, hZ⟩
      · exact (hS.not_br hB).elim
      · exact .inr ⟨h1, hZ.next hS.inn h93 hr (itemS_some hS.inn hr).1⟩
  · rcases hh3 with hB | ⟨hS, h93, hr⟩
    · exact .inl (hbr hB)
    · exact .inr (itemS_some hS.inn hr).1
theorem set_node {B : Nat} {w : World} {u : Value} {l : List Rg} (hB : B ≤ w.heap.size) (h : RowR (fun b => B ≤ b) w u l) : RT' B (w.alloc (.cells #[.int .i64 1, u, .int .i64 0, .int .i64 0, .slice none 0 0] 48)) (.pointer (some ⟨w.heap.size, 0, none⟩)) (setRe l) := by
  have hga := below_allocU w (.cells #[.int .i64 1, u, .int .i64 0, .int .i64 0, .slice none 0 0] 48)
  exact ⟨1, w.heap.size, _, _, rfl, hB, heap_alloc_new w _, h.moved hga.size fun b hb hok => ⟨hok, hga.block b hb⟩, .inl ⟨rfl, none, 0, rfl⟩⟩

end Go.Proofs.YtbjohedenfindaaGreatDoor

namespace Go.Proofs.YtbjohedenfindaaGreatDoor
open Go.RowKit
set_option linter.unusedVariables false
set_option maxRecDepth 100000

theorem RowR.slice {ok : Nat → Prop} {w : World} {v : Value} {l : List Rg} (h : RowR ok w v l) : ∃ a n c, v = .slice a n c := by
  rcases h with ⟨rfl, a, c, rfl⟩ | ⟨b, off, c, rfl, _⟩ <;> exact ⟨_, _, _, rfl⟩
theorem Rngs.slice' {w : World} {v : Value} {l : List Rg} (h : Rngs w v l) : ∃ a n c, v = .slice a n c := by
  rcases h with ⟨rfl, a, c, rfl⟩ | ⟨b, off, c, rfl, _⟩ <;> exact ⟨_, _, _, rfl⟩
/-- the end of it: a set is made -/
def BrEnd (W0 w : World) (R : Nat) (s : ByteArray) (i o : Nat) (mk : List Rg → Bool → List Rg) (w1 : World) (u : Value) : Prop := GotT W0 w R s i o (brackS s mk i) (.returned (.pointer (some ⟨w1.heap.size, 0, none⟩))) (w1.alloc (.cells #[.int .i64 1, u, .int .i64 0, .int .i64 0, .slice none 0 0] 48))
theorem br_end {W0 w wt w1 : World} {R i o jf : Nat} {s : ByteArray} {mk : List Rg → Bool → List Rg} {u : Value} {acc : List Rg} {nt : Bool} {res : Option (List Rg × Nat)} (hx : XR W0 wt R s jf o) (hg : w.grownBy wt (some R)) (hh : BR W0 wt R s ∨ (SR W0 w R s i o ∧ res = some (acc, jf))) (hE : SR W0 w R s i o → brackS s mk i = res.map fun x => (setRe (mk x.1 nt), x.2)) (hb : Below wt.heap.size wt w1) (hu : RowR (fun b => wt.heap.size ≤ b) w1 u (mk acc nt)) : BrEnd W0 w R s i o mk w1 u := by
  have hga := below_allocU w1 (.cells #[.int .i64 1, u, .int .i64 0, .int .i64 0, .slice none 0 0] 48)
  have hbb := hb.trans (hga.mono hb.size)
  refine ⟨_, jf, rfl, Lib.grownBy_trans hg (grownBy_of_below hbb _), hx.kept (grownBy_of_below hbb none), ?_⟩
  rcases hh with hB | ⟨h1, h2⟩
  · exact .inl (hB.kept (grownBy_of_below hbb none))
  · refine .inr ⟨h1, _, by rw [hE h1, h2]; rfl, set_node (Nat.le_trans hg.size hb.size) (hu.moved (Nat.le_refl _) fun b _ hok => ⟨Nat.le_trans hg.size hok, rfl⟩)⟩
/-- .. by which calls -/
def TailC (W0 w wt : World) (R : Nat) (s : ByteArray) (i o : Nat) (mk : List Rg → Bool → List Rg) (nt : Bool) (v : Value) : Prop :=
  Calls Tryz.prog 51 #[v] wt fun e w1 => ∃ ua un uc, e = .returned (.slice ua un uc) ∧ (nt = false → Hid (BrEnd W0 w R s i o mk w1 (.slice ua un uc))) ∧ (nt = true → Hid (Calls Tryz.prog 157 #[] w1 fun e w2 => ∃ va vn vc, e = .returned (.slice va vn vc) ∧ Hid (Calls Tryz.prog 82 #[.slice va vn vc, v, .int .i64 3] w2 fun e w3 => ∃ xa xn xc, e = .returned (.slice xa xn xc) ∧ Hid (BrEnd W0 w R s i o mk w3 (.slice xa xn xc)))))
theorem tail_any {W0 w wt : World} {R i o jf : Nat} {s : ByteArray} {mk : List Rg → Bool → List Rg} (D : SetD mk) {v : Value} {acc : List Rg} {nt : Bool} {res : Option (List Rg × Nat)} (hl : acc.length ≤ 2002) (hx : XR W0 wt R s jf o) (hg : w.grownBy wt (some R)) (hown : OwnR wt w.heap.size v acc) (hh : BR W0 wt R s ∨ (SR W0 w R s i o ∧ res = some (acc, jf))) (hE : SR W0 w R s i o → brackS s mk i = res.map fun x => (setRe (mk x.1 nt), x.2)) : TailC W0 w wt R s i o mk nt v := by
  refine (D.canon v acc wt hl hown.rngs).mono ?_
  rintro e w1 ⟨u, rfl, hu, hb⟩
  obtain ⟨ua, un, uc, rfl⟩ := hu.slice
  refine ⟨ua, un, uc, rfl, fun hn => ?_, fun hn => ?_⟩
  · subst hn
    exact br_end hx hg hh hE hb hu
  · subst hn
    show Calls _ _ _ _ _
    refine (D.all w1).mono ?_
    rintro e w2 ⟨u2, rfl, hu2, hb2⟩
    obtain ⟨va, vn, vc, rfl⟩ := hu2.slice'
    refine ⟨va, vn, vc, rfl, ?_⟩
    show Calls _ _ _ _ _
    have hbb := hb.trans (hb2.mono hb.size)
    have hown2 : OwnR w2 w.heap.size v acc := World.ownsRow.kept hown (row := none) (grownBy_of_below hbb none) (by cases hq : v.ownBlock <;> simp)
    refine (D.both _ v acc w2 hl hu2 hown2.rngs).mono ?_
    rintro e w3 ⟨u3, rfl, hu3, hb3⟩
    obtain ⟨xa, xn, xc, rfl⟩ := hu3.slice
    refine ⟨xa, xn, xc, rfl, br_end hx hg hh hE (hbb.trans (hb3.mono hbb.size)) (hu3.moved (Nat.le_refl _) fun b _ hok => ⟨Nat.le_trans hbb.size hok, rfl⟩)⟩

end Go.Proofs.YtbjohedenfindaaGreatDoor

namespace Go.Proofs.YtbjohedenfindaaGreatDoor
open Go.RowKit
set_option linter.unusedVariables false
set_option maxRecDepth 100000

set_option maxHeartbeats 8000000 in
theorem rinner_brack {W0 w : World} (L : LibC W0) {mk : List Rg → Bool → List Rg} (D : SetD mk) {R i o : Nat} {s : ByteArray} (hss : s.size ≤ 2000) (h : XR W0 w R s i o) :
    Calls Tryz.prog 139 #[.pointer (some ⟨R, 0, none⟩), .int .i64 91] w fun e w' => GotT W0 w R s i o (brackS s mk i) e w' := by
  obtain ⟨i0, hi0, hz0, hz1, hz2⟩ := info_parts Tryz.infoRange
  have hRB := h.lt
  have HD : Hid (SetD mk) := D
  have HE : Hid (Calls Tryz.prog 45 #[.pointer (some ⟨R, 0, none⟩), .int .i64 94] w fun e w1 => ∃ (nt : Bool) (i' : Nat) (res : Option (List Rg × Nat)), e = .returned (.bool nt) ∧ BI W0 w w1 R s i o res (.slice none 0 0) [] i' ∧ (SR W0 w R s i o → brackS s mk i = res.map fun x => (setRe (mk x.1 nt), x.2))) := by
    have hn0 : ∀ w1 : World, OwnR w1 w.heap.size (.slice none 0 0) [] := fun w1 => ⟨rfl, .inl ⟨rfl, rfl⟩⟩
    rcases h with ⟨hS, ho⟩ | hBr
    · by_cases h94 : cpAt s i = 94
      · refine (eat_yes L hS 94 (by omega) h94).mono ?_
        rintro e w1 ⟨rfl, hg, hS1⟩
        rw [(cp_eq_size h94 (by omega) (by omega)).2] at hS1
        exact ⟨true, i + 1, itemsS s (s.size + 1) [] (i + 1), rfl, ⟨.inl ⟨hS1, ho⟩, hg, hn0 _, .inr ⟨hS, s.size + 1, rfl, by omega⟩⟩, fun _ => by unfold brackS; rw [if_pos h94]⟩
      · refine (eat_no L hS ho 94 (by omega) h94).mono ?_
        rintro e w1 ⟨rfl, hg, ⟨_, hS1⟩ | ⟨_, hB1⟩⟩
        · exact ⟨false, i, itemsS s (s.size + 1) [] i, rfl, ⟨.inl ⟨hS1, ho⟩, hg, hn0 _, .inr ⟨hS, s.size + 1, rfl, by omega⟩⟩, fun _ => by unfold brackS; rw [if_neg h94]⟩
        · exact ⟨false, i, itemsS s (s.size + 1) [] i, rfl, ⟨.inr hB1, hg, hn0 _, .inl hB1⟩, fun _ => by unfold brackS; rw [if_neg h94]⟩
    · refine (eat_bad hBr 94 (by omega)).mono ?_
      rintro e w1 ⟨rfl, n, rfl⟩
      have hB1 := hBr.kept (grown_drewN w n none)
      exact ⟨false, i, none, rfl, ⟨.inr hB1, grown_drewN w n (some R), hn0 _, .inl hB1⟩, fun hS => (hS.not_br hBr).elim⟩
  clear D h
  go_enter Tryz.func139, Tryz.ntmps139
  go_wp2_with fail
  go_at_call 45
  refine HE.out.mono ?_
  rintro e w1 ⟨nt, i', res, rfl, hB1, hEq⟩
  have HB1 : Hid (BI W0 w w1 R s i o res (.slice none 0 0) [] i') := hB1
  have HEq : Hid (SR W0 w R s i o → brackS s mk i = res.map fun x => (setRe (mk x.1 nt), x.2)) := hEq
  clear HE hB1 hEq
  go_wp2
  go_loopw [8] (fun x wr => ∃ (v : Value) (acc : List Rg) (j : Nat), x = v ∧ Hid (BI W0 w wr R s i o res v acc j) ∧ acc.length ≤ s.size + 1 ∧ Hid (BR W0 wr R s ∨ acc.length ≤ j)) (fun _ wr => mea s R wr)
  case atStart => exact ⟨_, [], i', rfl, HB1, by simp, .inr (by simp)⟩
  case round =>
    clear HB1
    obtain ⟨v, acc, j, hv8, HB, hal, HN⟩ := hrel
    obtain ⟨va0, vc0, rfl⟩ : ∃ a c, v = .slice a acc.length c := by
      rcases HB.out.own.2 with ⟨rfl, h0⟩ | ⟨g, cap, cur, rfl, _⟩
      · exact ⟨none, 0, by rw [h0]⟩
      · exact ⟨_, _, rfl⟩
    subst hv8
    rcases HB.out.x with ⟨hS, ho⟩ | hBr
    · have c3 := hS.cell1.2
      have HSr : Hid (SR W0 wr R s j o) := hS
      have hjs := hS.inn
      have hN2 : acc.length ≤ j := HN.out.elim (fun hB => (hS.not_br hB).elim) id
      clear hS HN
      go_wp2_with fail
      go_at_call 45
      refine (eat_x L HB.out.x 93 (by omega) (by omega)).mono ?_
      rintro e w2 ⟨b, rfl, hg2, ⟨rfl, k1, k2, k3, k4⟩ | ⟨rfl, hx2, hh2⟩⟩
      · have hst : BR W0 w2 R s ∨ (SR W0 w R s i o ∧ res = some (acc, j + 1)) := HB.out.hist.elim (fun hB => (k1.not_br hB).elim) fun ⟨q1, q2⟩ => .inr ⟨q1, q2.stop hjs k2⟩
        have HT : Hid (TailC W0 w w2 R s i o mk nt (.slice va0 acc.length vc0)) := tail_any HD.out (by omega) (.inl ⟨k3, k4⟩) (Lib.grownBy_trans HB.out.g hg2) (HB.out.own.grown hRB hg2) hst HEq.out
        clear hst k1 k2 k3 k4 hg2 HB HSr
        cases nt
        · go_wp2_with fail
          go_at_call 51
          refine HT.out.mono ?_
          rintro e w2 ⟨ua, un, uc, rfl, hf, _⟩
          have HF := hf rfl
          clear hf HT
          go_wp2
          go_ret
          exact HF.out
        · go_wp2_with fail
          go_at_call 51
          refine HT.out.mono ?_
          rintro e w2 ⟨ua, un, uc, rfl, _, hf⟩
          have HF := hf rfl
          clear hf HT
          go_wp2_with fail
          go_at_call 157
          refine HF.out.mono ?_
          rintro e w3 ⟨va, vn, vc, rfl, HF2⟩
          clear HF
          go_wp2_with fail
          go_at_call 82
          refine HF2.out.mono ?_
          rintro e w4 ⟨xa, xn, xc, rfl, HF3⟩
          clear HF2
          go_wp2
          go_ret
          exact HF3.out
      · have HB2 : Hid (BI W0 w w2 R s i o res (.slice va0 acc.length vc0) acc j) := HB.out.keep hRB hg2 hx2 (hh2.imp id fun h => h.1)
        have HH2 : Hid (SR W0 w2 R s j o → cpAt s j ≠ 93) := fun hS2 => hh2.elim (fun hB => (hS2.not_br hB).elim) fun h => h.2
        obtain ⟨i1, _, _, c1, _⟩ := hx2.at_
        clear hg2 hx2 hh2 HB
        go_wp2_with fail
        go_at_call 140
        refine (point_x (signs := innerS) L bars_in in92 in_signs HB2.out.x).mono ?_
        rintro e w3 ⟨lo, k, rfl, lo0, lo1, hg3, hx3, hh3⟩
        have HX3 : Hid (XR W0 w3 R s k o) := hx3
        have HH3 : Hid (BR W0 w3 R s ∨ (SR W0 w2 R s j o ∧ pointS s innerS j = some (lo, k))) := hh3
        have HG3 : Hid (w2.grownBy w3 (some R)) := hg3
        clear hx3 hh3 hg3
        go_wp2_with fail
        go_at_call 45
        refine (eat_x L HX3.out 45 (by omega) (by omega)).mono ?_
        rintro e w4 ⟨b, rfl, hg4, ⟨rfl, k1, k2, k3, k4⟩ | ⟨rfl, hx4, hh4⟩⟩
        · have HX4 : Hid (XR W0 w4 R s (k + 1) o) := .inl ⟨k3, k4⟩
          have HH4 : Hid (SR W0 w2 R s j o ∧ pointS s innerS j = some (lo, k) ∧ cpAt s k = 45) := HH3.out.elim (fun hB => (k1.not_br hB).elim) fun h => ⟨h.1, h.2, k2⟩
          have HG4 : Hid (w2.grownBy w4 (some R)) := Lib.grownBy_trans HG3.out hg4
          clear k1 k2 k3 k4 hg4 HX3 HH3 HG3
          go_wp2_with fail
          go_at_call 140
          refine (point_x (signs := innerS) L bars_in in92 in_signs HX4.out).mono ?_
          rintro e w5 ⟨up, m, rfl, up0, up1, hg5, hx5, hh5⟩
          have hg25 := Lib.grownBy_trans HG4.out hg5
          by_cases hlt : up < lo
          · obtain ⟨te, pe, cs⟩ := env_syn L hx5.env
            have HFl : Hid (∀ y, Calls Tryz.prog 22 #[.pointer (some ⟨R, 0, none⟩), .iface te pe, .int .i64 y] w5 fun e w6 => e = .returned (.tuple #[]) ∧ w2.grownBy w6 (some R) ∧ BR W0 w6 R s) := fun y => (fail_any hx5 te pe y).mono fun e w6 ⟨q1, q2, q3⟩ => ⟨q1, Lib.grownBy_trans hg25 q2, q3⟩
            clear hg5 hx5 hh5 hg25 HX4 HG4
            go_wp2_with fail
            go_at_call 22
            refine (HFl.out _).mono ?_
            rintro e w6 ⟨rfl, hg6, hB6⟩
            have hown3 : OwnR w6 w.heap.size (.slice va0 acc.length vc0) acc := HB2.out.own.grown hRB hg6
            have hsz3 : w.heap.size ≤ w6.heap.size := Nat.le_trans HB2.out.g.size hg6.size
            have HS3 : Hid (∀ v' wn ob, OwnR wn w.heap.size v' (acc ++ [(lo, up)]) → (w6.alloc ob).grownBy wn (Value.slice va0 acc.length vc0).ownBlock → BI W0 w wn R s i o res v' (acc ++ [(lo, up)]) m ∧ mea s R wn < mea s R wr ∧ (BR W0 wn R s ∨ acc.length + 1 ≤ m)) := fun v' wn ob h5 hgn => by
              obtain ⟨a1, a2⟩ := HB2.out.snoc hRB hg6 (.inr hB6) (.inl hB6) h5 hgn
              exact ⟨a1, mea_x HSr.out a1.x a2, a2.imp id (fun h => by have := hN2; omega)⟩
            clear hg6 hB6 HB2 HH2 HH4 HFl HSr
            go_wp2_with (at_builtin; refine wpList_append_own _ rfl _ _ 33 rfl w.heap.size 101 i0 (.agg #[.int .i64 0, .int .i64 0]) 2 16 Tryz.underlying33 hi0 hz0 hz1 hz2 rfl (by decide) _ _ _ rfl (World.ownsRow.alloc hown3 _) ⟨w6.heap.size, 0, none⟩ 1 1 [.int .i64 lo, .int .i64 up] rfl rfl ?c1 ?c2 ?c3 ?c4 ?c5 ?_)
            case c1 =>
              intro j u hj
              match j, hj with
              | 0, hj => simp at hj; subst hj; simp [Addr.add]
              | 1, hj => simp at hj; subst hj; simp [Addr.add]
            case c2 => intro u hu; simp at hu; rcases hu with rfl | rfl <;> rfl
            case c3 => unfold maxLen; omega
            case c4 => omega
            case c5 => simp; omega
            · intro v' w9 hown' hgrow _
              have hown9 := own_snoc rfl hown'
              obtain ⟨b1, b2, b3⟩ := HS3.out v' w9 _ hown9 hgrow
              have B1 : Hid (BI W0 w w9 R s i o res v' (acc ++ [(lo, up)]) m) := b1
              have B2 : Hid (mea s R w9 < mea s R wr) := b2
              have B3 : Hid (BR W0 w9 R s ∨ acc.length + 1 ≤ m) := b3
              clear b1 b2 b3 hown' hgrow hown9 hown3 HS3
              go_wp2
              go_roundw
              case rel => exact ⟨v', acc ++ [(lo, up)], m, rfl, B1, by simp; omega, by show _ ∨ _; simpa using B3.out⟩
              case measure => exact B2.out
          · have hHA : BR W0 w5 R s ∨ (SR W0 w2 R s j o ∧ cpAt s j ≠ 93 ∧ itemS s j = some ((lo, up), m)) := by
              rcases hh5 with hB | ⟨q1, q2⟩
              · exact .inl hB
              · exact .inr ⟨HH4.out.1, HH2.out HH4.out.1, itemS_two HH4.out.2.1 HH4.out.2.2 q2 hlt⟩
            have hown3 : OwnR w5 w.heap.size (.slice va0 acc.length vc0) acc := HB2.out.own.grown hRB hg25
            have hsz3 : w.heap.size ≤ w5.heap.size := Nat.le_trans HB2.out.g.size hg25.size
            have HS3 : Hid (∀ v' wn ob, OwnR wn w.heap.size v' (acc ++ [(lo, up)]) → (w5.alloc ob).grownBy wn (Value.slice va0 acc.length vc0).ownBlock → BI W0 w wn R s i o res v' (acc ++ [(lo, up)]) m ∧ mea s R wn < mea s R wr ∧ (BR W0 wn R s ∨ acc.length + 1 ≤ m)) := fun v' wn ob h5 hgn => by
              obtain ⟨a1, a2⟩ := HB2.out.snoc hRB hg25 hx5 hHA h5 hgn
              exact ⟨a1, mea_x HSr.out a1.x a2, a2.imp id (fun h => by have := hN2; omega)⟩
            clear hg5 hx5 hh5 hg25 hHA HB2 HH2 HH4 HX4 HG4 HSr
            go_wp2_with (at_builtin; refine wpList_append_own _ rfl _ _ 33 rfl w.heap.size 101 i0 (.agg #[.int .i64 0, .int .i64 0]) 2 16 Tryz.underlying33 hi0 hz0 hz1 hz2 rfl (by decide) _ _ _ rfl (World.ownsRow.alloc hown3 _) ⟨w5.heap.size, 0, none⟩ 1 1 [.int .i64 lo, .int .i64 up] rfl rfl ?c1 ?c2 ?c3 ?c4 ?c5 ?_)
            case c1 =>
              intro j u hj
              match j, hj with
              | 0, hj => simp at hj; subst hj; simp [Addr.add]
              | 1, hj => simp at hj; subst hj; simp [Addr.add]
            case c2 => intro u hu; simp at hu; rcases hu with rfl | rfl <;> rfl
            case c3 => unfold maxLen; omega
            case c4 => omega
            case c5 => simp; omega
            · intro v' w9 hown' hgrow _
              have hown9 := own_snoc rfl hown'
              obtain ⟨b1, b2, b3⟩ := HS3.out v' w9 _ hown9 hgrow
              have B1 : Hid (BI W0 w w9 R s i o res v' (acc ++ [(lo, up)]) m) := b1
              have B2 : Hid (mea s R w9 < mea s R wr) := b2
              have B3 : Hid (BR W0 w9 R s ∨ acc.length + 1 ≤ m) := b3
              clear b1 b2 b3 hown' hgrow hown9 hown3 HS3
              go_wp2
              go_roundw
              case rel => exact ⟨v', acc ++ [(lo, up)], m, rfl, B1, by simp; omega, by show _ ∨ _; simpa using B3.out⟩
              case measure => exact B2.out
        · have hg24 := Lib.grownBy_trans HG3.out hg4
          have hHA : BR W0 w4 R s ∨ (SR W0 w2 R s j o ∧ cpAt s j ≠ 93 ∧ itemS s j = some ((lo, lo), k)) := by
            rcases hist_step HH3.out hh4 with hB | ⟨⟨q1, q2⟩, q3⟩
            · exact .inl hB
            · exact .inr ⟨q1, HH2.out q1, itemS_one q2 q3⟩
          have hll : ¬ lo < lo := by omega
          have hown3 : OwnR w4 w.heap.size (.slice va0 acc.length vc0) acc := HB2.out.own.grown hRB hg24
          have hsz3 : w.heap.size ≤ w4.heap.size := Nat.le_trans HB2.out.g.size hg24.size
          have HS3 : Hid (∀ v' wn ob, OwnR wn w.heap.size v' (acc ++ [(lo, lo)]) → (w4.alloc ob).grownBy wn (Value.slice va0 acc.length vc0).ownBlock → BI W0 w wn R s i o res v' (acc ++ [(lo, lo)]) k ∧ mea s R wn < mea s R wr ∧ (BR W0 wn R s ∨ acc.length + 1 ≤ k)) := fun v' wn ob h5 hgn => by
            obtain ⟨a1, a2⟩ := HB2.out.snoc hRB hg24 hx4 hHA h5 hgn
            exact ⟨a1, mea_x HSr.out a1.x a2, a2.imp id (fun h => by have := hN2; omega)⟩
          clear hg4 hx4 hh4 hg24 hHA HB2 HH2 HH3 HX3 HG3 HSr
          go_wp2_with (at_builtin; refine wpList_append_own _ rfl _ _ 33 rfl w.heap.size 101 i0 (.agg #[.int .i64 0, .int .i64 0]) 2 16 Tryz.underlying33 hi0 hz0 hz1 hz2 rfl (by decide) _ _ _ rfl (World.ownsRow.alloc hown3 _) ⟨w4.heap.size, 0, none⟩ 1 1 [.int .i64 lo, .int .i64 lo] rfl rfl ?c1 ?c2 ?c3 ?c4 ?c5 ?_)
          case c1 =>
            intro j u hj
            match j, hj with
            | 0, hj => simp at hj; subst hj; simp [Addr.add]
            | 1, hj => simp at hj; subst hj; simp [Addr.add]
          case c2 => intro u hu; simp at hu; rcases hu with rfl | rfl <;> rfl
          case c3 => unfold maxLen; omega
          case c4 => omega
          case c5 => simp; omega
          · intro v' w9 hown' hgrow _
            have hown9 := own_snoc rfl hown'
            obtain ⟨b1, b2, b3⟩ := HS3.out v' w9 _ hown9 hgrow
            have B1 : Hid (BI W0 w w9 R s i o res v' (acc ++ [(lo, lo)]) k) := b1
            have B2 : Hid (mea s R w9 < mea s R wr) := b2
            have B3 : Hid (BR W0 w9 R s ∨ acc.length + 1 ≤ k) := b3
            clear b1 b2 b3 hown' hgrow hown9 hown3 HS3
            go_wp2
            go_roundw
            case rel => exact ⟨v', acc ++ [(lo, lo)], k, rfl, B1, by simp; omega, by show _ ∨ _; simpa using B3.out⟩
            case measure => exact B2.out
    · obtain ⟨te, pe, c3⟩ := hBr.cell3
      have HT : Hid (TailC W0 w wr R s i o mk nt (.slice va0 acc.length vc0)) := tail_any (jf := j) HD.out (by omega) HB.out.x HB.out.g HB.out.own (.inl hBr) HEq.out
      clear HB HN hBr
      cases nt
      · go_wp2_with fail
        go_at_call 51
        refine HT.out.mono ?_
        rintro e w2 ⟨ua, un, uc, rfl, hf, _⟩
        have HF := hf rfl
        clear hf HT
        go_wp2
        go_ret
        exact HF.out
      · go_wp2_with fail
        go_at_call 51
        refine HT.out.mono ?_
        rintro e w2 ⟨ua, un, uc, rfl, _, hf⟩
        have HF := hf rfl
        clear hf HT
        go_wp2_with fail
        go_at_call 157
        refine HF.out.mono ?_
        rintro e w3 ⟨va, vn, vc, rfl, HF2⟩
        clear HF
        go_wp2_with fail
        go_at_call 82
        refine HF2.out.mono ?_
        rintro e w4 ⟨xa, xn, xc, rfl, HF3⟩
        clear HF2
        go_wp2
        go_ret
        exact HF3.out

end Go.Proofs.YtbjohedenfindaaGreatDoor
