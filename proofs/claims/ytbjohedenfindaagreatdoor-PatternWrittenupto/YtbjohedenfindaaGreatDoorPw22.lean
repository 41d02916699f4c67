/- Texts of the proof, put together: RRec, RBrk, RBrkB. -/
import Derived.Test.YtbjohedenfindaaGreatDoorPw21
import Derived.Test.YtbjohedenfindaaGreatDoorPw18
namespace Go.Proofs.YtbjohedenfindaaGreatDoor
open Go.RowKit
set_option linter.unusedVariables false
set_option maxRecDepth 100000

/-- brackets, as they are read -/
def BrC (W0 : World) (R : Nat) (s : ByteArray) (mk : List Rg → Bool → List Rg) : Prop := ∀ (o : Nat) (w : World) (i : Nat), XR W0 w R s i o → Calls Tryz.prog 139 #[.pointer (some ⟨R, 0, none⟩), .int .i64 91] w fun e w' => GotT W0 w R s i o (brackS s mk i) e w'
/-- what stands behind an opening sign -/
def innS (s : ByteArray) (mk : List Rg → Bool → List Rg) (n : Nat) (c : Int) (i : Nat) : Option (Re × Nat) :=
  if c = 126 then (unitS s mk n i).map fun x => (notRe x.1, x.2) else if c = 40 then parS s (patS s (fun j => unitS s mk n j) i) else brackS s mk i
theorem unitS_open {s : ByteArray} {mk : List Rg → Bool → List Rg} {n i : Nat} {c : Int} (hc : cpAt s i = c) (h : c = 40 ∨ c = 91 ∨ c = 126) : unitS s mk (n + 1) i = innS s mk n c (i + 1) := by
  subst hc
  unfold innS
  rw [unitS]
  rcases h with h | h | h
  · rw [if_neg (by omega), if_pos h, if_neg (by omega), if_pos h]
    rfl
  · rw [if_neg (by omega), if_neg (by omega), if_pos h, if_neg (by omega), if_neg (by omega)]
  · rw [if_pos h, if_pos h]
theorem unitS_leaf {s : ByteArray} {mk : List Rg → Bool → List Rg} {n i : Nat} (h1 : cpAt s i ≠ 40) (h2 : cpAt s i ≠ 91) (h3 : cpAt s i ≠ 126) : unitS s mk n i = leafS s mk i := by
  cases n with
  | zero => rfl
  | succ n => rw [unitS, if_neg h3, if_neg h1, if_neg h2]

theorem part_goes {s : ByteArray} {u : Nat → Option (Re × Nat)} (hu : Goes s u) : Goes s fun i => (u i).bind fun x => partS s (s.size + 1) x.1 x.2 := fun i t j hi hx => by
  cases hui : u i with
  | none => simp [hui] at hx
  | some x =>
    obtain ⟨q, m⟩ := x
    simp [hui] at hx
    have h1 := hu i q m hi hui
    have h2 := partS_some _ (by omega) hx
    omega
theorem leaf_open {s : ByteArray} {mk : List Rg → Bool → List Rg} {i : Nat} (h : cpAt s i = 40 ∨ cpAt s i = 91 ∨ cpAt s i = 126) : leafS s mk i = none := by
  have hs : outerS (cpAt s i) = true := by
    rcases h with h | h | h <;> rw [h] <;> rfl
  unfold leafS pointS
  rw [if_neg (by omega), if_neg (by omega), if_pos (.inr hs)]
  rfl
theorem unit_broken {s : ByteArray} {mk : List Rg → Bool → List Rg} (n : Nat) : ∀ k, cpAt s k = -2 → unitS s mk n k = none := fun k hk => by
  rw [unitS_leaf (by omega) (by omega) (by omega)]
  exact leaf_broken hk
theorem runit_all {W0 : World} (L : LibR W0) {R : Nat} {s : ByteArray} {mk : List Rg → Bool → List Rg} (hmk : mk [(10, 10)] true = [(0, 9), (11, 1114111)]) (HBr : BrC W0 R s mk) :
    ∀ n o, n + o = 100 → RUnitC W0 R s o (unitS s mk n) := by
  intro n
  induction n with
  | zero =>
    intro o ho w i h
    obtain rfl : o = 100 := by omega
    by_cases hc : cpAt s i = 40 ∨ cpAt s i = 91 ∨ cpAt s i = 126
    · rcases h with ⟨h, _⟩ | h
      · exact runit_full L (leaf_open hc) h rfl hc
      · exact runit_leaf (i := i) (o := 100) L hmk (.inr h) (.inl h)
    · refine (runit_leaf L hmk h (.inr ⟨fun e => hc (.inl e), fun e => hc (.inr (.inl e)), fun e => hc (.inr (.inr e))⟩)).mono ?_
      exact fun e w' h => h
  | succ n ih =>
    intro o ho w i h
    have hU := ih (o + 1) (by omega)
    by_cases hc : cpAt s i = 40 ∨ cpAt s i = 91 ∨ cpAt s i = 126
    · rw [unitS_open rfl hc]
      rcases h with ⟨h, _⟩ | h
      · refine runit_open L (q := innS s mk n) (fun w i c hc h => ?_) h (by omega) rfl hc
        rcases hc with rfl | rfl | rfl
        · exact rinner_par L (rpat_any L hU (unitS_goes n) (part_goes (unitS_goes n)) (unit_broken n)) h
        · exact HBr (o + 1) w i h
        · exact rinner_not hU h
      · refine (runit_leaf (mk := mk) (i := i) (o := o) L hmk (.inr h) (.inl h)).mono ?_
        rintro e w' ⟨p, j, h1, h2, h3, h4, _⟩
        refine ⟨p, j, h1, h2, h3, ?_, fun hS => (sr_not_br hS h).elim⟩
        rcases h4 with h4 | ⟨h5, _⟩
        · exact .inl h4
        · exact (h5.not_br h).elim
    · have hl := unitS_leaf (s := s) (mk := mk) (n := n + 1) (i := i) (fun e => hc (.inl e)) (fun e => hc (.inr (.inl e))) (fun e => hc (.inr (.inr e)))
      rw [hl]
      exact runit_leaf L hmk h (.inr ⟨fun e => hc (.inl e), fun e => hc (.inr (.inl e)), fun e => hc (.inr (.inr e))⟩)

end Go.Proofs.YtbjohedenfindaaGreatDoor

namespace Go.Proofs.YtbjohedenfindaaGreatDoor
open Go.RowKit
set_option linter.unusedVariables false
set_option maxRecDepth 100000

/-- the document's sets -/
structure SetD (mk : List Rg → Bool → List Rg) : Prop where
  canon : ∀ (v : Value) (l : List Rg) (w : World), l.length ≤ 60002 → Rngs w v l → Calls Tryz.prog 51 #[v] w fun e w' => ∃ u, e = .returned u ∧ RowR (fun b => w.heap.size ≤ b) w' u (mk l false) ∧ Below w.heap.size w w'
  all : ∀ (w : World), Calls Tryz.prog 157 #[] w fun e w' => ∃ u, e = .returned u ∧ Rngs w' u [(0, 1114111)] ∧ Below w.heap.size w w'
  both : ∀ (v1 v : Value) (l : List Rg) (w : World), l.length ≤ 60002 → Rngs w v1 [(0, 1114111)] → Rngs w v l → Calls Tryz.prog 82 #[v1, v, .int .i64 3] w fun e w' => ∃ u, e = .returned u ∧ RowR (fun b => w.heap.size ≤ b) w' u (mk l true) ∧ Below w.heap.size w w'

/-- what is to be read of items from here on -/
def ItZ (s : ByteArray) (res : Option (List Rg × Nat)) (acc : List Rg) (j : Nat) : Prop := ∃ f, res = itemsS s f acc j ∧ s.size + 1 ≤ f + j
theorem ItZ.stop {s : ByteArray} {res : Option (List Rg × Nat)} {acc : List Rg} {j : Nat} (h : ItZ s res acc j) (hj : j ≤ s.size) (he : cpAt s j = 93) : res = some (acc, j + 1) := by
  obtain ⟨f, h1, h2⟩ := h
  obtain ⟨f', rfl⟩ : ∃ f', f = f' + 1 := ⟨f - 1, by omega⟩
  rw [h1, itemsS, if_pos he]
theorem ItZ.next {s : ByteArray} {res : Option (List Rg × Nat)} {acc : List Rg} {j k : Nat} {r : Rg} (h : ItZ s res acc j) (hj : j ≤ s.size) (he : cpAt s j ≠ 93) (hr : itemS s j = some (r, k)) (hk : j < k) : ItZ s res (acc ++ [r]) k := by
  obtain ⟨f, h1, h2⟩ := h
  obtain ⟨f', rfl⟩ : ∃ f', f = f' + 1 := ⟨f - 1, by omega⟩
  refine ⟨f', ?_, by omega⟩
  rw [h1, itemsS, if_neg he, hr]

theorem items_broken {s : ByteArray} {j : Nat} (h2 : cpAt s j = -2) : ∀ (f : Nat) (acc : List Rg), itemsS s f acc j = none
  | 0, _ => rfl
  | f + 1, acc => by
    have hi : itemS s j = none := by unfold itemS; rw [point_broken h2]
    rw [itemsS, if_neg (by omega), hi]
theorem ItZ.bad {s : ByteArray} {res : Option (List Rg × Nat)} {acc : List Rg} {j : Nat} (h : ItZ s res acc j) (h2 : cpAt s j = -2) : res = none := by
  obtain ⟨f, h1, _⟩ := h
  rw [h1, items_broken h2]
theorem ItZ.bad2 {s : ByteArray} {res : Option (List Rg × Nat)} {acc : List Rg} {j : Nat} (h : ItZ s res acc j) (hj : j ≤ s.size) (he : cpAt s j ≠ 93) (hr : BadR s (itemS s j)) : res = none := by
  obtain ⟨f, h1, h2⟩ := h
  obtain ⟨f', rfl⟩ : ∃ f', f = f' + 1 := ⟨f - 1, by omega⟩
  rw [h1, itemsS, if_neg he]
  rcases hr with hr | ⟨r, k, hr, hk⟩
  · rw [hr]
  · rw [hr]
    exact items_broken hk f' _
theorem itemS_no {s : ByteArray} {j : Nat} (h : pointS s innerS j = none) : itemS s j = none := by unfold itemS; rw [h]
theorem itemS_no2 {s : ByteArray} {j k : Nat} {lo : Int} (h : pointS s innerS j = some (lo, k)) (h45 : cpAt s k = 45) (h2 : pointS s innerS (k + 1) = none) : itemS s j = none := by
  unfold itemS; rw [h]; simp only; rw [if_pos h45, h2]
theorem itemS_no3 {s : ByteArray} {j k m : Nat} {lo hi : Int} (h : pointS s innerS j = some (lo, k)) (h45 : cpAt s k = 45) (h2 : pointS s innerS (k + 1) = some (hi, m)) (hlt : hi < lo) : itemS s j = none := by
  unfold itemS; rw [h]; simp only; rw [if_pos h45, h2]; simp only; rw [if_pos hlt]

/-- items that are being read -/
structure BI (W0 w0 w : World) (R : Nat) (s : ByteArray) (i o : Nat) (res : Option (List Rg × Nat)) (v : Value) (acc : List Rg) (j : Nat) : Prop where
  x : XR W0 w R s j o
  g : w0.grownBy w (some R)
  own : OwnR w w0.heap.size v acc
  hist : BR W0 w R s ∨ (SR W0 w0 R s i o ∧ ItZ s res acc j)
theorem BI.keep {W0 w0 w w' : World} {R i o j : Nat} {s : ByteArray} {res : Option (List Rg × Nat)} {v : Value} {acc : List Rg} (h : BI W0 w0 w R s i o res v acc j) (hR : R < w0.heap.size) (hg : w.grownBy w' (some R)) (hx : XR W0 w' R s j o) (hS : BR W0 w' R s ∨ SR W0 w R s j o) : BI W0 w0 w' R s i o res v acc j :=
  ⟨hx, Lib.grownBy_trans h.g hg, h.own.grown hR hg, hS.elim .inl fun hS => h.hist.elim (fun hB => (hS.not_br hB).elim) .inr⟩
theorem itemS_one {s : ByteArray} {j k : Nat} {lo : Int} (h : pointS s innerS j = some (lo, k)) (h45 : cpAt s k ≠ 45) : itemS s j = some ((lo, lo), k) := by
  unfold itemS; rw [h]; simp only; rw [if_neg h45]
theorem itemS_two {s : ByteArray} {j k m : Nat} {lo hi : Int} (h : pointS s innerS j = some (lo, k)) (h45 : cpAt s k = 45) (h2 : pointS s innerS (k + 1) = some (hi, m)) (hle : ¬ hi < lo) : itemS s j = some ((lo, hi), m) := by
  unfold itemS; rw [h]; simp only; rw [if_pos h45, h2]; simp only; rw [if_neg hle]
/-- one item more -/
theorem BI.snoc {W0 w0 w2 w3 w5 : World} {R i o j k : Nat} {s : ByteArray} {res : Option (List Rg × Nat)} {v v' : Value} {acc : List Rg} {r : Rg} {ob : Obj} (h : BI W0 w0 w2 R s i o res v acc j) (hR : R < w0.heap.size) (hg3 : w2.grownBy w3 (some R)) (hx3 : XR W0 w3 R s k o) (hh3 : BR W0 w3 R s ∨ (SR W0 w2 R s j o ∧ cpAt s j ≠ 93 ∧ itemS s j = some (r, k)))
    (hown : OwnR w5 w0.heap.size v' (acc ++ [r])) (hg : (w3.alloc ob).grownBy w5 v.ownBlock) : BI W0 w0 w5 R s i o res v' (acc ++ [r]) k ∧ (BR W0 w5 R s ∨ j < k) ∧ (BR W0 w5 R s → BR W0 w3 R s) := by
  have hlt : ∀ q, v.ownBlock = some q → w0.heap.size ≤ q ∧ q < w2.heap.size := fun q hq => World.ownsRow.lt h.own q hq
  have h16 := hx3.r16
  have hb5 : ∀ b, b < w3.heap.size → v.ownBlock ≠ some b → w5.heap[b]? = w3.heap[b]? := fun b hb hn => (hg.block b (by simp; omega) (fun e => hn e.symm)).trans (Below.heap_alloc w3 ob b hb)
  have hsz5 : w3.heap.size ≤ w5.heap.size := Nat.le_trans (by simp) hg.size
  have hRlt := hx3.lt
  have hkeep : ∀ b, b = R ∨ b < 16 → w5.heap[b]? = w3.heap[b]? := fun b hb => hb5 b (by omega) (fun e => by have := hlt b e; omega)
  have hx5 := hx3.other hsz5 hkeep
  have hg35 := Lib.grownBy_trans h.g hg3
  have hbr : BR W0 w3 R s → BR W0 w5 R s := fun hB => by
    obtain ⟨i1, o1, te, pe, z, h1, h2, hz⟩ := hB.at_
    exact ⟨⟨Nat.le_trans hB.env.1 hsz5, fun k hk => (hkeep k (.inr hk)).trans (hB.env.2 k hk)⟩, ⟨i1, o1, te, pe, z, h1, h2, (hkeep R (.inl rfl)).trans hz⟩, hB.r16, hB.text⟩
  refine ⟨⟨hx5, grownBy_own (Lib.grownBy_allocR hg35 ob) hg (fun q hq => (hlt q hq).1), hown, ?_⟩, ?_, fun hB5 => ?_⟩
  · rcases hh3 with hB | ⟨hS, h93, hr⟩
    · exact .inl (hbr hB)
    · rcases h.hist with hB | ⟨h1, hZ⟩
      · exact (hS.not_br hB).elim
      · exact .inr ⟨h1, hZ.next hS.inn h93 hr (itemS_some hS.inn hr).1⟩
  · rcases hh3 with hB | ⟨hS, h93, hr⟩
    · exact .inl (hbr hB)
    · exact .inr (itemS_some hS.inn hr).1
  · rcases hx3 with ⟨hS3, _⟩ | hB3
    · obtain ⟨z, hz⟩ := hS3.at_
      exact (sr_not_br (i := k) (o := o) ⟨⟨Nat.le_trans hS3.env.1 hsz5, fun k hk => (hkeep k (.inr hk)).trans (hS3.env.2 k hk)⟩, ⟨z, (hkeep R (.inl rfl)).trans hz⟩, hS3.r16, hS3.text, hS3.inn⟩ hB5).elim
    · exact hB3
theorem set_node {B : Nat} {w : World} {u : Value} {l : List Rg} (hB : B ≤ w.heap.size) (h : RowR (fun b => B ≤ b) w u l) : RT' B (w.alloc (.cells #[.int .i64 1, u, .int .i64 0, .int .i64 0, .slice none 0 0] 48)) (.pointer (some ⟨w.heap.size, 0, none⟩)) (setRe l) := by
  have hga := below_allocU w (.cells #[.int .i64 1, u, .int .i64 0, .int .i64 0, .slice none 0 0] 48)
  exact ⟨1, w.heap.size, _, _, rfl, hB, heap_alloc_new w _, h.moved hga.size fun b hb hok => ⟨hok, hga.block b hb⟩, .inl ⟨rfl, none, 0, rfl⟩⟩

end Go.Proofs.YtbjohedenfindaaGreatDoor

namespace Go.Proofs.YtbjohedenfindaaGreatDoor
open Go.RowKit
set_option linter.unusedVariables false
set_option maxRecDepth 100000

theorem RowR.slice {ok : Nat → Prop} {w : World} {v : Value} {l : List Rg} (h : RowR ok w v l) : ∃ a n c, v = .slice a n c := by
  rcases h with ⟨rfl, a, c, rfl⟩ | ⟨b, off, c, rfl, _⟩ <;> exact ⟨_, _, _, rfl⟩
theorem Rngs.slice' {w : World} {v : Value} {l : List Rg} (h : Rngs w v l) : ∃ a n c, v = .slice a n c := by
  rcases h with ⟨rfl, a, c, rfl⟩ | ⟨b, off, c, rfl, _⟩ <;> exact ⟨_, _, _, rfl⟩
/-- the end of it: a set is made -/
def BrEnd (W0 w : World) (R : Nat) (s : ByteArray) (i o : Nat) (mk : List Rg → Bool → List Rg) (w1 : World) (u : Value) : Prop := GotT W0 w R s i o (brackS s mk i) (.returned (.pointer (some ⟨w1.heap.size, 0, none⟩))) (w1.alloc (.cells #[.int .i64 1, u, .int .i64 0, .int .i64 0, .slice none 0 0] 48))
theorem br_end {W0 w wt w1 : World} {R i o jf : Nat} {s : ByteArray} {mk : List Rg → Bool → List Rg} {u : Value} {acc : List Rg} {nt : Bool} {res : Option (List Rg × Nat)} (hx : XR W0 wt R s jf o) (hg : w.grownBy wt (some R)) (hh : BR W0 wt R s ∨ (SR W0 w R s i o ∧ res = some (acc, jf))) (hE : SR W0 w R s i o → brackS s mk i = res.map fun x => (setRe (mk x.1 nt), x.2)) (hNo : SR W0 w R s i o → BR W0 wt R s → res = none) (hb : Below wt.heap.size wt w1) (hu : RowR (fun b => wt.heap.size ≤ b) w1 u (mk acc nt)) : BrEnd W0 w R s i o mk w1 u := by
  have hga := below_allocU w1 (.cells #[.int .i64 1, u, .int .i64 0, .int .i64 0, .slice none 0 0] 48)
  have hbb := hb.trans (hga.mono hb.size)
  refine ⟨_, jf, rfl, Lib.grownBy_trans hg (grownBy_of_below hbb _), hx.kept (grownBy_of_below hbb none), ?_, fun hS0 hB => by rw [hE hS0, hNo hS0 (hx.back (grownBy_of_below hbb none) hB)]; rfl⟩
  rcases hh with hB | ⟨h1, h2⟩
  · exact .inl (hB.kept (grownBy_of_below hbb none))
  · refine .inr ⟨h1, _, by rw [hE h1, h2]; rfl, set_node (Nat.le_trans hg.size hb.size) (hu.moved (Nat.le_refl _) fun b _ hok => ⟨Nat.le_trans hg.size hok, rfl⟩)⟩
/-- .. by which calls -/
def TailC (W0 w wt : World) (R : Nat) (s : ByteArray) (i o : Nat) (mk : List Rg → Bool → List Rg) (nt : Bool) (v : Value) : Prop :=
  Calls Tryz.prog 51 #[v] wt fun e w1 => ∃ ua un uc, e = .returned (.slice ua un uc) ∧ (nt = false → Hid (BrEnd W0 w R s i o mk w1 (.slice ua un uc))) ∧ (nt = true → Hid (Calls Tryz.prog 157 #[] w1 fun e w2 => ∃ va vn vc, e = .returned (.slice va vn vc) ∧ Hid (Calls Tryz.prog 82 #[.slice va vn vc, v, .int .i64 3] w2 fun e w3 => ∃ xa xn xc, e = .returned (.slice xa xn xc) ∧ Hid (BrEnd W0 w R s i o mk w3 (.slice xa xn xc)))))
theorem tail_any {W0 w wt : World} {R i o jf : Nat} {s : ByteArray} {mk : List Rg → Bool → List Rg} (D : SetD mk) {v : Value} {acc : List Rg} {nt : Bool} {res : Option (List Rg × Nat)} (hl : acc.length ≤ 60002) (hx : XR W0 wt R s jf o) (hg : w.grownBy wt (some R)) (hown : OwnR wt w.heap.size v acc) (hh : BR W0 wt R s ∨ (SR W0 w R s i o ∧ res = some (acc, jf))) (hE : SR W0 w R s i o → brackS s mk i = res.map fun x => (setRe (mk x.1 nt), x.2)) (hNo : SR W0 w R s i o → BR W0 wt R s → res = none) : TailC W0 w wt R s i o mk nt v := by
  refine (D.canon v acc wt hl hown.rngs).mono ?_
  rintro e w1 ⟨u, rfl, hu, hb⟩
  obtain ⟨ua, un, uc, rfl⟩ := hu.slice
  refine ⟨ua, un, uc, rfl, fun hn => ?_, fun hn => ?_⟩
  · subst hn
    exact br_end hx hg hh hE hNo hb hu
  · subst hn
    show Calls _ _ _ _ _
    refine (D.all w1).mono ?_
    rintro e w2 ⟨u2, rfl, hu2, hb2⟩
    obtain ⟨va, vn, vc, rfl⟩ := hu2.slice'
    refine ⟨va, vn, vc, rfl, ?_⟩
    show Calls _ _ _ _ _
    have hbb := hb.trans (hb2.mono hb.size)
    have hown2 : OwnR w2 w.heap.size v acc := World.ownsRow.kept hown (row := none) (grownBy_of_below hbb none) (by cases hq : v.ownBlock <;> simp)
    refine (D.both _ v acc w2 hl hu2 hown2.rngs).mono ?_
    rintro e w3 ⟨u3, rfl, hu3, hb3⟩
    obtain ⟨xa, xn, xc, rfl⟩ := hu3.slice
    refine ⟨xa, xn, xc, rfl, br_end hx hg hh hE hNo (hbb.trans (hb3.mono hbb.size)) (hu3.moved (Nat.le_refl _) fun b _ hok => ⟨Nat.le_trans hbb.size hok, rfl⟩)⟩

end Go.Proofs.YtbjohedenfindaaGreatDoor
