/- Texts of the proof, put together: YRdI. -/
import Derived.Test.YtdihdnhofgjhnaaDoorPy28
namespace Go.Proofs.YtdihdnhofgjhnaaDoor
open Go.RowKit
set_option linter.unusedVariables false
set_option maxRecDepth 100000

/-- what reading answers -/
def RdP (w : World) (ab ar ae : Addr) (r : Int × Nat × Pl) (e : Ending) (w' : World) : Prop :=
  Below w.heap.size w w' ∧ ∃ a1 n1 c1 a2 n2 c2 us, e = .returned (.tuple #[.agg #[.slice a1 n1 c1, .slice a2 n2 c2], errV ab ar ae r.1, .int .i64 (if r.1 = 0 then 0 else r.2.1)]) ∧ (r.1 = 0 → StM (w.heap.size + 3) w' (.slice a1 n1 c1) (.slice a2 n2 c2) r.2.2 us)
/-- on the way -/
structure RdI (w : World) (g : Gm) (pv lv sv : Value) (tb : Tb) (av ov cv : Value) (inp : List Int) (i : Nat) (R : Int × Nat × Pl) (wr : World) (σ : Pl) (xs xt : Value) (us : List Value) : Prop where
  bel : Below w.heap.size w wr
  bg : BoxG wr w.heap.size g pv lv sv
  bt : BoxT wr (w.heap.size + 1) av ov cv
  br : BoxX wr (w.heap.size + 2) (.slice none 0 0) (.slice none 0 0)
  bx : BoxX wr (w.heap.size + 4) xs xt
  st : StM (w.heap.size + 3) wr xs xt σ us
  ok : PlOk g tb σ
  len : σ.length ≤ i * 10001
  res : readS g tb (inp.drop i) i σ = R
theorem RdI.below {w : World} {g : Gm} {pv lv sv : Value} {tb : Tb} {av ov cv : Value} {inp : List Int} {i : Nat} {R : Int × Nat × Pl} {wr w' : World} {σ : Pl} {xs xt : Value} {us : List Value} (h : RdI w g pv lv sv tb av ov cv inp i R wr σ xs xt us) (hb : Below wr.heap.size wr w') : RdI w g pv lv sv tb av ov cv inp i R w' σ xs xt us :=
  ⟨h.bel.trans (hb.mono h.bel.size), h.bg.below h.bg.lt hb, h.bt.below h.bt.lt hb, h.br.below h.br.lt hb, h.bx.below h.bx.lt hb, h.st.below hb, h.ok, h.len, h.res⟩
theorem RdI.answer {w : World} {g : Gm} {pv lv sv : Value} {tb : Tb} {av ov cv : Value} {inp : List Int} {i : Nat} {R : Int × Nat × Pl} {wr : World} {σ : Pl} {a1 a2 : Option Addr} {n1 c1 n2 c2 : Nat} {us : List Value} (h : RdI w g pv lv sv tb av ov cv inp i R wr σ (.slice a1 n1 c1) (.slice a2 n2 c2) us) :
    Below w.heap.size w ((wr.setCell ⟨w.heap.size + 2, 0, none⟩ (.slice a1 n1 c1)).setCell ⟨w.heap.size + 2, 1, none⟩ (.slice a2 n2 c2)) ∧ BoxX ((wr.setCell ⟨w.heap.size + 2, 0, none⟩ (.slice a1 n1 c1)).setCell ⟨w.heap.size + 2, 1, none⟩ (.slice a2 n2 c2)) (w.heap.size + 2) (.slice a1 n1 c1) (.slice a2 n2 c2) ∧ StM (w.heap.size + 3) ((wr.setCell ⟨w.heap.size + 2, 0, none⟩ (.slice a1 n1 c1)).setCell ⟨w.heap.size + 2, 1, none⟩ (.slice a2 n2 c2)) (.slice a1 n1 c1) (.slice a2 n2 c2) σ us :=
  ⟨h.bel.trans ((below_stored _ _).mono (by omega)), h.br.stored _ _, h.st.keep h.br (grown_storedY _ _ _ _)⟩

/-- grammar, table, an answer, and the first stand -/
def boxR (w : World) (g : Gm) (pv lv sv av ov cv : Value) : World := (((boxT w g pv lv sv av ov cv).alloc (.cells #[.slice none 0 0, .slice none 0 0] 75)).alloc (.cells #[.int .i64 0] 3)).alloc (.cells #[.slice (some ⟨w.heap.size + 3, 0, none⟩) 1 1, .slice none 0 0] 75)
theorem RdI.start (w : World) (g : Gm) (pv lv sv av ov cv : Value) (tb : Tb) (inp : List Int) : RdI w g pv lv sv tb av ov cv inp 0 (readS g tb inp 0 []) (boxR w g pv lv sv av ov cv) [] (.slice (some ⟨w.heap.size + 3, 0, none⟩) 1 1) (.slice none 0 0) [] := by
  obtain ⟨h1, h2, h3⟩ := boxT_all w g pv lv sv av ov cv
  have s1 : (boxT w g pv lv sv av ov cv).heap.size = w.heap.size + 2 := by unfold boxT; rw [alloc_size, boxG_size]
  unfold boxR
  generalize boxT w g pv lv sv av ov cv = V at *
  have b1 := alloc_below V (.cells #[.slice none 0 0, .slice none 0 0] 75)
  have s2 := alloc_size V (.cells #[.slice none 0 0, .slice none 0 0] 75)
  have n1 := heap_alloc_new V (.cells #[.slice none 0 0, .slice none 0 0] 75)
  generalize V.alloc (.cells #[.slice none 0 0, .slice none 0 0] 75) = W at *
  have b2 := alloc_below W (.cells #[.int .i64 0] 3)
  have s3 := alloc_size W (.cells #[.int .i64 0] 3)
  have n2 := heap_alloc_new W (.cells #[.int .i64 0] 3)
  generalize W.alloc (.cells #[.int .i64 0] 3) = U at *
  have b3 := alloc_below U (.cells #[.slice (some ⟨w.heap.size + 3, 0, none⟩) 1 1, .slice none 0 0] 75)
  have s4 := alloc_size U (.cells #[.slice (some ⟨w.heap.size + 3, 0, none⟩) 1 1, .slice none 0 0] 75)
  have n3 := heap_alloc_new U (.cells #[.slice (some ⟨w.heap.size + 3, 0, none⟩) 1 1, .slice none 0 0] 75)
  generalize U.alloc (.cells #[.slice (some ⟨w.heap.size + 3, 0, none⟩) 1 1, .slice none 0 0] 75) = T at *
  rw [s1] at n1
  rw [show W.heap.size = w.heap.size + 3 by omega] at n2
  rw [show U.heap.size = w.heap.size + 4 by omega] at n3
  have c1 := b2.trans (b3.mono (by omega))
  have c2 := b1.trans (c1.mono (by omega))
  refine ⟨h1.trans (c2.mono (by omega)), h2.below h2.lt c2, h3.below h3.lt c2, ⟨by omega, (c1.block _ (by omega)).trans n1⟩, ⟨by omega, n3⟩, ⟨?_, ⟨rfl, ⟨rfl, .inl ⟨rfl, rfl⟩⟩, fun j hj => by simp [trL] at hj⟩, by simp [Value.ownBlock]⟩, ⟨fun x hx => by simp at hx, fun x hx => by simp at hx⟩, by simp, by simp⟩
  exact ⟨rfl, .inr ⟨w.heap.size + 3, 1, #[.int .i64 0], rfl, by omega, (b3.block _ (by omega)).trans n2, by simp, by unfold maxLen; omega, rfl, rfl⟩⟩

/-- a leaf is put behind: the rows are written, then the box -/
theorem StM.pushed {B Y : Nat} {w w1 w2 w3 w4 w5 : World} {sv tv sv' tv' : Value} {σ : Pl} {us : List Value} {to : Int} {a q : Nat} {o2 o4 : Obj} {a1 a2 : Option Addr} {n1 c1 n2 c2 : Nat} (h : StM B w sv tv σ us) (hB : B ≤ w.heap.size) (hY : BoxX w Y (.slice a1 n1 c1) (.slice a2 n2 c2))
    (hs : w1.ownsRow B 3 1 sv' (σ.length + 1 + 1) (intV (stL σ) ++ [.int .i64 to])) (hg1 : (w.alloc o2).grownBy w1 sv.ownBlock) (hat1 : sv'.ownBlock = sv.ownBlock ∨ sv'.ownBlock = some (w.alloc o2).heap.size) (hw2 : w1.grownBy w2 (some Y))
    (hb3 : Below w2.heap.size w2 w3) (hq : w3.heap[q]? = some (.cells #[.int .i64 (-1), .int .i64 a, .slice none 0 0] 81 (0, 0))) (hq2 : w2.heap.size ≤ q)
    (ht : w4.ownsRow B 34 1 tv' (σ.length + 1) (us ++ [.pointer (some ⟨q, 0, none⟩)])) (hg4 : (w3.alloc o4).grownBy w4 tv.ownBlock) (hat4 : tv'.ownBlock = tv.ownBlock ∨ tv'.ownBlock = some (w3.alloc o4).heap.size) (hw5 : w4.grownBy w5 (some Y)) :
    StM B w5 sv' tv' ((leafT a, to) :: σ) (us ++ [.pointer (some ⟨q, 0, none⟩)]) := by
  have hl := h.tr.1
  rw [trL_len] at hl
  have hyS := own_ne_box h.st hY (by decide)
  have hyT := own_ne_box h.tr.2.1 hY (by decide)
  have hYl := hY.lt
  have z1 : w.heap.size + 1 ≤ w1.heap.size := by have := hg1.size; simpa using this
  have z2 := hw2.size
  have z3 := hb3.size
  have z4 : w3.heap.size + 1 ≤ w4.heap.size := by have := hg4.size; simpa using this
  have z5 := hw5.size
  have hql := (Array.getElem?_eq_some_iff.1 hq).1
  have hsb : ∀ b, sv.ownBlock = some b → B ≤ b ∧ b < w.heap.size := fun b e => h.st.lt b e
  have htb : ∀ b, tv.ownBlock = some b → B ≤ b ∧ b < w.heap.size := fun b e => h.tr.2.1.lt b e
  have a1s : (w.alloc o2).heap.size = w.heap.size + 1 := alloc_size _ _
  have a3s : (w3.alloc o4).heap.size = w3.heap.size + 1 := alloc_size _ _
  -- blocks of w that are neither row nor the box
  have hkeep : ∀ b, b < w.heap.size → sv.ownBlock ≠ some b → tv.ownBlock ≠ some b → b ≠ Y → w5.heap[b]? = w.heap[b]? := fun b hb k1 k2 k3 => by
    rw [hw5.block b (by omega) (by simpa using k3), hg4.block b (by omega) (fun e => k2 e.symm), Below.heap_alloc w3 o4 b (by omega), hb3.block b (by omega), hw2.block b (by omega) (by simpa using k3), hg1.block b (by omega) (fun e => k1 e.symm), Below.heap_alloc w o2 b hb]
  have hne' : ∀ b, b < w.heap.size → sv.ownBlock ≠ some b → tv.ownBlock ≠ some b → sv'.ownBlock ≠ some b ∧ tv'.ownBlock ≠ some b := fun b hb k1 k2 => by
    refine ⟨fun e => ?_, fun e => ?_⟩
    · rcases hat1 with h1 | h1
      · exact k1 (by rw [← h1]; exact e)
      · rw [h1] at e; have := Option.some.inj e; omega
    · rcases hat4 with h1 | h1
      · exact k2 (by rw [← h1]; exact e)
      · rw [h1] at e; have := Option.some.inj e; omega
  -- the row of states
  have hsb' : ∀ b, sv'.ownBlock = some b → b ≠ Y := fun b e => by
    rcases hat1 with h1 | h1
    · rw [h1] at e; exact fun e2 => hyS (by rw [← e2]; exact e)
    · rw [h1] at e; have := Option.some.inj e; omega
  have hsl : ∀ b, sv'.ownBlock = some b → b < w1.heap.size := fun b e => (hs.lt b e).2
  have hst : sv'.ownBlock = none ∨ sv'.ownBlock ≠ tv.ownBlock := by
    rcases hat1 with h1 | h1
    · exact .inr (by rw [h1]; exact h.ne)
    · refine .inr fun e => ?_
      rw [h1] at e
      have := htb _ e.symm
      omega
  have hS5 : w5.ownsRow B 3 1 sv' (σ.length + 1 + 1) (intV (stL σ) ++ [.int .i64 to]) := by
    have e2 := hs.kept hw2 (.inr fun e => hsb' Y e rfl)
    have e3 := own_belowE e2 hb3
    have e4 := own_grownY e3 hg4 hst
    exact e4.kept hw5 (.inr fun e => hsb' Y e rfl)
  have htY : tv'.ownBlock ≠ some Y := fun e => by
    rcases hat4 with h1 | h1
    · rw [h1] at e; exact hyT e
    · rw [h1] at e; have := Option.some.inj e; omega
  have hT5 := ht.kept hw5 (.inr htY)
  have hqY : q ≠ Y := by omega
  have hq5 : w5.heap[q]? = some (.cells #[.int .i64 (-1), .int .i64 a, .slice none 0 0] 81 (0, 0)) := by
    rw [hw5.block q (by omega) (by simpa using hqY), hg4.block q (by omega) (fun e => by have := htb q e.symm; omega), Below.heap_alloc w3 o4 q hql]
    exact hq
  refine ⟨?_, ⟨?_, ?_, ?_⟩, ?_⟩
  · rw [stL_cons]
    have : intV (stL σ ++ [to]) = intV (stL σ) ++ [.int .i64 to] := by simp [intV]
    rw [this]
    exact hS5
  · rw [trL_cons]; simp [hl, trL_len]
  · rw [trL_len]; exact hT5
  · intro j hj
    rw [trL_cons] at hj ⊢
    by_cases hj2 : j < σ.length
    · have hh := h.tr.2.2 j (by rw [trL_len]; exact hj2)
      rw [getD_left _ _ _ _ (by rw [hl]; exact hj2), getD_left _ _ _ _ (by rw [trL_len]; exact hj2)]
      refine ⟨hh.1, ?_⟩
      obtain ⟨n, hn⟩ := hh.2
      exact ⟨n, (hn.avoids hY n).moved (by omega) fun b hb hok => ⟨⟨hok.1.1, hne' b hb hok.1.2.1 hok.1.2.2⟩, hkeep b hb hok.1.2.1 hok.1.2.2 hok.2⟩⟩
    · have hj3 : j = σ.length := by rw [List.length_append, trL_len] at hj; simp at hj; omega
      rw [getD_last _ _ _ _ (by rw [hl]; exact hj3), getD_last _ _ _ _ (by rw [trL_len]; exact hj3)]
      refine ⟨⟨q, rfl⟩, 1, .inr ⟨rfl, q, .slice none 0 0, rfl, ⟨by omega, fun e => ?_, fun e => ?_⟩, hq5, .inl ⟨rfl, none, 0, rfl⟩⟩⟩
      · have := hsl q e; omega
      · rcases hat4 with h1 | h1
        · rw [h1] at e; have := htb q e; omega
        · rw [h1] at e; have := Option.some.inj e; omega
  · intro e
    rcases hat4 with h1 | h1
    · rcases hst with h2 | h2
      · obtain ⟨g, c, rfl, _, _⟩ := hS5.form (by omega)
        simp [Value.ownBlock] at h2
      · exact h2 (by rw [e, h1])
    · rw [h1] at e
      have := hsl _ e
      omega

theorem errV_some (ab ar ae : Addr) (c : Int) (h : c ≠ 0) : ∃ z, errV ab ar ae c = .iface 137 (.pointer (some z)) := by
  unfold errV
  rw [if_neg h]
  split
  · exact ⟨ab, rfl⟩
  · split
    · exact ⟨ar, rfl⟩
    · exact ⟨ae, rfl⟩
/-- one terminal is read -/
theorem RdI.push {w : World} {g : Gm} {pv lv sv : Value} {tb : Tb} {av ov cv : Value} {inp : List Int} {i : Nat} {R : Int × Nat × Pl} {wr : World} {σ : Pl} {b1 b2 : Option Addr} {m1 d1 m2 d2 : Nat} {us : List Value} (h : RdI w g pv lv sv tb av ov cv inp i R wr σ (.slice b1 m1 d1) (.slice b2 m2 d2) us) (hf : fitsB g tb = true)
    {S : Int × Int × Pl} {x : Int} (hx : 0 ≤ x ∧ x < g.terms) (hS : setS g tb x 10000 σ = S) (hR : R = readS g tb (inp.drop (i + 1)) (i + 1) ((leafT i, S.2.1) :: S.2.2))
    {Y q : Nat} {v w1 w4 : World} {us' : List Value} {a1 a2 : Option Addr} {n1 c1 n2 c2 : Nat} {sv' tv' : Value} {o2 o4 : Obj} (hb : Below wr.heap.size wr v) (hY : BoxX v Y (.slice a1 n1 c1) (.slice a2 n2 c2)) (hYge : wr.heap.size ≤ Y) (hst : StM (w.heap.size + 3) v (.slice a1 n1 c1) (.slice a2 n2 c2) S.2.2 us')
    (hs : w1.ownsRow (w.heap.size + 3) 3 1 sv' (S.2.2.length + 1 + 1) (intV (stL S.2.2) ++ [.int .i64 S.2.1])) (hg1 : (v.alloc o2).grownBy w1 (Value.slice a1 n1 c1).ownBlock) (hat1 : sv'.ownBlock = (Value.slice a1 n1 c1).ownBlock ∨ sv'.ownBlock = some (v.alloc o2).heap.size)
    (hq : q = (w1.setCell ⟨Y, 0, none⟩ sv').heap.size)
    (ht : w4.ownsRow (w.heap.size + 3) 34 1 tv' (S.2.2.length + 1) (us' ++ [.pointer (some ⟨q, 0, none⟩)])) (hg4 : (((w1.setCell ⟨Y, 0, none⟩ sv').alloc (.cells #[.int .i64 (-1), .int .i64 i, .slice none 0 0] 81)).alloc o4).grownBy w4 (Value.slice a2 n2 c2).ownBlock) (hat4 : tv'.ownBlock = (Value.slice a2 n2 c2).ownBlock ∨ tv'.ownBlock = some (((w1.setCell ⟨Y, 0, none⟩ sv').alloc (.cells #[.int .i64 (-1), .int .i64 i, .slice none 0 0] 81)).alloc o4).heap.size) :
    BoxX (w4.setCell ⟨Y, 1, none⟩ tv') Y sv' tv' ∧ BoxX (w4.setCell ⟨Y, 1, none⟩ tv') (w.heap.size + 4) (.slice b1 m1 d1) (.slice b2 m2 d2) ∧ RdI w g pv lv sv tb av ov cv inp (i + 1) R (((w4.setCell ⟨Y, 1, none⟩ tv').setCell ⟨w.heap.size + 4, 0, none⟩ sv').setCell ⟨w.heap.size + 4, 1, none⟩ tv') ((leafT i, S.2.1) :: S.2.2) sv' tv' (us' ++ [.pointer (some ⟨q, 0, none⟩)]) := by
  have hv := h.below hb
  have hXlt := hv.bx.lt
  have hXr := h.bx.lt
  have n1S := own_ne_box hst.st hY (by decide)
  have n1T := own_ne_box hst.tr.2.1 hY (by decide)
  have n2S := own_ne_box hst.st hv.bx (by decide)
  have n2T := own_ne_box hst.tr.2.1 hv.bx (by decide)
  have hsb : ∀ b, (Value.slice a1 n1 c1).ownBlock = some b → w.heap.size + 3 ≤ b := fun b e => (hst.st.lt b e).1
  have htb : ∀ b, (Value.slice a2 n2 c2).ownBlock = some b → w.heap.size + 3 ≤ b := fun b e => (hst.tr.2.1.lt b e).1
  have hvs := hb.size
  -- the worlds
  have g2 := grown_setY w1 Y 0 sv'
  have e1 : Below (w.heap.size + 3) wr w1 := below_grownY (hb.mono (by omega)) hg1 hsb (by omega)
  have e2 : Below (w.heap.size + 3) wr (w1.setCell ⟨Y, 0, none⟩ sv') := e1.trans (((Below.refl _ _).setCell (p := ⟨Y, 0, none⟩) (Nat.le_refl _) _).mono (show w.heap.size + 3 ≤ Y by omega))
  have x1 : BoxX w1 (w.heap.size + 4) (.slice b1 m1 d1) (.slice b2 m2 d2) := boxX_grownY hv.bx hg1 n2S
  have y1 : BoxX w1 Y (.slice a1 n1 c1) (.slice a2 n2 c2) := boxX_grownY hY hg1 n1S
  have x2 := x1.grown g2 (by omega)
  have y2 := y1.set0 sv'
  have s2 := e2.size
  generalize hW2 : w1.setCell ⟨Y, 0, none⟩ sv' = w2 at *
  have b3 := alloc_below w2 (.cells #[.int .i64 (-1), .int .i64 i, .slice none 0 0] 81)
  have q3 := heap_alloc_new w2 (.cells #[.int .i64 (-1), .int .i64 i, .slice none 0 0] 81)
  have x3 := x2.below x2.lt b3
  have y3 := y2.below y2.lt b3
  have e3 := e2.trans (b3.mono (by omega))
  have s3 := e3.size
  generalize w2.alloc (.cells #[.int .i64 (-1), .int .i64 i, .slice none 0 0] 81) = w3 at *
  have e4 : Below (w.heap.size + 3) wr w4 := below_grownY e3 hg4 htb (by omega)
  have x4 := boxX_grownY x3 hg4 n2T
  have y4 := boxX_grownY y3 hg4 n1T
  have g5 := grown_setY w4 Y 1 tv'
  have e5 : Below (w.heap.size + 3) wr (w4.setCell ⟨Y, 1, none⟩ tv') := e4.trans (((Below.refl _ _).setCell (p := ⟨Y, 1, none⟩) (Nat.le_refl _) _).mono (show w.heap.size + 3 ≤ Y by omega))
  have x5 := x4.grown g5 (by omega)
  have y5 := y4.set1 tv'
  have hst5 := hst.pushed (to := S.2.1) (a := i) (q := q) (by omega) hY hs hg1 hat1 g2 b3 (by rw [hq]; exact q3) (by omega) ht hg4 hat4 g5
  generalize w4.setCell ⟨Y, 1, none⟩ tv' = w5 at *
  have hs6 : Below (w.heap.size + 4) w5 ((w5.setCell ⟨w.heap.size + 4, 0, none⟩ sv').setCell ⟨w.heap.size + 4, 1, none⟩ tv') := below_stored _ _
  have g6 := grown_storedY w5 (w.heap.size + 4) sv' tv'
  have e6 := e5.trans (hs6.mono (by omega))
  obtain ⟨k1, k2, k3, k4⟩ := setS_ok hf ⟨hx.1, by omega⟩ 10000 σ h.ok
  rw [hS] at k1 k2 k3 k4
  refine ⟨y5, x5, h.bel.trans (e6.mono (by omega)), h.bg.below (K := w.heap.size + 3) (by omega) e6, h.bt.below (K := w.heap.size + 3) (by omega) e6, h.br.below (K := w.heap.size + 3) (by omega) e6, x5.stored _ _, hst5.keep x5 g6, ⟨fun z hz => ?_, fun z hz => ?_⟩, ?_, hR.symm⟩
  · rcases List.mem_cons.1 hz with rfl | hz
    · exact ⟨k3, k4⟩
    · exact k1.states z hz
  · rcases List.mem_cons.1 hz with rfl | hz
    · exact ⟨rfl, by simp [leafT], by simp [leafT]; omega⟩
    · exact k1.trees z hz
  · have := h.len
    simp only [List.length_cons]
    omega

end Go.Proofs.YtdihdnhofgjhnaaDoor
