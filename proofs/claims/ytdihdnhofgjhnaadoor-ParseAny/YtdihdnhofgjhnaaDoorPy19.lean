/- Texts of the proof, put together: YStdB. -/
import Derived.Test.YtdihdnhofgjhnaaDoorPy18
namespace Go.Proofs.YtdihdnhofgjhnaaDoor
open Go.RowKit
set_option linter.unusedVariables false
set_option maxRecDepth 100000

/-- a box of two slices is no part of a tree -/
theorem IsTr.avoids {ok : Nat → Prop} {w : World} {Q : Nat} {a1 a2 : Option Addr} {n1 c1 n2 c2 : Nat} (hQ : BoxX w Q (.slice a1 n1 c1) (.slice a2 n2 c2)) : ∀ (n : Nat) {v : Value} {t : Tr}, IsTr ok n w v t → IsTr (fun b => ok b ∧ b ≠ Q) n w v t
  | 0, _, _, h => h.elim
  | n + 1, v, t, .inl h => .inl h
  | n + 1, v, t, .inr ⟨hi, b, kv, h1, h2, h3, h5⟩ => by
    refine .inr ⟨hi, b, kv, h1, ⟨h2, fun e => ?_⟩, h3, ?_⟩
    · subst e
      rw [hQ.blk] at h3
      simp at h3
    · rcases h5 with h | ⟨g, off, c, k1, k2, k3, k4⟩
      · exact .inl h
      · by_cases hl : t.kids.length = 0
        · have e : t.kids = [] := List.eq_nil_of_length_eq_zero hl
          rw [hl] at k1
          exact .inl ⟨e, _, _, k1⟩
        · refine .inr ⟨g, off, c, k1, k2, ⟨k3, fun e => ?_⟩, fun j hj => ?_⟩
          · subst e
            obtain ⟨u, hu, hp⟩ := k4 0 (by omega)
            have hpt : u = .pointer none ∨ ∃ b, u = .pointer (some ⟨b, 0, none⟩) := by
              cases n with
              | zero => exact hp.elim
              | succ n =>
                rcases hp with ⟨_, e⟩ | ⟨_, b, _, e, _⟩
                · exact .inl e
                · exact .inr ⟨b, e⟩
            have hoff : off + 0 = 0 ∨ off + 0 = 1 := by
              have := hu
              simp only [World.cell?, hQ.blk] at this
              simp at this
              have hlt := (List.getElem?_eq_some_iff.1 this).1
              simp at hlt
              omega
            rcases hoff with e | e
            · rw [e, hQ.c0] at hu
              rcases hpt with e2 | ⟨b, e2⟩ <;> · rw [e2] at hu; simp at hu
            · rw [e, hQ.c1] at hu
              rcases hpt with e2 | ⟨b, e2⟩ <;> · rw [e2] at hu; simp at hu
          · obtain ⟨u, hu, hp⟩ := k4 j hj
            exact ⟨u, hu, IsTr.avoids hQ n hp⟩
theorem own_ne_box {w : World} {e : TypeId} {B n Q : Nat} {v a b : Value} {vs : List Value} (h : w.ownsRow B e 1 v n vs) (hQ : BoxX w Q a b) (he : e ≠ 75) : v.ownBlock ≠ some Q := by
  intro h1
  rcases h.2 with ⟨rfl, _⟩ | ⟨g, cap, cur, rfl, _, h2, _⟩
  · simp [Value.ownBlock] at h1
  · have : g = Q := by simpa [Value.ownBlock] using h1
    subst this
    rw [hQ.blk] at h2
    simp at h2
    exact he h2.2.symm
/-- a box is written: the stand is as it was -/
theorem StM.keep {B Q : Nat} {w w' : World} {sv tv : Value} {σ : Pl} {us : List Value} {a1 a2 : Option Addr} {n1 c1 n2 c2 : Nat} (h : StM B w sv tv σ us) (hQ : BoxX w Q (.slice a1 n1 c1) (.slice a2 n2 c2)) (hg : w.grownBy w' (some Q)) : StM B w' sv tv σ us := by
  refine ⟨h.st.kept hg (.inr (own_ne_box h.st hQ (by decide))), ⟨h.tr.1, h.tr.2.1.kept hg (.inr (own_ne_box h.tr.2.1 hQ (by decide))), fun j hj => ⟨(h.tr.2.2 j hj).1, ?_⟩⟩, h.ne⟩
  obtain ⟨n, hn⟩ := (h.tr.2.2 j hj).2
  exact ⟨n, (hn.avoids hQ n).moved hg.size fun b hb hok => ⟨hok.1, hg.block b hb (fun e => hok.2 (Option.some.inj e))⟩⟩
theorem grown_storedY (w : World) (Q : Nat) (x y : Value) : w.grownBy ((w.setCell ⟨Q, 0, none⟩ x).setCell ⟨Q, 1, none⟩ y) (some Q) := by
  have h1 := grown_setY w Q 0 x
  have h2 := grown_setY (w.setCell ⟨Q, 0, none⟩ x) Q 1 y
  exact ⟨h2.os.trans h1.os, h2.tape.trans h1.tape, h2.output.trans h1.output, Nat.le_trans h1.size h2.size, fun k hk hne => (h2.block k (Nat.lt_of_lt_of_le hk h1.size) hne).trans (h1.block k hk hne)⟩
theorem grown_drewY {w w' : World} {row : Option Nat} (h : w.grownBy w' row) : w.grownBy w'.drew row := ⟨h.os, h.tape, h.output, h.size, h.block⟩
/-- the tree of a place -/
theorem StM.treeAt {B : Nat} {w : World} {sv tv : Value} {σ : Pl} {us : List Value} (h : StM B w sv tv σ us) (j : Nat) (hj : j < σ.length) : ∃ b, us.getD j .nilFunc = .pointer (some ⟨b, 0, none⟩) ∧ b < w.heap.size ∧ w.cell? ⟨b, 0, none⟩ = some (.int .i64 ((trL σ).getD j nilT).prod) := by
  obtain ⟨⟨b, hb⟩, n, hn⟩ := h.tr.2.2 j (by rw [trL_len]; exact hj)
  refine ⟨b, hb, ?_⟩
  rw [hb] at hn
  cases n with
  | zero => exact hn.elim
  | succ n =>
    rcases hn with ⟨_, e⟩ | ⟨_, b', kv, e, _, h3, _⟩
    · simp at e
    · simp only [Value.pointer.injEq, Option.some.injEq, Addr.mk.injEq, and_true] at e
      subst e
      exact ⟨(Array.getElem?_eq_some_iff.1 h3).1, by simp [World.cell?, h3]⟩

theorem redS_ok {g : Gm} {tb : Tb} {σ σ' : Pl} {p : Int} (hf : fitsB g tb = true) (h : PlOk g tb σ) (hp : 0 ≤ p ∧ p < g.prods.length) (hr : redS g tb p σ = some σ') : PlOk g tb σ' ∧ σ'.length ≤ σ.length + 1 := by
  unfold redS at hr
  split at hr
  · cases hr
  · split at hr
    · cases hr
    · rename_i h1 h2
      obtain rfl := Option.some.inj hr
      obtain ⟨hf1, hf2, _⟩ := fits_parts hf
      obtain ⟨hl0, hl1, _⟩ := pd_ok hf1 hp
      obtain ⟨_, hg0, hg1⟩ := goto_ok hf (topS_ok (h.drop (prodOf g p).right.length) hf2) ⟨hl0, hl1⟩
      refine ⟨⟨fun x hx => ?_, fun x hx => ?_⟩, by simp⟩
      · rcases List.mem_cons.1 hx with rfl | hx
        · exact ⟨by simp; omega, hg1⟩
        · exact (h.drop _).states x hx
      · rcases List.mem_cons.1 hx with rfl | hx
        · exact ⟨rfl, by simp [nodeT]; omega, by simp [nodeT]; omega⟩
        · exact (h.drop _).trees x hx
theorem setS_ok {g : Gm} {tb : Tb} {t : Int} (hf : fitsB g tb = true) (ht : 0 ≤ t ∧ t ≤ g.terms) : ∀ (m : Nat) (σ : Pl), PlOk g tb σ → PlOk g tb (setS g tb t m σ).2.2 ∧ (setS g tb t m σ).2.2.length ≤ σ.length + m ∧ 0 ≤ (setS g tb t m σ).2.1 ∧ (setS g tb t m σ).2.1 < tb.acts.length
  | 0, σ, h => by
    obtain ⟨hf1, hf2, _⟩ := fits_parts hf
    have ha := (act_ok hf (topS_ok h hf2) ht).2
    unfold setS
    split
    · exact ⟨h, by simp, by simp, by simp; omega⟩
    · split
      · rename_i h1
        unfold actB at ha
        simp [h1] at ha
        exact ⟨h, by simp, ha.1.1, by simpa using ha.1.2⟩
      · split
        · split <;> exact ⟨h, by simp, by simp, by simp; omega⟩
        · exact ⟨h, by simp, by simp, by simp; omega⟩
  | m + 1, σ, h => by
    obtain ⟨hf1, hf2, _⟩ := fits_parts hf
    have ha := (act_ok hf (topS_ok h hf2) ht).2
    rw [setS]
    split
    · exact ⟨h, by simp, by simp, by simp; omega⟩
    · split
      · rename_i h1
        unfold actB at ha
        simp [h1] at ha
        exact ⟨h, by simp, ha.1.1, by simpa using ha.1.2⟩
      · split
        · split <;> exact ⟨h, by simp, by simp, by simp; omega⟩
        · rename_i h0 h1 h3
          unfold actB at ha
          simp [h0, h1, h3] at ha
          cases hr : redS g tb (actOf tb (topS σ) t).to σ with
          | none => exact ⟨h, by simp, by simp, by simp; omega⟩
          | some σ' =>
            obtain ⟨k1, k2⟩ := redS_ok hf h ⟨ha.1.2, ha.2⟩ hr
            obtain ⟨j1, j2, j3, j4⟩ := setS_ok hf ht m σ' k1
            exact ⟨j1, by show (setS g tb t m σ').2.2.length ≤ _; omega, j3, j4⟩

end Go.Proofs.YtdihdnhofgjhnaaDoor
