import Derived.Test.YtbiiapdeincpbaaCTakeA
import Derived.Test.YtbiiapdeincpbaaCStretch
namespace Go.Proofs.Ytbiiapdeincpbaa
open Go.RowKit
open Go.Maps (Keyed)
set_option linter.unusedVariables false
set_option maxRecDepth 100000

theorem apart_len : ∀ (l : List Rg) (a to : Int), Apart l → (∀ r ∈ l, a ≤ r.1 ∧ r.2 < to) → a ≤ to → a + 2 * (l.length : Int) ≤ to + 1
  | [], a, to, _, _, h => by simp; omega
  | r :: t, a, to, hA, hb, h => by
    have h1 := hb r (by simp)
    have h2 := hA.2 r (by simp)
    have hp := (List.pairwise_cons.1 hA.1).1
    by_cases ht : t = []
    · subst ht; simp; omega
    · have h3 : a + 2 ≤ to := by
        obtain ⟨x, hx⟩ := List.exists_mem_of_ne_nil t ht
        have h4 := hp x hx
        have h5 := hb x (by simp [hx])
        have h6 := hA.2 x (by simp [hx])
        omega
      have ih := apart_len t (a + 2) to hA.tail (fun x hx => by
        have h4 := hp x hx
        have h5 := hb x (by simp [hx])
        omega) h3
      simp
      omega

theorem upto_len {l : List Rg} {to : Int} {f : Int → Bool} (h : Upto l to f) (h0 : 0 ≤ to) (ht : to ≤ 1114112) : l.length ≤ 1000000 := by
  have := apart_len l 0 to h.apart h.low h0
  omega

def dsOf (A : List Eg) (n : Nat) : List Int := (List.range n).map fun (s : Nat) => sumS A (s : Int)
theorem dsOf_get (A : List Eg) (n s : Nat) (h : s < n) : (dsOf A n).getD s 0 = sumS A s := by simp [dsOf, h]
theorem dsOf_nil (n : Nat) : dsOf [] n = List.replicate n 0 := by
  apply List.ext_getElem
  · simp [dsOf]
  · intro i h1 h2
    simp [dsOf, sumS, sumBy]
theorem dsOf_snoc (A : List Eg) (e : Eg) (n s : Nat) (h : s < n) (he : e.2.1 = s) : (dsOf A n).set s (sumS A s + e.2.2) = dsOf (A ++ [e]) n := by
  apply List.ext_getElem
  · simp [dsOf]
  · intro i h1 h2
    have hi : i < n := by simpa [dsOf] using h2
    rw [List.getElem_set]
    simp only [dsOf, List.getElem_map, List.getElem_range]
    rw [sumS_snoc, he]
    by_cases q : s = i
    · subst q; simp
    · rw [if_neg q, if_neg (by omega)]; omega

theorem keeps_of_fr {B B' : Nat} {W W' : World} (h : Fr B W W') : Keeps B' W W' := fun k cur _ hk => h.block hk

/-- the classes along the sweep -/
structure CI (ls : List (List Rg)) (W00 : World) (s0 M Dp Nd Mp L Q P C Q2 : Nat) (W : World) (A : List Eg) (fr : Int) (nodes : List Int) (ps : List Pr) (v : Value) (cs : List (List Rg)) (rs : List Int) : Prop where
  cl : Cl W W00.heap.size M Dp Nd Mp ls.length L Q P C Q2 (dsOf A ls.length) nodes ps v cs rs
  good : Good ps nodes L
  leaf : ∀ t, t < L → nodes.getD (L + t) 0 = if t < ls.length then min (sumS A t) 1 else 0
  bd : ∀ j, j < 2 * L → -1000000 ≤ nodes.getD j 0 ∧ nodes.getD j 0 ≤ 1000000
  len : ps.length ≤ 16 * (A.length + 1)
  root : ∀ c, c < cs.length → ∃ r, rs[c]? = some r ∧ Root ps L r (sv ls (fstP (cs.getD c [])))
  part : Part ls cs fr
  num : (cs.length : Int) ≤ fr
  bel : Below W00.heap.size W00 W
  size : s0 ≤ W.heap.size
  top : fr ≤ 1114112

section
variable {ls : List (List Rg)} {W00 : World} {s0 M Dp Nd Mp L Q P C Q2 : Nat} {W : World} {A : List Eg} {fr : Int} {nodes : List Int} {ps : List Pr} {v : Value} {cs : List (List Rg)} {rs : List Int}

theorem CI.alloc (h : CI ls W00 s0 M Dp Nd Mp L Q P C Q2 W A fr nodes ps v cs rs) (o : Obj) : CI ls W00 s0 M Dp Nd Mp L Q P C Q2 (W.alloc o) A fr nodes ps v cs rs :=
  ⟨h.cl.alloc o, h.good, h.leaf, h.bd, h.len, h.root, h.part, h.num, h.bel.alloc h.cl.hB o, by have := h.size; simp; omega, h.top⟩

theorem ci_turn (h : CI ls W00 s0 M Dp Nd Mp L Q P C Q2 W A fr nodes ps v cs rs) (hnL : ls.length ≤ L) (hL : L ≤ 16) (h1 : W00.heap.size ≤ Dp) (h2 : W00.heap.size ≤ Nd) (h3 : W00.heap.size ≤ Mp) (hA : A.length ≤ 2000) (hAe : ∀ e ∈ A, e.2.2 = 1 ∨ e.2.2 = -1) (e : Eg) (he0 : 0 ≤ e.2.1) (he1 : e.2.1 < ls.length) (heb : e.2.2 = 1 ∨ e.2.2 = -1) :
    Calls Try.prog 45 #[.pointer (some ⟨M, 0, none⟩), .int .i64 e.2.1, .int .i64 e.2.2] W fun r W' => r = .returned (.tuple #[]) ∧ (∃ nodes' ps', CI ls W00 s0 M Dp Nd Mp L Q P C Q2 W' (A ++ [e]) fr nodes' ps' v cs rs) ∧ Fr W00.heap.size W W' := by
  obtain ⟨s, hs⟩ : ∃ s : Nat, e.2.1 = s := ⟨e.2.1.toNat, by omega⟩
  have hsn : s < ls.length := by omega
  rw [hs]
  have hb := sumS_bd s A hAe
  have hg := dsOf_get A ls.length s hsn
  refine (step_any h.cl.mem h.good s e.2.2 hsn hnL hL (by have := h.len; omega) h.bd (by rw [hg]; omega) (by rw [hg]; omega) (by omega) (by omega)).mono ?_
  rintro r W' ⟨rfl, nodes', ps', hG, hgood, hlen⟩
  rw [hg, dsOf_snoc A e ls.length s hsn hs] at hG
  refine ⟨rfl, ⟨nodes', ps', ?_⟩, h.cl.frTurned hG.but h1 h2 h3⟩
  refine ⟨h.cl.turned hG.but hG.mem, hgood, fun t ht => ?_, hG.bd, ?_, fun c hc => ?_, h.part, h.num, h.bel.trans ((h.cl.frTurned hG.but h1 h2 h3).below h.cl.hB), Nat.le_trans h.size hG.but.size, h.top⟩
  · rw [hG.leaf t ht]
    by_cases q : t = s
    · subst q
      rw [if_pos rfl, if_pos hsn, sumS_snoc, if_pos hs]
    · rw [if_neg q, h.leaf t ht]
      have e2 : sumS (A ++ [e]) t = sumS A t := by rw [sumS_snoc, hs, if_neg (by omega)]; simp
      rw [e2]
  · have := h.len
    simp
    omega
  · obtain ⟨r, hr, hR⟩ := h.root c hc
    exact ⟨r, hr, hR.pre hG.pre⟩

theorem ci_take (h : CI ls W00 s0 M Dp Nd Mp L Q P C Q2 W A fr nodes ps v cs rs) (hL1 : 1 ≤ L) (hnL : ls.length ≤ L) (hBC : W00.heap.size ≤ C) (hBQ : W00.heap.size ≤ Q2) (E B : List Eg) (hi : Int) (hp : E.Perm (gen 0 ls)) (hE : E = A ++ B) (hA : ∀ e ∈ A, e.1 ≤ fr) (hB : ∀ e ∈ B, hi < e.1) (h0 : 0 ≤ fr) (hlh : fr ≤ hi) (hi1 : hi ≤ 1114111) :
    Calls Try.prog 46 #[.agg #[.int .i64 fr, .int .i64 hi], .pointer (some ⟨Q, 0, none⟩), .pointer (some ⟨P, 0, none⟩), .pointer (some ⟨C, 0, none⟩)] W fun e W' => e = .returned (.tuple #[]) ∧ (∃ v' cs' rs', CI ls W00 s0 M Dp Nd Mp L Q P C Q2 W' A (hi + 1) nodes ps v' cs' rs') ∧ Fr W00.heap.size W W' := by
  have hsv : ∀ p, fr ≤ p → p ≤ hi → ∀ s, s < L → nodes.getD (L + s) 0 = sv ls p s := fun p p0 p1 s hs => by
    rw [h.leaf s hs]
    unfold sv
    by_cases q : s < ls.length
    · rw [if_pos q, sum_cnt (by rw [← hE]; exact hp) q hA hB h0 hi1 p0 p1]
    · rw [if_neg q]
      have : ls.getD s [] = [] := by simp [q]
      rw [this]
      rfl
  have hsame : ∀ p, fr ≤ p → p ≤ hi → sameB ls fr p = true := fun p p0 p1 => (sv_same hnL fr p).1 (fun s hs => by rw [← hsv fr (Int.le_refl _) hlh s hs, hsv p p0 p1 s hs])
  have hroot : Root ps L (nodes.getD 1 0) (sv ls fr) := ⟨nodes, h.good, rfl, fun s hs => hsv fr (Int.le_refl _) hlh s hs⟩
  have hnd := h.cl.mem.nd
  have hrb := h.bd 1 (by omega)
  have hin : ∀ c, c < cs.length → (rs[c]? = some (nodes.getD 1 0) ↔ sameB ls (fstP (cs.getD c [])) fr = true) := fun c hc => by
    obtain ⟨r, hr, hR⟩ := h.root c hc
    rw [hr, ← sv_same hnL, ← root_inj hnd hL1 hR hroot]
    simp
  have hcl : cs.length ≤ 2000000 := by have := h.num; have := h.top; omega
  by_cases hex : ∃ c, c < cs.length ∧ rs[c]? = some (nodes.getD 1 0)
  · obtain ⟨c, hc, hrc⟩ := hex
    have hs := (hin c hc).1 hrc
    have hU := h.part.upto c hc
    have hpo := part_old h.part hc hs h0 hlh hsame
    refine (take_known h.cl hL1 fr hi _ rfl hrb.1 hrb.2 c hc hrc hcl h.part.ne (fun i j hi hj hij => ?_) (upto_len hU h0 h.top) (upto_bd hU h.top)).mono ?_
    · rcases (show i < j ∨ j < i from by omega) with q | q
      · have := (h.part.ord i j q hj).1; omega
      · have := (h.part.ord j i q hi).1; omega
    · rintro e W' ⟨rfl, hC, hF⟩
      refine ⟨rfl, ⟨v, _, rs, hC, h.good, h.leaf, h.bd, h.len, fun i hi' => ?_, hpo, by have := h.num; simp; omega, h.bel.trans (hF.below h.cl.hB), ?_, by omega⟩, hF⟩
      · rw [List.length_set] at hi'
        obtain ⟨r, hr, hR⟩ := h.root i hi'
        refine ⟨r, hr, ?_⟩
        rw [getD_set_cs _ _ _ _ hc]
        split
        · rename_i e; subst e
          rw [fst_grow (h.part.ne _ hc)]; exact hR
        · exact hR
      · exact Nat.le_trans h.size (hF.below h.cl.hB).size
  · have hno : ∀ c, c < cs.length → sameB ls (fstP (cs.getD c [])) fr = false := fun c hc => by
      cases q : sameB ls (fstP (cs.getD c [])) fr
      · rfl
      · exact absurd ⟨c, hc, (hin c hc).2 q⟩ hex
    have hnot : nodes.getD 1 0 ∉ rs := fun hm => by
      obtain ⟨c, hc, e⟩ := List.mem_iff_getElem.1 hm
      exact hex ⟨c, by rw [← h.cl.lrs]; exact hc, by rw [List.getElem?_eq_getElem hc, e]⟩
    have hpn := part_new h.part hno h0 hlh hsame
    refine (take_fresh h.cl hL1 fr hi _ rfl hrb.1 hrb.2 hnot hcl hBC hBQ).mono ?_
    rintro e W' ⟨rfl, ⟨v', hC⟩, hF⟩
    refine ⟨rfl, ⟨v', _, _, hC, h.good, h.leaf, h.bd, h.len, fun i hi' => ?_, hpn, by have := h.num; simp; omega, h.bel.trans (hF.below h.cl.hB), Nat.le_trans h.size (hF.below h.cl.hB).size, by omega⟩, hF⟩
    have hl := h.cl.lrs
    simp at hi'
    rw [getD_snoc_cs _ _ _ hi']
    by_cases e : i = cs.length
    · rw [if_pos e]
      exact ⟨nodes.getD 1 0, by rw [e, ← hl]; simp, hroot⟩
    · rw [if_neg e]
      obtain ⟨r, hr, hR⟩ := h.root i (by omega)
      exact ⟨r, by rw [List.getElem?_append_left (by omega)]; exact hr, hR⟩
end

end Go.Proofs.Ytbiiapdeincpbaa
