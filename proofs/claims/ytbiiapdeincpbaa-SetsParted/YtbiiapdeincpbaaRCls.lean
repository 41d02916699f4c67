import Derived.Test.YtbiiapdeincpbaaCCls
namespace Go.Proofs.Ytbiiapdeincpbaa
open Go.RowKit
set_option linter.unusedVariables false
set_option maxRecDepth 100000

/-- the blocks of S are rows of classes, or new -/
def Rows (B : Nat) (W : World) (S : List Nat) : Prop := ∀ k ∈ S, B ≤ k ∧ ∀ o, W.heap[k]? = some o → ∃ c t fz, o = .cells c t fz ∧ (t = 28 ∨ t = 56)

theorem Rows.below {B : Nat} {W W' : World} {S : List Nat} (h : Rows B W S) (hb : But S W W') (hB : B ≤ W.heap.size) : Below B W W' := hb.below hB (fun k hk => (h k hk).1)
theorem Rows.ints {B B' : Nat} {W W' : World} {S : List Nat} (h : Rows B W S) (hb : But S W W') {v : Value} {zs : List Int} (hI : IntsC W B' v zs) : IntsC W' B' v zs :=
  hI.keep (fun k cur hk => hb.block k (Array.getElem?_eq_some_iff.1 hk).1 (fun hS => by
    obtain ⟨c, t, fz, e, ht⟩ := (h k hS).2 _ hk
    rcases ht with rfl | rfl <;> simp at e)) hb.size

theorem cls_row {W : World} {B : Nat} {v : Value} {cs : List (List Rg)} (h : ClsAt W B v cs) {c : Nat} (hc : c < cs.length) : ∃ g cap cur vs, v = .slice (some ⟨g, 0, none⟩) cs.length cap ∧ B ≤ g ∧ W.heap[g]? = some (.cells cur 28 (0, 0)) ∧ cur[c]? = some (vs.getD c (.slice none 0 0)) ∧ W.ownsRow B 28 1 v cs.length vs ∧ ∀ i, i < cs.length → OwnR W B (vs.getD i (.slice none 0 0)) (cs.getD i []) := by
  obtain ⟨vs, hrow, hrows⟩ := h
  have hl := hrow.1
  simp at hl
  rcases hrow.2 with ⟨_, h0⟩ | ⟨g, cap, cur, rfl, h1, h2, _, _, _, h3⟩
  · omega
  · refine ⟨g, cap, cur, vs, rfl, h1, h2, ?_, hrow, hrows⟩
    have e2 : (cur.toList.take (cs.length * 1))[c]? = some (vs.getD c (.slice none 0 0)) := by rw [h3]; simp [show c < vs.length from by omega]
    rw [List.getElem?_take_of_lt (by omega)] at e2
    simpa using e2

theorem cls_slice {W : World} {B : Nat} {v : Value} {cs : List (List Rg)} (h : ClsAt W B v cs) : ∃ a cap, v = .slice a cs.length cap := by
  obtain ⟨vs, hrow, _⟩ := h
  rcases hrow.2 with ⟨rfl, h0⟩ | ⟨g, cap, cur, rfl, _⟩
  · exact ⟨none, 0, by rw [h0]⟩
  · exact ⟨_, _, rfl⟩

theorem cls_set {W w1 : World} {B g cap c : Nat} {cs : List (List Rg)} {vs : List Value} {v' : Value} {l' : List Rg} (hc : c < cs.length) (hrow : W.ownsRow B 28 1 (.slice (some ⟨g, 0, none⟩) cs.length cap) cs.length vs) (hrows : ∀ i, i < cs.length → OwnR W B (vs.getD i (.slice none 0 0)) (cs.getD i []))
    (hne : ∀ i, i < cs.length → cs.getD i [] ≠ []) (hap : ∀ i j, i < cs.length → j < cs.length → i ≠ j → fstP (cs.getD i []) ≠ fstP (cs.getD j [])) (hg1 : W.grownBy w1 (vs.getD c (.slice none 0 0)).ownBlock) (hO1 : OwnR w1 B v' l') :
    ∃ S, ClsAt (w1.setCell ⟨g, c, none⟩ v') B (.slice (some ⟨g, 0, none⟩) cs.length cap) (cs.set c l') ∧ But S W (w1.setCell ⟨g, c, none⟩ v') ∧ Rows B W S := by
  have hl := hrow.1
  simp at hl
  have hvc := hrows c hc
  obtain ⟨cur, hgb, hBg⟩ : ∃ cur, W.heap[g]? = some (.cells cur 28 (0, 0)) ∧ B ≤ g := by
    rcases hrow.2 with ⟨h0, _⟩ | ⟨g', cp, cur, e1, hB, hh, _⟩
    · simp at h0
    · simp at e1
      obtain ⟨rfl, rfl⟩ := e1
      exact ⟨cur, hh, hB⟩
  have hgs : g < W.heap.size := (Array.getElem?_eq_some_iff.1 hgb).1
  have hvg : (vs.getD c (.slice none 0 0)).ownBlock ≠ some g := own_kind_ne hvc (fun c fz => by rw [hgb]; simp)
  have hb : But ((vs.getD c (.slice none 0 0)).ownBlock.toList ++ [g]) W (w1.setCell ⟨g, c, none⟩ v') := ((But.grown hg1 (fun k hk => List.mem_append_left _ (by rw [hk]; simp))).trans (But.setCell w1 (by simp) c v'))
  have hw1g : w1.heap[g]? = some (.cells cur 28 (0, 0)) := (hg1.block g hgs (fun e => hvg e.symm)).trans hgb
  refine ⟨_, ?_, hb, fun k hk => ?_⟩
  · have hrow1 : w1.ownsRow B 28 1 (.slice (some ⟨g, 0, none⟩) cs.length cap) cs.length vs := hrow.kept hg1 (Or.inr (fun e => hvg e.symm))
    refine ⟨vs.set c v', by rw [List.length_set]; exact (hrow1.stored c v').1, fun i hi' => ?_⟩
    rw [List.length_set] at hi'
    rw [getD_set_cs _ _ _ _ hc]
    by_cases e : i = c
    · subst e
      rw [if_pos rfl]
      have e3 : (vs.set i v').getD i (.slice none 0 0) = v' := by simp [show i < vs.length from by omega]
      rw [e3]
      exact ownsRow_but hO1 (But.setCell (S := [g]) w1 (by simp) i v') (fun k hk => own_kind_ne hO1 (fun c fz => by simp at hk; subst hk; rw [hw1g]; simp))
    · rw [if_neg e]
      have e3 : (vs.set c v').getD i (.slice none 0 0) = vs.getD i (.slice none 0 0) := by
        simp only [List.getD_eq_getElem?_getD, List.getElem?_set_ne (Ne.symm e)]
      rw [e3]
      have hi2 := hrows i hi'
      refine ownsRow_but hi2 hb (fun k hk => ?_)
      rcases List.mem_append.1 hk with hk | hk
      · exact own_apart hvc hi2 (hne c hc) (hne i hi') (hap c i hc hi' (Ne.symm e)) k (by simpa using hk)
      · exact own_kind_ne hi2 (fun c fz => by simp at hk; subst hk; rw [hgb]; simp)
  · rcases List.mem_append.1 hk with hk | hk
    · have hk2 : (vs.getD c (.slice none 0 0)).ownBlock = some k := by simpa using hk
      obtain ⟨cc, fz, hkk⟩ := Lib.ownsRow_kind hvc k hk2
      exact ⟨(World.ownsRow.lt hvc k hk2).1, fun o ho => ⟨cc, 56, fz, by rw [hkk] at ho; simpa using ho.symm, Or.inr rfl⟩⟩
    · simp at hk
      subst hk
      exact ⟨hBg, fun o ho => ⟨cur, 28, (0, 0), by rw [hgb] at ho; simpa using ho.symm, Or.inl rfl⟩⟩

theorem cls_snoc {W W4 w6 : World} {B g5 cap5 : Nat} {v v6 : Value} {cs : List (List Rg)} {vs : List Value} {l' : List Rg} (hrow : W.ownsRow B 28 1 v cs.length vs) (hrows : ∀ i, i < cs.length → OwnR W B (vs.getD i (.slice none 0 0)) (cs.getD i []))
    (hg4 : W.grownBy W4 v.ownBlock) (hown4 : W4.ownsRow B 28 1 (.slice (some ⟨g5, 0, none⟩) (cs.length + 1) cap5) (cs.length + 1) (vs ++ [.slice none 0 0])) (hg6 : W4.grownBy w6 none) (hO6 : OwnR w6 B v6 l') :
    ∃ S, ClsAt (w6.setCell ⟨g5, cs.length, none⟩ v6) B (.slice (some ⟨g5, 0, none⟩) (cs.length + 1) cap5) (cs ++ [l']) ∧ But S W (w6.setCell ⟨g5, cs.length, none⟩ v6) ∧ Rows B W S := by
  have hl := hrow.1
  simp at hl
  have lt : ∀ {w : World} {k : Nat} {o : Obj}, w.heap[k]? = some o → k < w.heap.size := fun h => (Array.getElem?_eq_some_iff.1 h).1
  obtain ⟨cur4, k4, hB5⟩ : ∃ cur, W4.heap[g5]? = some (.cells cur 28 (0, 0)) ∧ B ≤ g5 := by
    rcases hown4.2 with ⟨h0, _⟩ | ⟨g', cp, cur, e1, hB, hh, _⟩
    · simp at h0
    · simp at e1
      obtain ⟨rfl, rfl⟩ := e1
      exact ⟨cur, hh, hB⟩
  have b4 : But v.ownBlock.toList W W4 := But.grown hg4 (fun k hk => by simp [hk])
  have b6 : But [] W4 w6 := But.grown hg6 (by simp)
  have b7 : But [g5] w6 (w6.setCell ⟨g5, cs.length, none⟩ v6) := But.setCell w6 (by simp) _ _
  have w6g : w6.heap[g5]? = some (.cells cur4 28 (0, 0)) := (b6.block g5 (lt k4) (by simp)).trans k4
  have hb : But (v.ownBlock.toList ++ [g5]) W (w6.setCell ⟨g5, cs.length, none⟩ v6) := ((b4.mono (fun k hk => List.mem_append_left _ hk)).trans (b6.mono (by simp))).trans (b7.mono (by simp))
  have hR : Rows B W (v.ownBlock.toList ++ [g5]) := fun k hk => by
    rcases List.mem_append.1 hk with hk | hk
    · have hk2 : v.ownBlock = some k := by simpa using hk
      obtain ⟨cc, fz, hkk⟩ := Lib.ownsRow_kind hrow k hk2
      exact ⟨(World.ownsRow.lt hrow k hk2).1, fun o ho => ⟨cc, 28, fz, by rw [hkk] at ho; simpa using ho.symm, Or.inl rfl⟩⟩
    · simp at hk
      subst hk
      refine ⟨hB5, fun o ho => ?_⟩
      by_cases hv : v.ownBlock = some k
      · obtain ⟨cc, fz, hkk⟩ := Lib.ownsRow_kind hrow k hv
        exact ⟨cc, 28, fz, by rw [hkk] at ho; simpa using ho.symm, Or.inl rfl⟩
      · have := b4.block k (lt ho) (by simpa using hv)
        rw [k4, ho] at this
        exact ⟨cur4, 28, (0, 0), by simpa using this.symm, Or.inl rfl⟩
  refine ⟨_, ?_, hb, hR⟩
  have r6 := ownsRow_but hown4 b6 (by simp)
  have r7 := (r6.stored cs.length v6).1
  have e7 : (vs ++ [Value.slice none 0 0]).set cs.length v6 = vs ++ [v6] := by rw [← hl]; simp
  rw [e7] at r7
  refine ⟨vs ++ [v6], by simpa using r7, fun i hi' => ?_⟩
  simp at hi'
  rw [getD_snoc_cs _ _ _ (by omega)]
  by_cases e : i = cs.length
  · rw [if_pos e]
    have e3 : (vs ++ [v6]).getD i (.slice none 0 0) = v6 := by rw [e, ← hl]; simp
    rw [e3]
    exact ownsRow_but hO6 b7 (fun k hk => own_kind_ne hO6 (fun c fz => by simp at hk; subst hk; rw [w6g]; simp))
  · rw [if_neg e]
    have e3 : (vs ++ [v6]).getD i (.slice none 0 0) = vs.getD i (.slice none 0 0) := by
      simp only [List.getD_eq_getElem?_getD]
      rw [List.getElem?_append_left (by omega)]
    rw [e3]
    have hi2 := hrows i (by omega)
    have hi4 : OwnR W4 B (vs.getD i (.slice none 0 0)) (cs.getD i []) := ownsRow_but hi2 b4 (fun k hk he => by
      obtain ⟨cc, fz, hkk⟩ := Lib.ownsRow_kind hi2 k he
      obtain ⟨cc', fz', hkk'⟩ := Lib.ownsRow_kind hrow k (by simpa using hk)
      rw [hkk] at hkk'
      simp at hkk')
    have hi6 := ownsRow_but hi4 b6 (by simp)
    exact ownsRow_but hi6 b7 (fun k hk => own_kind_ne hi6 (fun c fz => by simp at hk; subst hk; rw [w6g]; simp))

/-- the edges of all sets -/
def edgesAll (zs : List Int) (ls : List (List Rg)) : List Int := ls.foldl edgesL zs
theorem edgesAll_take (zs : List Int) (ls : List (List Rg)) (k : Nat) (h : k < ls.length) : edgesAll zs (ls.take (k + 1)) = edgesL (edgesAll zs (ls.take k)) (ls.getD k []) := by
  unfold edgesAll
  rw [List.take_succ_eq_append_getElem h, List.foldl_append]
  simp [h]
theorem edgesAll_cuts : ∀ (ls : List (List Rg)) {zs : List Int}, Cuts zs → Cuts (edgesAll zs ls)
  | [], _, h => h
  | l :: t, _, h => edgesAll_cuts t (edgesL_cuts l h)
theorem edgesAll_sub : ∀ (ls : List (List Rg)) (zs : List Int), ∀ x ∈ zs, x ∈ edgesAll zs ls
  | [], _, x, h => h
  | l :: t, zs, x, h => edgesAll_sub t (edgesL zs l) x (edgesL_sub l zs x h)
theorem edgesAll_covers : ∀ (ls : List (List Rg)) (zs : List Int), ∀ l ∈ ls, Covers (edgesAll zs ls) l
  | [], _, l, h => by simp at h
  | a :: t, zs, l, h => by
    rcases List.mem_cons.1 h with rfl | h
    · exact (edgesL_covers l zs).sub (edgesAll_sub t _)
    · exact edgesAll_covers t (edgesL zs a) l h
theorem edgesAll_len : ∀ (ls : List (List Rg)) (zs : List Int) (m : Nat), (∀ l ∈ ls, l.length ≤ m) → (edgesAll zs ls).length ≤ zs.length + ls.length * (2 * m)
  | [], zs, m, _ => by simp [edgesAll]
  | l :: t, zs, m, h => by
    have h1 := edgesAll_len t (edgesL zs l) m (fun x hx => h x (by simp [hx]))
    have h2 := edgesL_len l zs
    have h3 := h l (by simp)
    have e1 : edgesAll zs (l :: t) = edgesAll (edgesL zs l) t := rfl
    rw [e1]
    simp only [List.length_cons, Nat.add_mul]
    omega
theorem all_const {ls : List (List Rg)} {E : List Int} (hc : Cuts E) (hv : ∀ l ∈ ls, Covers E l) {k : Nat} (hk : k + 1 < E.length) (p : Int) (h1 : E.getD k 0 ≤ p) (h2 : p ≤ E.getD (k + 1) 0 - 1) : sameB ls (E.getD k 0) p = true :=
  sameB_iff.2 fun s hs => (cut_const hc (hv s hs) hk p h1 h2).symm

end Go.Proofs.Ytbiiapdeincpbaa
