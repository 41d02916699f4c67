/- Texts of the proof, put together: YStd. -/
import Derived.Test.YtdihdnhofgjhnaaDoorPy15
import Derived.Deep.RegionHeld3
import Derived.Deep.RegionLaw
import Derived.Deep.AppendLies
namespace Go.Proofs.YtdihdnhofgjhnaaDoor
open Go.RowKit
set_option linter.unusedVariables false
set_option maxRecDepth 100000

theorem lt_of_cellY {w : World} {a : Addr} {v : Value} (h : w.cell? a = some v) : a.block < w.heap.size := by
  rcases Nat.lt_or_ge a.block w.heap.size with h' | h'
  · exact h'
  · simp [World.cell?, Array.getElem?_eq_none h'] at h
/-- the states, and the trees, the first one first -/
def stL (σ : Pl) : List Int := 0 :: (σ.map Prod.snd).reverse
def trL (σ : Pl) : List Tr := (σ.map Prod.fst).reverse
theorem stL_len (σ : Pl) : (stL σ).length = σ.length + 1 := by simp [stL]
theorem trL_len (σ : Pl) : (trL σ).length = σ.length := by simp [trL]
theorem stL_cons (x : Tr × Int) (σ : Pl) : stL (x :: σ) = stL σ ++ [x.2] := by simp [stL]
theorem trL_cons (x : Tr × Int) (σ : Pl) : trL (x :: σ) = trL σ ++ [x.1] := by simp [trL]
theorem trL_split (σ : Pl) (n : Nat) : trL σ = trL (σ.drop n) ++ ((σ.take n).map Prod.fst).reverse := by
  conv => lhs; rw [← List.take_append_drop n σ]
  simp only [trL, List.map_append, List.reverse_append]
theorem stL_split (σ : Pl) (n : Nat) : stL σ = stL (σ.drop n) ++ ((σ.take n).map Prod.snd).reverse := by
  conv => lhs; rw [← List.take_append_drop n σ]
  simp only [stL, List.map_append, List.reverse_append, List.cons_append]
theorem trL_drop (σ : Pl) (n : Nat) (h : n ≤ σ.length) : trL (σ.drop n) = (trL σ).take (σ.length - n) := by
  rw [trL_split σ n, List.take_append_of_le_length (by rw [trL_len, List.length_drop]; omega), List.take_of_length_le (by rw [trL_len, List.length_drop]; omega)]
theorem trL_take (σ : Pl) (n : Nat) (h : n ≤ σ.length) : ((σ.take n).map Prod.fst).reverse = (trL σ).drop (σ.length - n) := by
  rw [trL_split σ n, List.drop_append_of_le_length (by rw [trL_len, List.length_drop]; omega), List.drop_eq_nil_of_le (by rw [trL_len, List.length_drop]; omega), List.nil_append]
theorem stL_drop (σ : Pl) (n : Nat) (h : n ≤ σ.length) : stL (σ.drop n) = (stL σ).take (σ.length - n + 1) := by
  rw [stL_split σ n, List.take_append_of_le_length (by rw [stL_len, List.length_drop]; omega), List.take_of_length_le (by rw [stL_len, List.length_drop]; omega)]
theorem stL_last (σ : Pl) : (stL σ).getD σ.length 0 = topS σ := by
  cases σ with
  | nil => rfl
  | cons x σ =>
    rw [stL_cons, show (x :: σ).length = (stL σ).length by rw [stL_len]; rfl]
    simp [topS]
theorem stL_top (σ : Pl) (n : Nat) (h : n ≤ σ.length) : (stL σ).getD (σ.length - n) 0 = topS (σ.drop n) := by
  rw [← stL_last (σ.drop n), stL_drop σ n h, List.length_drop]
  simp [List.getD_eq_getElem?_getD]

def intV (l : List Int) : List Value := l.map fun x => .int .i64 x
theorem intV_len (l : List Int) : (intV l).length = l.length := by simp [intV]
theorem intV_get (l : List Int) (j : Nat) (h : j < l.length) : (intV l).getD j .nilFunc = .int .i64 (l.getD j 0) := by simp [intV, h]
theorem intV_one (l : List Int) : ∀ u ∈ intV l, u.oneCell' = true := fun u hu => by
  obtain ⟨x, _, rfl⟩ := List.mem_map.1 hu; rfl
/-- trees in a row of their own -/
def TrsM (B : Nat) (ok : Nat → Prop) (w : World) (tv : Value) (l : List Tr) (us : List Value) : Prop :=
  us.length = l.length ∧ w.ownsRow B 34 1 tv l.length us ∧ ∀ j, j < l.length → (∃ b, us.getD j .nilFunc = .pointer (some ⟨b, 0, none⟩)) ∧ Tree ok w (us.getD j .nilFunc) (l.getD j nilT)
/-- a stand in memory -/
structure StM (B : Nat) (w : World) (sv tv : Value) (σ : Pl) (us : List Value) : Prop where
  st : w.ownsRow B 3 1 sv (σ.length + 1) (intV (stL σ))
  tr : TrsM B (fun b => B ≤ b ∧ sv.ownBlock ≠ some b ∧ tv.ownBlock ≠ some b) w tv (trL σ) us
  ne : sv.ownBlock ≠ tv.ownBlock

theorem own_cellE {w : World} {e : TypeId} {B g cap n : Nat} {vs : List Value} (h : w.ownsRow B e 1 (.slice (some ⟨g, 0, none⟩) n cap) n vs) {j : Nat} (hj : j < n) : w.cell? ⟨g, j, none⟩ = some (vs.getD j .nilFunc) := by
  have hl : vs.length = n := by have := h.1; simpa using this
  have hc := h.cells (g := g) rfl j (vs.getD j .nilFunc) (by rw [List.getD_eq_getElem?_getD, List.getElem?_eq_getElem (by omega)]; rfl)
  have hadd : (⟨g, 0, none⟩ : Addr).add j = ⟨g, 0 + j, none⟩ := by unfold Addr.add; split <;> simp_all
  rw [hadd, Nat.zero_add] at hc
  exact hc
theorem own_sliceE {w : World} {e : TypeId} {B n : Nat} {v : Value} {vs : List Value} (h : w.ownsRow B e 1 v n vs) : ∃ a c, v = .slice a n c := by
  rcases h.2 with ⟨rfl, h0⟩ | ⟨g, cap, cur, rfl, _⟩
  · exact ⟨none, 0, by rw [h0]⟩
  · exact ⟨_, _, rfl⟩
theorem own_monoE {w : World} {e : TypeId} {B C n : Nat} {v : Value} {vs : List Value} (h : w.ownsRow C e 1 v n vs) (hB : B ≤ C) : w.ownsRow B e 1 v n vs := by
  refine ⟨h.1, h.2.imp id fun ⟨g, cap, cur, h1, h2, h3⟩ => ⟨g, cap, cur, h1, by omega, h3⟩⟩
theorem grownY {w w' : World} (h : Below w.heap.size w w') (row : Option Nat) : w.grownBy w' row := ⟨h.os, h.tape, h.output, h.size, fun k hk _ => h.block k hk⟩
theorem own_belowE {w w' : World} {e : TypeId} {B n : Nat} {v : Value} {vs : List Value} (h : w.ownsRow B e 1 v n vs) (hb : Below w.heap.size w w') : w'.ownsRow B e 1 v n vs :=
  h.kept (row := none) (grownY hb none) (by cases hq : v.ownBlock <;> simp)
theorem TrsM.below {B : Nat} {ok : Nat → Prop} {w w' : World} {tv : Value} {l : List Tr} {us : List Value} (h : TrsM B ok w tv l us) (hb : Below w.heap.size w w') : TrsM B ok w' tv l us :=
  ⟨h.1, own_belowE h.2.1 hb, fun j hj => ⟨(h.2.2 j hj).1, (h.2.2 j hj).2.moved hb.size fun b hb1 hok => ⟨hok, hb.block b hb1⟩⟩⟩
theorem StM.below {B : Nat} {w w' : World} {sv tv : Value} {σ : Pl} {us : List Value} (h : StM B w sv tv σ us) (hb : Below w.heap.size w w') : StM B w' sv tv σ us :=
  ⟨own_belowE h.st hb, h.tr.below hb, h.ne⟩
/-- where the states lie -/
theorem StM.states {B : Nat} {w : World} {sv tv : Value} {σ : Pl} {us : List Value} (h : StM B w sv tv σ us) : ∃ g c, sv = .slice (some ⟨g, 0, none⟩) (σ.length + 1) c ∧ g < w.heap.size ∧ σ.length + 1 ≤ c ∧ c ≤ maxLen ∧ ∀ j, j ≤ σ.length → w.cell? ⟨g, j, none⟩ = some (.int .i64 ((stL σ).getD j 0)) := by
  have ho := h.st
  rcases h.st.2 with ⟨_, h0⟩ | ⟨g, cap, cur, rfl, h1, h2, h3, h4, h5⟩
  · omega
  · refine ⟨g, cap, rfl, (Array.getElem?_eq_some_iff.1 h2).1, h3, h4, fun j hj => ?_⟩
    rw [own_cellE ho (j := j) (by omega), intV_get _ _ (by rw [stL_len]; omega)]
/-- where the trees lie -/
theorem StM.trees {B : Nat} {w : World} {sv tv : Value} {σ : Pl} {us : List Value} (h : StM B w sv tv σ us) : ∃ a c, tv = .slice a σ.length c ∧ us.length = σ.length ∧ ((a = none ∧ c = 0 ∧ σ.length = 0) ∨ ∃ g, a = some ⟨g, 0, none⟩ ∧ g < w.heap.size ∧ σ.length ≤ c ∧ c ≤ maxLen ∧ ∀ j, j < σ.length → w.cell? ⟨g, j, none⟩ = some (us.getD j .nilFunc)) := by
  have hl := h.tr.1
  have ho := h.tr.2.1
  rw [trL_len] at hl ho
  rcases ho.2 with ⟨rfl, h0⟩ | ⟨g, cap, cur, rfl, h1, h2, h3, h4, h5⟩
  · exact ⟨none, 0, by rw [h0], hl, .inl ⟨rfl, rfl, h0⟩⟩
  · exact ⟨_, cap, rfl, hl, .inr ⟨g, rfl, (Array.getElem?_eq_some_iff.1 h2).1, h3, h4, fun j hj => own_cellE ho hj⟩⟩
theorem fuel_trees {ok : Nat → Prop} {w : World} : ∀ (l : List Tr) (us : List Value), us.length = l.length → (∀ j, j < l.length → Tree ok w (us.getD j .nilFunc) (l.getD j nilT)) → ∃ n, ∀ j, j < l.length → IsTr ok n w (us.getD j .nilFunc) (l.getD j nilT)
  | [], _, _, _ => ⟨0, fun j hj => by simp at hj⟩
  | a :: l, [], h, _ => by simp at h
  | a :: l, v :: vs, h, hall => by
    obtain ⟨n, hn⟩ := fuel_trees l vs (by simpa using h) (fun j hj => by
      have := hall (j + 1) (by simpa using hj)
      simpa using this)
    obtain ⟨m, hm⟩ := hall 0 (by simp)
    refine ⟨max n m, fun j hj => ?_⟩
    cases j with
    | zero => exact hm.more m _ (Nat.le_max_right _ _)
    | succ j =>
      have h2 := hn j (by simpa using hj)
      simpa using h2.more n _ (Nat.le_max_left _ _)
/-- a node over the last trees -/
theorem node_tree {ok ok' : Nat → Prop} {w w' : World} {l : List Tr} {us : List Value} {Q : Nat} {p : Int} {kv : Value} {k C : Nat} (hl : us.length = l.length) (ht : ∀ j, j < l.length → Tree ok w (us.getD j .nilFunc) (l.getD j nilT)) (hk : k ≤ l.length) (hs : w.heap.size ≤ w'.heap.size) (hok : ∀ b, b < w.heap.size → ok b → ok' b ∧ w'.heap[b]? = w.heap[b]?) (hQ : ok' Q) (hq : w'.heap[Q]? = some (.cells #[.int .i64 p, .int .i64 0, kv] 81 (0, 0))) (ho : w'.ownsRow C 34 1 kv (l.length - k) (us.drop k)) (hkv : ∀ b, kv.ownBlock = some b → ok' b) :
    Tree ok' w' (.pointer (some ⟨Q, 0, none⟩)) (nodeT p (l.drop k)) := by
  obtain ⟨n, hn⟩ := fuel_trees l us hl ht
  refine ⟨n + 1, .inr ⟨rfl, Q, kv, rfl, hQ, hq, ?_⟩⟩
  show KidsT _ _ _ _ (l.drop k)
  rcases Nat.eq_zero_or_pos (l.length - k) with h0 | h0
  · obtain ⟨a, c, rfl⟩ := own_sliceE ho
    exact .inl ⟨List.drop_eq_nil_of_le (by omega), a, c, by rw [h0]⟩
  · obtain ⟨g, c, rfl, h1, h2⟩ := ho.form h0
    refine .inr ⟨g, 0, c, by rw [List.length_drop], h2, hkv g rfl, fun j hj => ?_⟩
    rw [List.length_drop] at hj
    refine ⟨us.getD (k + j) .nilFunc, ?_, ?_⟩
    · rw [Nat.zero_add, own_cellE ho hj]
      simp [List.getD_eq_getElem?_getD, List.getElem?_drop]
    · have := hn (k + j) (by omega)
      rw [show (l.drop k).getD j nilT = l.getD (k + j) nilT by simp [List.getD_eq_getElem?_getD, List.getElem?_drop]]
      exact this.moved hs hok
theorem getD_take {α : Type} (l : List α) (k j : Nat) (d : α) (h : j < k) : (l.take k).getD j d = l.getD j d := by simp [List.getD_eq_getElem?_getD, h]
theorem getD_left {α : Type} (l r : List α) (j : Nat) (d : α) (h : j < l.length) : (l ++ r).getD j d = l.getD j d := by simp [List.getD_eq_getElem?_getD, List.getElem?_append_left h]
theorem getD_last {α : Type} (l : List α) (x d : α) (j : Nat) (h : j = l.length) : (l ++ [x]).getD j d = x := by subst h; simp
/-- the stand behind a reduction -/
theorem StM.reduced {B C D Q n : Nat} {w w' : World} {sv tv sv' tv' kv : Value} {σ : Pl} {us : List Value} {p to : Int} (h : StM B w sv tv σ us) (hn : n ≤ σ.length) (hb : Below w.heap.size w w') (hB : B ≤ w.heap.size) (hQ : w.heap.size ≤ Q ∧ Q < C) (hq : w'.heap[Q]? = some (.cells #[.int .i64 p, .int .i64 0, kv] 81 (0, 0))) (hk : w'.ownsRow w.heap.size 34 1 kv n (us.drop (σ.length - n))) (hkC : ∀ b, kv.ownBlock = some b → b < C)
    (hs : w'.ownsRow C 3 1 sv' (σ.length - n + 1 + 1) (intV (stL (σ.drop n)) ++ [.int .i64 to])) (hsD : ∀ b, sv'.ownBlock = some b → b < D) (hCD : C ≤ D) (ht : w'.ownsRow D 34 1 tv' (σ.length - n + 1) (us.take (σ.length - n) ++ [.pointer (some ⟨Q, 0, none⟩)])) :
    StM B w' sv' tv' ((nodeT p ((σ.take n).map Prod.fst).reverse, to) :: σ.drop n) (us.take (σ.length - n) ++ [.pointer (some ⟨Q, 0, none⟩)]) := by
  have hl := h.tr.1
  rw [trL_len] at hl
  have hsb : ∀ b, sv'.ownBlock = some b → C ≤ b := fun b e => (hs.lt b e).1
  have htb : ∀ b, tv'.ownBlock = some b → D ≤ b := fun b e => (ht.lt b e).1
  have hnew : ∀ b, B ≤ b → b < C → B ≤ b ∧ sv'.ownBlock ≠ some b ∧ tv'.ownBlock ≠ some b := fun b h1 h2 => ⟨h1, fun e => by have := hsb b e; omega, fun e => by have := htb b e; omega⟩
  have hmv : ∀ b, b < w.heap.size → (B ≤ b ∧ sv.ownBlock ≠ some b ∧ tv.ownBlock ≠ some b) → (B ≤ b ∧ sv'.ownBlock ≠ some b ∧ tv'.ownBlock ≠ some b) ∧ w'.heap[b]? = w.heap[b]? := fun b h1 h2 => ⟨hnew b h2.1 (by omega), hb.block b h1⟩
  have hkb : ∀ b, kv.ownBlock = some b → w.heap.size ≤ b := fun b e => (hk.lt b e).1
  refine ⟨?_, ⟨?_, ?_, ?_⟩, ?_⟩
  · rw [stL_cons]
    have : intV (stL (σ.drop n) ++ [to]) = intV (stL (σ.drop n)) ++ [.int .i64 to] := by simp [intV]
    rw [this]
    have := own_monoE hs (B := B) (by omega)
    simpa using this
  · rw [trL_cons, trL_drop σ n hn]
    simp [hl, trL_len]
  · have := own_monoE ht (B := B) (by omega)
    rw [trL_len]
    simpa using this
  · intro j hj
    rw [trL_cons, trL_drop σ n hn] at *
    have hlt : ((trL σ).take (σ.length - n)).length = σ.length - n := by rw [List.length_take, trL_len]; omega
    have hlu : (us.take (σ.length - n)).length = σ.length - n := by rw [List.length_take, hl]; omega
    by_cases hj2 : j < σ.length - n
    · have hh := h.tr.2.2 j (by rw [trL_len]; omega)
      rw [getD_left _ _ _ _ (by rw [hlu]; exact hj2), getD_left _ _ _ _ (by rw [hlt]; exact hj2), getD_take _ _ _ _ hj2, getD_take _ _ _ _ hj2]
      exact ⟨hh.1, hh.2.moved hb.size hmv⟩
    · have hj3 : j = σ.length - n := by rw [List.length_append, hlt] at hj; simp at hj; omega
      rw [getD_last _ _ _ _ (by rw [hlu]; exact hj3), getD_last _ _ _ _ (by rw [hlt]; exact hj3)]
      refine ⟨⟨Q, rfl⟩, ?_⟩
      rw [trL_take σ n hn]
      refine node_tree (C := w.heap.size) (by rw [trL_len]; exact hl) (fun j hj => (h.tr.2.2 j hj).2) (by rw [trL_len]; omega) hb.size hmv (hnew Q (by omega) hQ.2) hq ?_ (fun b e => hnew b (by have := hkb b e; omega) (hkC b e))
      rw [trL_len, show σ.length - (σ.length - n) = n by omega]
      exact hk
  · intro e
    obtain ⟨g, c, rfl, h1, h2⟩ := hs.form (by omega)
    have := htb g (by rw [← e]; rfl)
    have := hsD g rfl
    omega

/-- what is put onto nothing -/
theorem step_append_all {P : Program} {w : World} {ops : Array Oper} {o : Oper} {a : Act} {K : Act → World → Prop} {Q : Exit → Act → World → Prop} {E : Prop} (hgd : o.guard = none) (s x : Operand) (t e : TypeId) (i : TypeInfo) (z : Value) (ht : P.underlying t = some (.slice e)) (hi : P.info? e = some i) (hz : i.zero = some z) (hsize : i.size = 1) (hby : i.bytes = 8) (hzs : z.cells.size = 1)
    (ho : o.op = .call { callee := .builtin .append, args := #[s, x], argTypes := #[t, t] }) (ad : Option Addr) (m c : Nat) (news : List Value) (hs : a.eval s = .slice none 0 0) (hx : a.eval x = .slice ad m c) (hl : news.length = m) (hnews : m = 0 ∨ ∃ b off, ad = some ⟨b, off, none⟩ ∧ ∀ j u, news[j]? = some u → w.cell? ⟨b, off + j, none⟩ = some u) (h1 : ∀ u ∈ news, u.oneCell' = true) (hm : m ≤ 1000000000)
    (C : Nat) (hC : C ≤ w.heap.size)
    (h : ∀ a' c' w', w'.ownsRow C e 1 (.slice a' m c') m news → Below w.heap.size w w' → K (a.put o.dst (.slice a' m c')) w') :
    if Region.wanted o (yielded ops a.tmps) = true then Oper.wp P o a w K Q else E := by
  rcases Nat.eq_zero_or_pos m with h0 | h0
  · subst h0
    have hnil : news = [] := List.eq_nil_of_length_eq_zero hl
    have hw : Region.wanted o (yielded ops a.tmps) = true := by simp [Region.wanted, hgd]
    rw [if_pos hw]
    have hrun : (Builtin.append_ #[t, t] o.type #[.slice none 0 0, .slice ad 0 c]).run P w = .ok (.slice none 0 0) w := by
      cases ad
      · simp [Builtin.append_, run_underlying ht, sizeOf, typeInfo, hi, Builtin.lenOf, Builtin.firstCells]
      · simp [Builtin.append_, run_underlying ht, sizeOf, typeInfo, hi, Builtin.lenOf, Builtin.firstCells, loadCells, loadCellsFrom]
    unfold Oper.wp execOp
    simp only [ho, resolve, invoke, builtin, Sem.run_bind, Sem.run_pure, Result.andThen_ok, List.map_toArray, List.map_cons, List.map_nil, hs, hx, hrun]
    exact h none 0 w ⟨by simp [hnil], .inl ⟨rfl, rfl⟩⟩ (Below.refl _ _)
  · obtain ⟨b, off, rfl, hc⟩ : ∃ b off, ad = some ⟨b, off, none⟩ ∧ ∀ j u, news[j]? = some u → w.cell? ⟨b, off + j, none⟩ = some u := by
      rcases hnews with hn | hn
      · omega
      · exact hn
    refine step_append_lies w hgd s x t ho C e i z 1 8 ht hi hz hsize hby hzs (by decide) (.slice none 0 0) 0 [] hs (World.ownsRow_nil w C e 1) ⟨b, off, none⟩ m c news hx (by simpa using hl) (fun j u hu => ?_) h1 h0 (by unfold maxLen; omega) (by omega) hC w.heap.size rfl ?_
    · have hadd : (⟨b, off, none⟩ : Addr).add j = ⟨b, off + j, none⟩ := by unfold Addr.add; split <;> simp_all
      rw [hadd]; exact hc j u hu
    · intro g cap w1 hown hg hat hlt
      have e0 : 0 + m = m := Nat.zero_add m
      rw [e0] at hown ⊢
      rw [List.nil_append] at hown
      exact h (some ⟨g, 0, none⟩) cap w1 hown ⟨hg.os, hg.tape, hg.output, hg.size, fun k hk => hg.block k hk (by simp [Value.ownBlock])⟩

end Go.Proofs.YtdihdnhofgjhnaaDoor
