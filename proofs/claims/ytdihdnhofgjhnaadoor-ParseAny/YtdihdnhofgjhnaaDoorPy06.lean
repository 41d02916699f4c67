/- Texts of the proof, put together: TTre. -/
import Derived.Test.YtdihdnhofgjhnaaDoorPy05
import Derived.Lib.AppendIntMem
import Derived.Lib.ItoaLen
import Derived.Deep.AppendLies
namespace Go.Proofs.YtdihdnhofgjhnaaDoor
open Go.RowKit
set_option linter.unusedVariables false
set_option maxRecDepth 100000

/-- a tree; is: it is no nil -/
structure Tr where
  is : Bool
  prod : Int
  tok : Int
  kids : List Tr
def nilT : Tr := ⟨false, 0, 0, []⟩
theorem Tr.ind {P : Tr → Prop} (h : ∀ t : Tr, (∀ k ∈ t.kids, P k) → P t) : ∀ t, P t := fun t => by
  match t with
  | ⟨i, p, k, ks⟩ => exact h _ fun k hk => Tr.ind h k

/-- is a node one of a production of this name? -/
def nodeB (ps : List PdR) (p k : Int) (n : Nat) (name : Int) : Bool :=
  decide (0 ≤ p) && decide (p < ps.length) && decide (k = 0) && decide ((ps.getD p.toNat noPd).left = name) && decide ((ps.getD p.toNat noPd).right.length = n)
/-- is a leaf this terminal, at this place? -/
def leafB (inp : List Int) (p k : Int) (n : Nat) (s : Int) (a : Nat) : Bool :=
  decide (p = -1) && decide (n = 0) && decide (k = (a : Int)) && decide (a < inp.length) && decide (inp.getD a 0 = s)
def runK : List (Int → Nat → Option Nat) → List Int → Nat → Option Nat
  | [], _, a => some a
  | _ :: _, [], a => some a
  | f :: r, s :: ss, a => match f s a with | none => none | some b => runK r ss b
/-- where the leaves of a tree of a symbol end, from a place on -/
def lvT (ps : List PdR) (inp : List Int) (t : Tr) : Int → Nat → Option Nat := match t with
  | ⟨i, p, k, ks⟩ => fun s a => if i = false then none else if 0 ≤ s then (if leafB inp p k ks.length s a then some (a + 1) else none) else (if nodeB ps p k ks.length (-1 - s) then runK (ks.map (lvT ps inp)) (ps.getD p.toNat noPd).right a else none)
/-- how a tree is shown -/
def shT (t : Tr) : List UInt8 := match t with
  | ⟨i, p, k, ks⟩ => if i = false then [40, 41] else if p < 0 then Lib.itoa k else 40 :: (Lib.itoa p ++ ((ks.map shT).flatMap (fun x => 32 :: x) ++ [41]))
/-- how many trees there are in one -/
def wtT (t : Tr) : Nat := match t with
  | ⟨_, _, _, ks⟩ => 1 + (ks.map wtT).sum
/-- are a tree's numbers ones of int? -/
def okT (t : Tr) : Bool := match t with
  | ⟨_, p, k, ks⟩ => decide (-9223372036854775808 ≤ p ∧ p ≤ 9223372036854775807) && decide (-9223372036854775808 ≤ k ∧ k ≤ 9223372036854775807) && (ks.map okT).all id

theorem lvT_eq (ps : List PdR) (inp : List Int) (t : Tr) (s : Int) (a : Nat) : lvT ps inp t s a = if t.is = false then none else if 0 ≤ s then (if leafB inp t.prod t.tok t.kids.length s a then some (a + 1) else none) else (if nodeB ps t.prod t.tok t.kids.length (-1 - s) then runK (t.kids.map (lvT ps inp)) (ps.getD t.prod.toNat noPd).right a else none) := by
  obtain ⟨i, p, k, ks⟩ := t; rw [lvT]
/-- the kids, one behind the other -/
def shK (ks : List Tr) : List UInt8 := (ks.map shT).flatMap (fun x => 32 :: x)
def wtK (ks : List Tr) : Nat := (ks.map wtT).sum
theorem shT_eq (t : Tr) : shT t = if t.is = false then [40, 41] else if t.prod < 0 then Lib.itoa t.tok else 40 :: (Lib.itoa t.prod ++ (shK t.kids ++ [41])) := by obtain ⟨i, p, k, ks⟩ := t; rw [shT]; rfl
theorem wtT_eq (t : Tr) : wtT t = 1 + wtK t.kids := by obtain ⟨i, p, k, ks⟩ := t; rw [wtT]; rfl
theorem okT_eq (t : Tr) : okT t = true ↔ (-9223372036854775808 ≤ t.prod ∧ t.prod ≤ 9223372036854775807) ∧ (-9223372036854775808 ≤ t.tok ∧ t.tok ≤ 9223372036854775807) ∧ ∀ k ∈ t.kids, okT k = true := by
  obtain ⟨i, p, k, ks⟩ := t
  rw [okT]
  simp [and_assoc]
theorem shK_append (a b : List Tr) : shK (a ++ b) = shK a ++ shK b := by simp [shK]
theorem shK_one (t : Tr) : shK [t] = 32 :: shT t := by simp [shK]
theorem wtK_append (a b : List Tr) : wtK (a ++ b) = wtK a + wtK b := by simp [wtK]
theorem wtK_one (t : Tr) : wtK [t] = wtT t := by simp [wtK]
theorem shK_len : ∀ (l : List Tr), (∀ t ∈ l, (shT t).length + 1 ≤ 24 * wtT t) → (shK l).length ≤ 24 * wtK l
  | [], _ => by simp [shK]
  | t :: l, h => by
    have h1 := h t (by simp)
    have h2 := shK_len l fun k hk => h k (by simp [hk])
    have e1 := shK_append [t] l
    have e2 := wtK_append [t] l
    rw [shK_one] at e1
    rw [wtK_one] at e2
    rw [show t :: l = [t] ++ l from rfl, e1, e2]
    simp
    omega
theorem shT_len : ∀ (t : Tr), okT t = true → (shT t).length + 1 ≤ 24 * wtT t := by
  refine Tr.ind ?_
  intro t ih h
  obtain ⟨h1, h2, h3⟩ := (okT_eq t).1 h
  have hk := shK_len t.kids fun k hk => ih k hk (h3 k hk)
  have a1 := Lib.itoa_length_le t.prod h1.1 h1.2
  have a2 := Lib.itoa_length_le t.tok h2.1 h2.2
  rw [shT_eq, wtT_eq]
  split
  · simp; omega
  · split
    · omega
    · simp; omega
theorem runK_le : ∀ (fs : List (Int → Nat → Option Nat)), (∀ f ∈ fs, ∀ s a b, f s a = some b → a ≤ b) → ∀ (ss : List Int) (a b : Nat), runK fs ss a = some b → a ≤ b
  | [], _, ss, a, b, h => by simp [runK] at h; omega
  | f :: r, _, [], a, b, h => by simp [runK] at h; omega
  | f :: r, hf, s :: ss, a, b, h => by
    rw [runK] at h
    cases hq : f s a with
    | none => rw [hq] at h; cases h
    | some c =>
      rw [hq] at h
      have h1 := hf f (by simp) s a c hq
      have h2 := runK_le r (fun g hg => hf g (by simp [hg])) ss c b h
      omega
/-- leaves are never given back -/
theorem lvT_le (ps : List PdR) (inp : List Int) : ∀ (t : Tr) (s : Int) (a b : Nat), lvT ps inp t s a = some b → a ≤ b := by
  refine Tr.ind ?_
  intro t ih s a b h
  rw [lvT_eq] at h
  split at h
  · cases h
  · split at h
    · split at h
      · cases h; omega
      · cases h
    · split at h
      · refine runK_le _ (fun f hf => ?_) _ a b h
        obtain ⟨k, hk, rfl⟩ := List.mem_map.1 hf
        exact ih k hk
      · cases h
theorem runK_bare : ∀ (fs : List (Int → Nat → Option Nat)), (∀ f ∈ fs, ∀ s a b, f s a = some b → a ≤ b) → (∀ f ∈ fs, ∀ s a, f s a = some a → ∀ b, f s b = some b) → ∀ (ss : List Int) (a : Nat), runK fs ss a = some a → ∀ b, runK fs ss b = some b
  | [], _, _, ss, a, h, b => by simp [runK]
  | f :: r, _, _, [], a, h, b => by simp [runK]
  | f :: r, hl, hf, s :: ss, a, h, b => by
    rw [runK] at h ⊢
    cases hq : f s a with
    | none => rw [hq] at h; cases h
    | some c =>
      rw [hq] at h
      have h1 := hl f (by simp) s a c hq
      have h2 := runK_le r (fun g hg => hl g (by simp [hg])) ss c a h
      obtain rfl : a = c := by omega
      rw [hf f (by simp) s a hq b]
      exact runK_bare r (fun g hg => hl g (by simp [hg])) (fun g hg => hf g (by simp [hg])) ss a h b
/-- what has no leaves stands anywhere -/
theorem lvT_bare (ps : List PdR) (inp : List Int) : ∀ (t : Tr) (s : Int) (a : Nat), lvT ps inp t s a = some a → ∀ b, lvT ps inp t s b = some b := by
  refine Tr.ind ?_
  intro t ih s a h b
  rw [lvT_eq] at h ⊢
  split at h
  · cases h
  · rename_i hi
    rw [if_neg hi]
    split at h
    · split at h
      · simp at h
      · cases h
    · rename_i hs
      rw [if_neg hs]
      split at h
      · rename_i hn
        rw [if_pos hn]
        refine runK_bare _ (fun f hf => ?_) (fun f hf => ?_) _ a h b
        · obtain ⟨k, hk, rfl⟩ := List.mem_map.1 hf
          exact lvT_le ps inp k
        · obtain ⟨k, hk, rfl⟩ := List.mem_map.1 hf
          exact ih k hk
      · cases h

theorem wtT_pos (t : Tr) : 1 ≤ wtT t := by rw [wtT_eq]; omega
theorem wtK_len : ∀ l : List Tr, l.length ≤ wtK l
  | [] => by simp
  | t :: l => by
    have h1 := wtK_len l
    have h2 := wtT_pos t
    have e := wtK_append [t] l
    rw [wtK_one] at e
    rw [show t :: l = [t] ++ l from rfl, e]
    simp
    omega
theorem wtK_mem : ∀ (l : List Tr) (t : Tr), t ∈ l → wtT t ≤ wtK l
  | [], t, h => by simp at h
  | x :: l, t, h => by
    have e := wtK_append [x] l
    rw [wtK_one] at e
    rw [show x :: l = [x] ++ l from rfl, e]
    rcases List.mem_cons.1 h with rfl | h
    · omega
    · have := wtK_mem l t h; omega
/-- no tree has too many kids, down to a depth -/
def okN : Nat → Tr → Prop
  | 0, _ => True
  | m + 1, t => t.kids.length ≤ 1000000000000000 ∧ ∀ k ∈ t.kids, okN m k
theorem okN_of : ∀ (m : Nat) (t : Tr), wtT t ≤ 1000000000000000 → okN m t
  | 0, _, _ => trivial
  | m + 1, t, h => by
    rw [wtT_eq] at h
    have h1 := wtK_len t.kids
    refine ⟨by omega, fun k hk => okN_of m k ?_⟩
    have := wtK_mem t.kids k hk
    omega

def KidsT (P : Value → Tr → Prop) (ok : Nat → Prop) (w : World) (v : Value) (l : List Tr) : Prop :=
  (l = [] ∧ ∃ a c, v = .slice a 0 c) ∨ ∃ g off c, v = .slice (some ⟨g, off, none⟩) l.length c ∧ g < w.heap.size ∧ ok g ∧ ∀ j, j < l.length → ∃ u, w.cell? ⟨g, off + j, none⟩ = some u ∧ P u (l.getD j nilT)
/-- a tree in memory, all of it in blocks that ok says -/
def IsTr (ok : Nat → Prop) : Nat → World → Value → Tr → Prop
  | 0, _, _, _ => False
  | n + 1, w, v, t => (t = nilT ∧ v = .pointer none) ∨ (t.is = true ∧ ∃ b kv, v = .pointer (some ⟨b, 0, none⟩) ∧ ok b ∧ w.heap[b]? = some (.cells #[.int .i64 t.prod, .int .i64 t.tok, kv] 81 (0, 0)) ∧ KidsT (IsTr ok n w) ok w kv t.kids)
def Tree (ok : Nat → Prop) (w : World) (v : Value) (t : Tr) : Prop := ∃ n, IsTr ok n w v t

theorem KidsT.slice {P : Value → Tr → Prop} {ok : Nat → Prop} {w : World} {v : Value} {l : List Tr} (h : KidsT P ok w v l) : ∃ a c, v = .slice a l.length c := by
  rcases h with ⟨rfl, a, c, h⟩ | ⟨g, off, c, h, _⟩
  · exact ⟨a, c, h⟩
  · exact ⟨_, c, h⟩
theorem KidsT.at {P : Value → Tr → Prop} {ok : Nat → Prop} {w : World} {a : Option Addr} {n c : Nat} {l : List Tr} (h : KidsT P ok w (.slice a n c) l) {k : Nat} (hk : k < l.length) : ∃ b off u, a = some ⟨b, off, none⟩ ∧ b < w.heap.size ∧ w.cell? ⟨b, off + k, none⟩ = some u ∧ P u (l.getD k nilT) := by
  rcases h with ⟨rfl, _⟩ | ⟨g, off, c', h1, h2, _, h3⟩
  · simp at hk
  · simp only [Value.slice.injEq] at h1
    obtain ⟨rfl, rfl, rfl⟩ := h1
    obtain ⟨u, h4, h5⟩ := h3 k hk
    exact ⟨g, off, u, rfl, h2, h4, h5⟩
theorem KidsT.moved {P Q : Value → Tr → Prop} {ok ok' : Nat → Prop} {w w' : World} {v : Value} {l : List Tr} (h : KidsT P ok w v l) (hs : w.heap.size ≤ w'.heap.size) (hk : ∀ g, g < w.heap.size → ok g → ok' g ∧ w'.heap[g]? = w.heap[g]?) (hP : ∀ u o, o ∈ l → P u o → Q u o) : KidsT Q ok' w' v l := by
  rcases h with h | ⟨b, off, c, h1, h2, h3, h4⟩
  · exact Or.inl h
  · obtain ⟨e1, e2⟩ := hk b h2 h3
    refine Or.inr ⟨b, off, c, h1, Nat.lt_of_lt_of_le h2 hs, e1, fun j hj => ?_⟩
    obtain ⟨u, hu, hp⟩ := h4 j hj
    refine ⟨u, (World.cell?_of_block (a := ⟨b, off + j, none⟩) e2).trans hu, hP u _ ?_ hp⟩
    rw [List.getD_eq_getElem?_getD, List.getElem?_eq_getElem hj]
    exact List.getElem_mem hj
theorem IsTr.moved {ok ok' : Nat → Prop} {w w' : World} (hs : w.heap.size ≤ w'.heap.size) (hk : ∀ b, b < w.heap.size → ok b → ok' b ∧ w'.heap[b]? = w.heap[b]?) : ∀ (n : Nat) {v : Value} {t : Tr}, IsTr ok n w v t → IsTr ok' n w' v t
  | 0, _, _, h => h.elim
  | n + 1, v, t, .inl h => .inl h
  | n + 1, v, t, .inr ⟨hi, b, kv, h1, h2, h3, h5⟩ => by
    have hb := hk b (Array.getElem?_eq_some_iff.1 h3).1 h2
    exact .inr ⟨hi, b, kv, h1, hb.1, hb.2.trans h3, h5.moved hs hk fun u o _ hp => IsTr.moved hs hk n hp⟩
theorem IsTr.more {ok : Nat → Prop} {w : World} : ∀ (n m : Nat), n ≤ m → ∀ {v : Value} {t : Tr}, IsTr ok n w v t → IsTr ok m w v t
  | 0, _, _, _, _, h => h.elim
  | n + 1, 0, hm, _, _, _ => by omega
  | n + 1, m + 1, hm, v, t, .inl h => .inl h
  | n + 1, m + 1, hm, v, t, .inr ⟨hi, b, kv, h1, h2, h3, h5⟩ => .inr ⟨hi, b, kv, h1, h2, h3, h5.moved (Nat.le_refl _) (fun g hg1 hg2 => ⟨hg2, rfl⟩) fun u o _ hp => IsTr.more n m (by omega) hp⟩
theorem IsTr.below {ok : Nat → Prop} {w w' : World} {n : Nat} {v : Value} {t : Tr} (h : IsTr ok n w v t) (hb : Below w.heap.size w w') : IsTr ok n w' v t :=
  IsTr.moved hb.size (fun b hb1 hok => ⟨hok, hb.block b hb1⟩) n h
theorem Tree.moved {ok ok' : Nat → Prop} {w w' : World} {v : Value} {t : Tr} (h : Tree ok w v t) (hs : w.heap.size ≤ w'.heap.size) (hk : ∀ b, b < w.heap.size → ok b → ok' b ∧ w'.heap[b]? = w.heap[b]?) : Tree ok' w' v t := by
  obtain ⟨n, h⟩ := h; exact ⟨n, h.moved hs hk⟩
theorem Tree.imp {ok ok' : Nat → Prop} {w : World} {v : Value} {t : Tr} (h : Tree ok w v t) (hk : ∀ b, b < w.heap.size → ok b → ok' b) : Tree ok' w v t :=
  h.moved (Nat.le_refl _) fun b hb hok => ⟨hk b hb hok, rfl⟩
theorem Tree.ptr {ok : Nat → Prop} {w : World} {v : Value} {t : Tr} (h : Tree ok w v t) : v = .pointer none ∨ ∃ b, v = .pointer (some ⟨b, 0, none⟩) ∧ ok b := by
  obtain ⟨n, h⟩ := h
  cases n with
  | zero => exact h.elim
  | succ n =>
    rcases h with h | ⟨_, b, _, h1, h2, _⟩
    · exact .inl h.2
    · exact .inr ⟨b, h1, h2⟩
/-- one pointer, one tree -/
theorem IsTr.inj {ok ok' : Nat → Prop} {w : World} : ∀ (n m : Nat) {v : Value} {t t' : Tr}, IsTr ok n w v t → IsTr ok' m w v t' → t = t'
  | 0, _, _, _, _, h, _ => h.elim
  | _ + 1, 0, _, _, _, _, h => h.elim
  | n + 1, m + 1, v, t, t', .inl h, .inl h' => by rw [h.1, h'.1]
  | n + 1, m + 1, v, t, t', .inl h, .inr ⟨_, b, kv, h1, _⟩ => by rw [h.2] at h1; simp at h1
  | n + 1, m + 1, v, t, t', .inr ⟨_, b, kv, h1, _⟩, .inl h => by rw [h.2] at h1; simp at h1
  | n + 1, m + 1, v, ⟨i, p, k, ks⟩, ⟨i', p', k', ks'⟩, .inr ⟨hi, b, kv, h1, h2, h3, h4⟩, .inr ⟨hi', b', kv', g1, g2, g3, g4⟩ => by
    rw [h1] at g1
    simp only [Value.pointer.injEq, Option.some.injEq, Addr.mk.injEq, and_true] at g1
    subst g1
    rw [h3] at g3
    simp at g3
    obtain ⟨rfl, rfl, rfl⟩ := g3
    simp only at h4 g4 hi hi'
    obtain ⟨a, c, e1⟩ := h4.slice
    obtain ⟨a', c', e2⟩ := g4.slice
    have hl : ks.length = ks'.length := by rw [e1] at e2; simp at e2; omega
    subst e1
    have : ks = ks' := by
      apply List.ext_getElem hl
      intro j hj hj'
      obtain ⟨b1, off1, u1, e1, _, c1, p1⟩ := h4.at hj
      obtain ⟨b2, off2, u2, e2, _, c2, p2⟩ := g4.at hj'
      rw [e1] at e2
      simp only [Option.some.injEq, Addr.mk.injEq, and_true] at e2
      obtain ⟨rfl, rfl⟩ := e2
      rw [c1] at c2
      obtain rfl := Option.some.inj c2
      have := IsTr.inj n m p1 p2
      simpa [List.getD, hj, hj'] using this
    rw [this, hi, hi']

end Go.Proofs.YtdihdnhofgjhnaaDoor
