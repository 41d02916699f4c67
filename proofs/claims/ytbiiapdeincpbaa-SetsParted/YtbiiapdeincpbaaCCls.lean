import Derived.Test.YtbiiapdeincpbaaCStep
import Derived.Test.YtbiiapdeincpbaaPExt
import Derived.Lib.OwnKind
namespace Go.Proofs.Ytbiiapdeincpbaa
open Go.RowKit
open Go.Maps (Keyed)
set_option linter.unusedVariables false
set_option maxRecDepth 100000

theorem ownsRow_but {w w' : World} {B : Nat} {e : TypeId} {size : Nat} {v : Value} {n : Nat} {xs : List Value} {S : List Nat} (h : w.ownsRow B e size v n xs) (hb : But S w w') (hS : ∀ k ∈ S, v.ownBlock ≠ some k) : w'.ownsRow B e size v n xs := by
  refine ⟨h.1, ?_⟩
  rcases h.2 with h0 | ⟨g, cap, cur, rfl, h1, h2, h3⟩
  · exact Or.inl h0
  · refine Or.inr ⟨g, cap, cur, rfl, h1, ?_, h3⟩
    rw [hb.block g (Array.getElem?_eq_some_iff.1 h2).1 (fun hg => hS g hg rfl)]
    exact h2
theorem ownsMap_but {w w' : World} {S : List Nat} {k : TypeId} {R : Value → Option (DataW Unit × List MemPlace)} {b n : Nat} {D : DataW Unit} (h : w.ownsMap Try.prog k R b n D) (hb : But S w w') (hS : b ∉ S) : w'.ownsMap Try.prog k R b n D := by
  obtain ⟨es, cl, hm, r⟩ := h
  exact ⟨es, cl, (hb.block b (Array.getElem?_eq_some_iff.1 hm).1 hS).trans hm, r⟩

/-- a block that holds a row of that kind is none of another kind -/
theorem own_kind_ne {w : World} {B : Nat} {e : TypeId} {size : Nat} {v : Value} {n : Nat} {xs : List Value} (h : w.ownsRow B e size v n xs) {k : Nat} (hk : ∀ c fz, w.heap[k]? ≠ some (.cells c e fz)) : v.ownBlock ≠ some k := fun e1 => by
  obtain ⟨c, fz, hc⟩ := Lib.ownsRow_kind h k e1
  exact hk c fz hc

theorem own_apart {w : World} {B : Nat} {v v' : Value} {l l' : List Rg} (h : OwnR w B v l) (h' : OwnR w B v' l') (hl : l ≠ []) (hl' : l' ≠ []) (hne : fstP l ≠ fstP l') : ∀ k, v.ownBlock = some k → v'.ownBlock ≠ some k := by
  have key : ∀ {v : Value} {l : List Rg}, OwnR w B v l → l ≠ [] → ∀ k, v.ownBlock = some k → w.cell? ⟨k, 0, none⟩ = some (.int .i64 (fstP l)) := by
    intro v l h hl k hk
    match l, hl with
    | r :: t, _ =>
      have hc := h.cells hk 0 (.int .i64 r.1) (by simp [cellsR])
      rw [add_off'] at hc
      simpa [fstP] using hc
  intro k hk hk'
  have h1 := key h hl k hk
  have h2 := key h' hl' k hk'
  rw [h1] at h2
  simp at h2
  exact hne h2

def ClsAt (w : World) (B : Nat) (v : Value) (cs : List (List Rg)) : Prop := ∃ vs : List Value, w.ownsRow B 28 1 v cs.length vs ∧ ∀ c, c < cs.length → OwnR w B (vs.getD c (.slice none 0 0)) (cs.getD c [])

theorem ClsAt.but {w w' : World} {S : List Nat} {B : Nat} {v : Value} {cs : List (List Rg)} (h : ClsAt w B v cs) (hb : But S w w') (hS : ∀ k ∈ S, ∀ c fz, w.heap[k]? ≠ some (.cells c 28 fz) ∧ w.heap[k]? ≠ some (.cells c 56 fz)) : ClsAt w' B v cs := by
  obtain ⟨vs, h1, h2⟩ := h
  refine ⟨vs, ownsRow_but h1 hb (fun k hk => own_kind_ne h1 (fun c fz => (hS k hk c fz).1)), fun c hc => ?_⟩
  have := h2 c hc
  exact ownsRow_but this hb (fun k hk => own_kind_ne this (fun c fz => (hS k hk c fz).2))

/-- the memory of the classes being made -/
structure Cl (W : World) (B M Dp Nd Mp n L Q P C Q2 : Nat) (ds nodes : List Int) (ps : List Pr) (v : Value) (cs : List (List Rg)) (rs : List Int) : Prop where
  mem : MemAt W M Dp Nd Mp n L ds nodes ps
  hC : W.heap[C]? = some (.cells #[v] 37 (0, 0))
  hP : W.heap[P]? = some (.cells #[.pointer (some ⟨M, 0, none⟩)] 61 (0, 0))
  hQ : W.heap[Q]? = some (.cells #[.map (some Q2)] 63 (0, 0))
  map : ∃ D : DataW Unit, W.ownsMap Try.prog 3 (plainElem Try.prog 3) Q2 rs.length D ∧ IdxG 3 (fun z : Int => Value.int .i64 z) D rs
  cls : ClsAt W B v cs
  ne : Q2 ≠ Mp
  lrs : rs.length = cs.length
  hB : B ≤ W.heap.size

/-- what a call leaves as it was: all but some blocks, none of them the edges', none below B -/
def Fr (B : Nat) (W W' : World) : Prop := ∃ S, But S W W' ∧ ∀ k ∈ S, B ≤ k ∧ ∀ c fz, W.heap[k]? ≠ some (.cells c 83 fz)
theorem Fr.below {B : Nat} {W W' : World} (h : Fr B W W') (hB : B ≤ W.heap.size) : Below B W W' := by
  obtain ⟨S, h1, h2⟩ := h
  exact h1.below hB (fun k hk => (h2 k hk).1)
theorem Fr.block {B : Nat} {W W' : World} (h : Fr B W W') {k : Nat} {c : Array Value} (hk : W.heap[k]? = some (.cells c 83 (0, 0))) : W'.heap[k]? = some (.cells c 83 (0, 0)) := by
  obtain ⟨S, h1, h2⟩ := h
  rw [h1.block k (Array.getElem?_eq_some_iff.1 hk).1 (fun hS => (h2 k hS).2 c _ hk)]
  exact hk

section
variable {W W' : World} {B M Dp Nd Mp n L Q P C Q2 : Nat} {ds nodes ds' nodes' : List Int} {ps ps' : List Pr} {v : Value} {cs : List (List Rg)} {rs : List Int}

theorem Cl.isMap (h : Cl W B M Dp Nd Mp n L Q P C Q2 ds nodes ps v cs rs) : (∃ es cl, W.heap[Q2]? = some (.map es cl)) ∧ (∃ es cl, W.heap[Mp]? = some (.map es cl)) := by
  obtain ⟨D, ⟨es, cl, hm, _⟩, _⟩ := h.map
  obtain ⟨D', ⟨es', cl', hm', _⟩, _⟩ := h.mem.map
  exact ⟨⟨es, cl, hm⟩, ⟨es', cl', hm'⟩⟩

/-- the tree alone has turned -/
theorem Cl.turned (h : Cl W B M Dp Nd Mp n L Q P C Q2 ds nodes ps v cs rs) (hb : But [Dp, Nd, Mp] W W') (hm : MemAt W' M Dp Nd Mp n L ds' nodes' ps') : Cl W' B M Dp Nd Mp n L Q P C Q2 ds' nodes' ps' v cs rs := by
  obtain ⟨⟨e1, c1, q1⟩, ⟨e2, c2, q2⟩⟩ := h.isMap
  have hD := h.mem.hD
  have hN := h.mem.hN
  have lt : ∀ {k : Nat} {o : Obj}, W.heap[k]? = some o → k < W.heap.size := fun h => (Array.getElem?_eq_some_iff.1 h).1
  have off : ∀ {k : Nat} {o : Obj}, W.heap[k]? = some o → (∀ c fz, o ≠ .cells c 3 fz) → (∀ e c, o ≠ .map e c) → W'.heap[k]? = some o := fun {k o} hk h1 h2 => by
    rw [hb.block k (lt hk) ?_]
    · exact hk
    · intro hS
      simp at hS
      rcases hS with rfl | rfl | rfl
      · rw [hD] at hk; simp at hk; exact h1 _ _ hk.symm
      · rw [hN] at hk; simp at hk; exact h1 _ _ hk.symm
      · rw [q2] at hk; simp at hk; exact h2 _ _ hk.symm
  refine ⟨hm, off h.hC (by simp) (by simp), off h.hP (by simp) (by simp), off h.hQ (by simp) (by simp), ?_, ?_, h.ne, h.lrs, Nat.le_trans h.hB hb.size⟩
  · obtain ⟨D, hd, hi⟩ := h.map
    refine ⟨D, ownsMap_but hd hb ?_, hi⟩
    intro hS
    simp at hS
    rcases hS with e | e | e
    · rw [e, hD] at q1; simp at q1
    · rw [e, hN] at q1; simp at q1
    · exact h.ne e
  · refine h.cls.but hb (fun k hk c fz => ?_)
    simp at hk
    rcases hk with rfl | rfl | rfl
    · rw [hD]; simp
    · rw [hN]; simp
    · rw [q2]; simp

theorem Cl.frTurned (h : Cl W B M Dp Nd Mp n L Q P C Q2 ds nodes ps v cs rs) (hb : But [Dp, Nd, Mp] W W') (h1 : B ≤ Dp) (h2 : B ≤ Nd) (h3 : B ≤ Mp) : Fr B W W' := by
  obtain ⟨⟨e1, c1, q1⟩, ⟨e2, c2, q2⟩⟩ := h.isMap
  refine ⟨_, hb, fun k hk => ?_⟩
  simp at hk
  rcases hk with rfl | rfl | rfl
  · exact ⟨h1, fun c fz => by rw [h.mem.hD]; simp⟩
  · exact ⟨h2, fun c fz => by rw [h.mem.hN]; simp⟩
  · exact ⟨h3, fun c fz => by rw [q2]; simp⟩

theorem Cl.alloc (h : Cl W B M Dp Nd Mp n L Q P C Q2 ds nodes ps v cs rs) (o : Obj) : Cl (W.alloc o) B M Dp Nd Mp n L Q P C Q2 ds nodes ps v cs rs := h.turned (But.alloc _ W o) (h.mem.alloc o)
end

end Go.Proofs.Ytbiiapdeincpbaa
