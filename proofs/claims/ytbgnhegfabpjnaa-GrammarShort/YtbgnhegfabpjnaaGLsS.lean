/- The program: the least facts, as sentences: what holds on the way. -/
import Derived.Test.YtbgnhegfabpjnaaGWkT
namespace Go.Proofs.Ytbgnhegfabpjnaa
open Go.RowKit
set_option linter.unusedVariables false
set_option maxRecDepth 100000

/-- what tells a name's sentence -/
def SaysT (w : World) (F : Nat) (cap : Value) (N : Nat) (ps : List PdR) : Prop := ∀ (w' : World) (L : List SF) (v : Value) (n : Nat), n < N → L.length = N → (∀ n, OkS (factF L n)) → SntR w' v L → Below w.heap.size w w' → Calls Try.prog F #[v, .int .i64 n, cap] w' fun e w'' => e = .returned (sfV (sayF ps (factF L) n)) ∧ Below w'.heap.size w' w''
theorem sf_inj {a b : SF} (h : knF a = knF b) (h2 : txF a = txF b) : a = b := by
  cases a <;> cases b <;> simp [knF, txF] at * <;> exact h2
/-- between rounds -/
structure TsI (w wr : World) (FB TB N : Nat) (cn : Nat → Nat) (ps : List PdR) (av : Value) (L : List SF) (qs : List Int) : Prop where
  row : RowS wr FB L
  wk : WkT ps N L fun n => (n : Int) ∈ qs
  ask : AskM wr FB av qs
  nms : ∀ x ∈ qs, 0 ≤ x ∧ x < N
  lnk : LinksM wr TB N (fun n => TB + 1 + n) cn (fun n k => k < N ∧ linkR ps ps.length k n)
/-- within a round -/
structure TrI (wo wr : World) (FB N : Nat) (ps : List PdR) (qs : List Int) (L0 : List SF) (j : Nat) (gv : Value) (L : List SF) (zs : List Int) : Prop where
  row : RowS wr FB L
  wk : WkT ps N L fun n => (n : Int) ∈ qs.drop j ∨ (n : Int) ∈ zs
  own : OwnI wr wo.heap.size gv zs
  mem : ∀ x ∈ zs, 0 ≤ x ∧ x < N
  len : zs.length ≤ j * 3000000
  dec : zs = [] ∨ rkT L < rkT L0
  le : rkT L ≤ rkT L0
  gr : wo.grownBy wr (some FB)
/-- while the names that rest on one are gone through -/
structure TmI (wo wr : World) (FB N : Nat) (ps : List PdR) (qs : List Int) (j : Nat) (gv : Value) (L : List SF) (zs : List Int) (left : Lit → Bool) (rr m : Nat) : Prop where
  row : RowS wr FB L
  wk : WkT ps N L fun n => (n : Int) ∈ qs.drop (j + 1) ∨ (n : Int) ∈ zs ∨ left (.int .i64 (n : Int)) = true
  own : OwnI wr wo.heap.size gv zs
  ne : gv.ownBlock ≠ some rr
  mem : ∀ x ∈ zs, 0 ≤ x ∧ x < N
  len : zs.length ≤ j * 3000000 + m
  gr : wo.grownBy wr (some FB)
theorem TsI.start {w wr : World} {FB TB N : Nat} {cn : Nat → Nat} {ps : List PdR} {av : Value} {L : List SF} {qs : List Int} (h : TsI w wr FB TB N cn ps av L qs) : TrI wr wr FB N ps qs L 0 (.slice none 0 0) L [] :=
  ⟨h.row, h.wk.weaken fun n _ hn => .inl (by simpa using hn), ⟨rfl, .inl ⟨rfl, rfl⟩⟩, fun x hx => by simp at hx, by simp, .inl rfl, Nat.le_refl _, grown_refl _ _⟩
/-- a name that says nothing new -/
theorem TrI.same {wo wr w5 : World} {FB N : Nat} {ps : List PdR} {qs : List Int} {L0 : List SF} {j : Nat} {gv : Value} {L : List SF} {zs : List Int} (h : TrI wo wr FB N ps qs L0 j gv L zs) (hFB : FB < wo.heap.size) (hj : j < qs.length) {n : Nat} (hn : n < N) (hx : qs.getD j 0 = (n : Int)) (hb : Below wr.heap.size wr w5) (he : sayF ps (factF L) n = factF L n) : TrI wo w5 FB N ps qs L0 (j + 1) gv L zs := by
  have hg := below_grownN hb
  refine ⟨h.row.grown hg (by simp), ?_, h.own.kept hg (by cases hq : gv.ownBlock <;> simp), h.mem, Nat.le_trans h.len (Nat.mul_le_mul_right _ (Nat.le_succ _)), h.dec, h.le, grown_more h.gr hg (fun g e => by simp at e)⟩
  refine h.wk.same (n := n) ?_ ?_
  · exact he.symm
  · intro m hm ho hne
    rcases ho with ho | ho
    · rcases mem_drop_cons hj ho with e | e
      · rw [hx] at e; exact absurd (by omega) hne
      · exact .inl e
    · exact .inr ho
/-- a name that says something new -/
theorem TrI.set {wo wr w5 w7 : World} {FB N : Nat} {ps : List PdR} {qs : List Int} {L0 : List SF} {j : Nat} {gv : Value} {L : List SF} {zs : List Int} (h : TrI wo wr FB N ps qs L0 j gv L zs) (hps : ∀ p ∈ ps, 0 ≤ p.left) (hFB : FB < wo.heap.size) (hj : j < qs.length) {n : Nat} (hn : n < N) (hx : qs.getD j 0 = (n : Int)) (hb : Below wr.heap.size wr w5) (hne : sayF ps (factF L) n ≠ factF L n) (h3 : ∀ p ∈ ps, ∀ s ∈ p.right, s ≤ 300)
    (left : Lit → Bool) (hleft : ∀ k : Nat, k < N → linkR ps ps.length k n → left (.int .i64 (k : Int)) = true) (hg7 : ((w5.setCell ⟨FB, n * 2, none⟩ (.int .i64 (knF (sayF ps (factF L) n)))).setCell ⟨FB, n * 2 + 1, none⟩ (.string (encB (sayF ps (factF L) n)))).grownBy w7 none) (rr : Nat) (hrr : wr.heap.size ≤ rr) :
    TmI wo w7 FB N ps qs j gv (L.set n (sayF ps (factF L) n)) zs left rr 0 ∧ rkT (L.set n (sayF ps (factF L) n)) < rkT L0 := by
  have hg := below_grownN hb
  have hrow5 : RowS w5 FB L := h.row.grown hg (by simp)
  have hs6 : w5.grownBy ((w5.setCell ⟨FB, n * 2, none⟩ (.int .i64 (knF (sayF ps (factF L) n)))).setCell ⟨FB, n * 2 + 1, none⟩ (.string (encB (sayF ps (factF L) n)))) (some FB) := grown_more (set_grown w5 FB (n * 2) _) (set_grown _ FB (n * 2 + 1) _) (fun g e => .inr (by simpa using e.symm))
  have hol : ∀ b, gv.ownBlock = some b → wo.heap.size ≤ b ∧ b < wr.heap.size := fun b hb => h.own.lt b hb
  have hown5 : OwnI w5 wo.heap.size gv zs := h.own.kept hg (by cases hq : gv.ownBlock <;> simp)
  have hown6 : OwnI ((w5.setCell ⟨FB, n * 2, none⟩ (.int .i64 (knF (sayF ps (factF L) n)))).setCell ⟨FB, n * 2 + 1, none⟩ (.string (encB (sayF ps (factF L) n)))) wo.heap.size gv zs := hown5.kept hs6 (.inr fun e => by have := hol FB e; omega)
  refine ⟨⟨(hrow5.set n (by rw [h.wk.len]; exact hn) _).grown hg7 (by simp), ?_, hown6.kept hg7 (by cases hq : gv.ownBlock <;> simp), fun e => by have := hol _ e; omega, h.mem, Nat.le_trans h.len (Nat.le_add_right _ _), ?_⟩, ?_⟩
  · refine h.wk.set hps h3 hn ?_ ?_
    · intro m hm ho hne
      rcases ho with ho | ho
      · rcases mem_drop_cons hj ho with e | e
        · rw [hx] at e; exact absurd (by omega) hne
        · exact .inl e
      · exact .inr (.inl ho)
    · intro m hm hd
      exact .inr (.inr (hleft m hm (dep_link ps hps m n hd)))
  · exact grown_more (grown_more (grown_more h.gr hg (fun g e => by simp at e)) hs6 (fun g e => .inr (by simpa using e.symm))) hg7 (fun g e => by simp at e)
  · have := rkT_set L n (sayF ps (factF L) n) (by rw [h.wk.len]; exact hn) (rkF_lt (sayF_ok h.wk.ok h3 n) (h.wk.ok n) (h.wk.mono n hn) hne)
    have := h.le
    omega
/-- one of the names that rest on it -/
theorem TmI.step {wo wr w3 w9 : World} {FB N : Nat} {ps : List PdR} {qs : List Int} {j : Nat} {gv : Value} {L : List SF} {zs : List Int} {left : Lit → Bool} {rr m q g cap : Nat} {o : Obj} (h : TmI wo wr FB N ps qs j gv L zs left rr m) (hFB : FB < wo.heap.size) (hrr : wo.heap.size ≤ rr) (hrl : rr < wr.heap.size) (hq : q < N) (hg3 : wr.grownBy w3 (some rr))
    (hown : w9.ownsRow wo.heap.size 3 1 (.slice (some ⟨g, 0, none⟩) (zs.length + 1) cap) (zs.length + 1) (zs.map (Value.int .i64) ++ [.int .i64 (q : Int)])) (hg9 : (w3.alloc o).grownBy w9 gv.ownBlock) (hat : gv.ownBlock = some g ∨ g = w3.heap.size + 1) :
    TmI wo w9 FB N ps qs j (.slice (some ⟨g, 0, none⟩) (zs.length + 1) cap) L (zs ++ [(q : Int)]) (fun z => left z && !z.sameKey (.int .i64 (q : Int))) rr (m + 1) := by
  have hol : ∀ b, gv.ownBlock = some b → wo.heap.size ≤ b ∧ b < wr.heap.size := fun b hb => h.own.lt b hb
  have hgA : w3.grownBy (w3.alloc o) none := World.grownBy_alloc w3 o none
  have hs3 := hg3.size
  have g3 : wo.grownBy w3 (some FB) := grown_more h.gr hg3 (fun g e => .inl (by have h1 : rr = g := (by simpa using e); omega))
  have gA : wo.grownBy (w3.alloc o) (some FB) := grown_more g3 hgA (fun g e => by simp at e)
  have g9 : wo.grownBy w9 (some FB) := grown_more gA hg9 (fun g e => .inl (hol g e).1)
  refine ⟨?_, ?_, ?_, ?_, ?_, ?_, g9⟩
  · have r3 : RowS w3 FB L := h.row.grown hg3 (fun e => by have h1 : rr = FB := (by simpa using e); omega)
    have rA : RowS (w3.alloc o) FB L := r3.grown hgA (by simp)
    exact rA.grown hg9 (fun e => by have := hol FB e; omega)
  · refine h.wk.weaken fun n hn ho => ?_
    rcases ho with ho | ho | ho
    · exact .inl ho
    · exact .inr (.inl (by simp [ho]))
    · by_cases e : n = q
      · subst e; exact .inr (.inl (by simp))
      · refine .inr (.inr ?_)
        have : ¬ (n : Int) = (q : Int) := by omega
        simp [ho, Lit.sameKey, this]
  · show w9.ownsRow _ _ _ _ _ _
    simpa using hown
  · intro e
    have e' : g = rr := by simpa [Value.ownBlock] using e
    rcases hat with h1 | h1
    · exact h.ne (by rw [h1, e'])
    · omega
  · intro x hx
    rcases List.mem_append.1 hx with hx | hx
    · exact h.mem x hx
    · obtain rfl : x = (q : Int) := by simpa using hx
      omega
  · rw [List.length_append]; exact Nat.succ_le_succ h.len
theorem TmI.more {wo wr : World} {FB N : Nat} {ps : List PdR} {qs : List Int} {j : Nat} {gv : Value} {L : List SF} {zs : List Int} {left : Lit → Bool} {rr m m' : Nat} (h : TmI wo wr FB N ps qs j gv L zs left rr m) (hm : m ≤ m') : TmI wo wr FB N ps qs j gv L zs left rr m' := ⟨h.row, h.wk, h.own, h.ne, h.mem, Nat.le_trans h.len (Nat.add_le_add_left hm _), h.gr⟩
/-- they are all gone through -/
theorem TmI.done {wo wr : World} {FB N : Nat} {ps : List PdR} {qs : List Int} {L0 : List SF} {j : Nat} {gv : Value} {L : List SF} {zs : List Int} {left : Lit → Bool} {rr m : Nat} (h : TmI wo wr FB N ps qs j gv L zs left rr m) (hl : ∀ k, left k = false) (hm : m ≤ 3000000) (hrk : rkT L < rkT L0) : TrI wo wr FB N ps qs L0 (j + 1) gv L zs := by
  refine ⟨h.row, h.wk.weaken fun n hn ho => ?_, h.own, h.mem, Nat.le_trans h.len (by rw [Nat.succ_mul]; exact Nat.add_le_add_left hm _), .inr hrk, Nat.le_of_lt hrk, h.gr⟩
  rcases ho with ho | ho | ho
  · exact .inl ho
  · exact .inr ho
  · rw [hl] at ho; cases ho
/-- the next round -/
theorem TrI.next {w wo wr w8 w9 : World} {FB TB N : Nat} {cn : Nat → Nat} {ps : List PdR} {av gv v' : Value} {qs zs : List Int} {L0 L : List SF} (h : TrI wo wr FB N ps qs L0 qs.length gv L zs) (h0 : TsI w wo FB TB N cn ps av L0 qs) (hFT : FB < TB) (hg8 : wr.grownBy w8 gv.ownBlock) (hg9 : w8.grownBy w9 gv.ownBlock)
    (hask : AskM w9 FB v' (Lib.compact (zs.mergeSort fun x y => decide (x ≤ y)))) :
    TsI w w9 FB TB N cn ps v' L (Lib.compact (zs.mergeSort fun x y => decide (x ≤ y))) ∧ (Lib.compact (zs.mergeSort fun x y => decide (x ≤ y))).length ≤ N ∧ wo.grownBy w9 (some FB) ∧ 2 * rkT L + anyV v' < 2 * rkT L0 + 1 := by
  have hol : ∀ b, gv.ownBlock = some b → wo.heap.size ≤ b ∧ b < wr.heap.size := fun b hb => h.own.lt b hb
  have hFl := h0.row.lt
  have hmem : ∀ x, x ∈ Lib.compact (zs.mergeSort fun x y => decide (x ≤ y)) ↔ x ∈ zs := fun x => (mem_compact _ x).trans (mem_sortI zs x)
  have hne : gv.ownBlock ≠ some FB := fun e => by have := hol FB e; omega
  have hg : wo.grownBy w9 (some FB) := grown_more (grown_more h.gr hg8 (fun g e => .inl (hol g e).1)) hg9 (fun g e => .inl (hol g e).1)
  have hnm : ∀ x ∈ Lib.compact (zs.mergeSort fun x y => decide (x ≤ y)), 0 ≤ x ∧ x < N := fun x hx => h.mem x ((hmem x).1 hx)
  refine ⟨⟨(h.row.grown hg8 hne).grown hg9 hne, ?_, hask, hnm, h0.lnk.grown hg (by omega) (fun n hn => by show TB + 1 + n ≠ FB; omega)⟩, ?_, hg, ?_⟩
  · refine h.wk.weaken fun n hn ho => ?_
    rcases ho with ho | ho
    · simp at ho
    · exact (hmem _).2 ho
  · have := strict_len _ 0 N (strict_compact _ (sorted_sortI zs)) hnm (by omega)
    omega
  · have hle := h.le
    rcases h.dec with e | e
    · obtain ⟨a, c, hv⟩ := hask.slice
      have : Lib.compact (zs.mergeSort fun x y => decide (x ≤ y)) = [] := by
        apply List.eq_nil_iff_forall_not_mem.2
        intro x hx
        have := (hmem x).1 hx
        rw [e] at this; simp at this
      rw [this] at hv
      rw [hv]
      show 2 * rkT L + 0 < _
      omega
    · have : anyV v' ≤ 1 := by unfold anyV; split <;> omega
      omega

end Go.Proofs.Ytbgnhegfabpjnaa
