/- The program: the least facts, as numbers: what holds on the way. -/
import Derived.Test.YtbgnhegfabpjnaaGTrn
import Derived.Test.YtbgnhegfabpjnaaGSrt
namespace Go.Proofs.Ytbgnhegfabpjnaa
open Go.RowKit
set_option linter.unusedVariables false
set_option maxRecDepth 100000

theorem grown_more {wo wr w' : World} {FB : Nat} {row : Option Nat} (h : wo.grownBy wr (some FB)) (h' : wr.grownBy w' row) (hrow : ∀ g, row = some g → wo.heap.size ≤ g ∨ g = FB) : wo.grownBy w' (some FB) :=
  ⟨h'.os.trans h.os, h'.tape.trans h.tape, h'.output.trans h.output, Nat.le_trans h.size h'.size, fun k hk hne => by
    refine (h'.block k (Nat.lt_of_lt_of_le hk h.size) ?_).trans (h.block k hk hne)
    intro e
    rcases hrow k e.symm with h1 | h1
    · omega
    · exact hne (by rw [h1])⟩
theorem grown_refl (w : World) (row : Option Nat) : w.grownBy w row := ⟨rfl, rfl, rfl, Nat.le_refl _, fun _ _ _ => rfl⟩
theorem below_grownN {wr w' : World} (hb : Below wr.heap.size wr w') : wr.grownBy w' none := ⟨hb.os, hb.tape, hb.output, hb.size, fun k hk _ => hb.block k hk⟩
theorem set_grown (w : World) (FB j : Nat) (x : Value) : w.grownBy (w.setCell ⟨FB, j, none⟩ x) (some FB) :=
  ⟨rfl, rfl, rfl, by simp, fun k hk hne => Below.heap_setCell _ _ _ _ (fun e => hne (by simpa using e))⟩
theorem Row.grown {w w' : World} {D : Nat} {L : List Int} {row : Option Nat} (h : Row w D L) (hg : w.grownBy w' row) (hne : row ≠ some D) : Row w' D L := (hg.block D h.lt (fun e => hne e.symm)).trans h
theorem dep_link (ps : List PdR) (hl : ∀ p ∈ ps, 0 ≤ p.left) (m n : Nat) (h : Dep (prsS ps) m n) : linkR ps ps.length m n := by
  obtain ⟨p, hp, hm, s, hs, h0, hn⟩ := h
  obtain ⟨q, hq, rfl⟩ := List.mem_map.1 hp
  obtain ⟨i, hi, rfl⟩ := List.mem_iff_getElem.1 hq
  obtain ⟨j, hj, rfl⟩ := List.mem_iff_getElem.1 hs
  have h1 := hl _ hq
  have hm' : (ps[i]).left.toNat = m := hm
  have hj' : j < (ps[i]).right.length := hj
  have e : ps.getD i noPd = ps[i] := by simp [List.getD, hi]
  have h0' : (ps[i]).right[j] < 0 := h0
  have hn' : (-1 - (ps[i]).right[j]).toNat = n := hn
  refine ⟨i, hi, ?_⟩
  rw [e]
  refine ⟨by omega, j, hj', ?_⟩
  have e2 : (ps[i]).right.getD j 0 = (ps[i]).right[j] := by simp [List.getD, hj']
  rw [e2]
  exact ⟨h0', by omega⟩
/-- what tells a name's fact -/
def SaysI (w : World) (F : Nat) (cap : Value) (N : Nat) (ps : List PrS) : Prop := ∀ (w' : World) (L : List Int) (v : Value) (n : Nat), n < N → LenL N L → IntsR w' v L → Below w.heap.size w w' → Calls Try.prog F #[v, .int .i64 n, cap] w' fun e w'' => e = .returned (.int .i64 (codeO (saysL ps (factO L) n))) ∧ Below w'.heap.size w' w''
def rdRow (w : World) (D : Nat) : List Int :=
  match w.heap[D]? with
  | some (.cells cs _ _) => cs.toList.map intOf
  | _ => []
theorem Row.rd {w : World} {D : Nat} {L : List Int} (h : Row w D L) : rdRow w D = L := by
  unfold Row at h
  unfold rdRow
  rw [h]
  simp only [intsA, List.map_map]
  have : (intOf ∘ fun z => Value.int .i64 z) = id := by funext z; rfl
  rw [this, List.map_id]
def anyV : Value → Nat
  | .slice _ 0 _ => 0
  | _ => 1
theorem anyV_pos (a : Option Addr) (n c : Nat) (h : n ≠ 0) : anyV (.slice a n c) = 1 := by
  cases n with
  | zero => exact absurd rfl h
  | succ k => rfl
/-- between rounds -/
structure LsI (w wr : World) (FB TB N : Nat) (cn : Nat → Nat) (ps : List PdR) (av : Value) (L qs : List Int) : Prop where
  row : Row wr FB L
  wk : WkI (prsS ps) N L fun n => (n : Int) ∈ qs
  ask : AskM wr FB av qs
  nms : ∀ x ∈ qs, 0 ≤ x ∧ x < N
  lnk : LinksM wr TB N (fun n => TB + 1 + n) cn (fun n k => k < N ∧ linkR ps ps.length k n)
/-- within a round -/
structure LrI (wo wr : World) (FB N : Nat) (ps : List PdR) (qs L0 : List Int) (j : Nat) (gv : Value) (L zs : List Int) : Prop where
  row : Row wr FB L
  wk : WkI (prsS ps) N L fun n => (n : Int) ∈ qs.drop j ∨ (n : Int) ∈ zs
  own : OwnI wr wo.heap.size gv zs
  mem : ∀ x ∈ zs, 0 ≤ x ∧ x < N
  len : zs.length ≤ j * 3000000
  dec : zs = [] ∨ rkL L < rkL L0
  le : rkL L ≤ rkL L0
  gr : wo.grownBy wr (some FB)
/-- while the names that rest on one are gone through -/
structure LmI (wo wr : World) (FB N : Nat) (ps : List PdR) (qs : List Int) (j : Nat) (gv : Value) (L zs : List Int) (left : Lit → Bool) (rr m : Nat) : Prop where
  row : Row wr FB L
  wk : WkI (prsS ps) N L fun n => (n : Int) ∈ qs.drop (j + 1) ∨ (n : Int) ∈ zs ∨ left (.int .i64 (n : Int)) = true
  own : OwnI wr wo.heap.size gv zs
  ne : gv.ownBlock ≠ some rr
  mem : ∀ x ∈ zs, 0 ≤ x ∧ x < N
  len : zs.length ≤ j * 3000000 + m
  gr : wo.grownBy wr (some FB)
theorem LsI.start {w wr : World} {FB TB N : Nat} {cn : Nat → Nat} {ps : List PdR} {av : Value} {L qs : List Int} (h : LsI w wr FB TB N cn ps av L qs) : LrI wr wr FB N ps qs L 0 (.slice none 0 0) L [] :=
  ⟨h.row, h.wk.weaken fun n _ hn => .inl (by simpa using hn), ⟨rfl, .inl ⟨rfl, rfl⟩⟩, fun x hx => by simp at hx, by simp, .inl rfl, Nat.le_refl _, grown_refl _ _⟩
theorem mem_drop_cons {qs : List Int} {j : Nat} (hj : j < qs.length) {x : Int} (h : x ∈ qs.drop j) : x = qs.getD j 0 ∨ x ∈ qs.drop (j + 1) := by
  rw [List.drop_eq_getElem_cons hj] at h
  rcases List.mem_cons.1 h with h | h
  · exact .inl (by rw [h]; simp [List.getD, hj])
  · exact .inr h
/-- a name that says nothing new -/
theorem LrI.same {wo wr w5 : World} {FB N : Nat} {ps : List PdR} {qs L0 : List Int} {j : Nat} {gv : Value} {L zs : List Int} (h : LrI wo wr FB N ps qs L0 j gv L zs) (hFB : FB < wo.heap.size) (hj : j < qs.length) {n : Nat} (hn : n < N) (hx : qs.getD j 0 = (n : Int)) (hb : Below wr.heap.size wr w5) (he : codeO (saysL (prsS ps) (factO L) n) = L.getD n 0) : LrI wo w5 FB N ps qs L0 (j + 1) gv L zs := by
  have hg := below_grownN hb
  refine ⟨h.row.grown hg (by simp), ?_, h.own.kept hg (by cases hq : gv.ownBlock <;> simp), h.mem, Nat.le_trans h.len (Nat.mul_le_mul_right _ (Nat.le_succ _)), h.dec, h.le, grown_more h.gr hg (fun g e => by simp at e)⟩
  refine h.wk.same (n := n) ?_ ?_
  · have e : L.getD n (-1) = L.getD n 0 := by simp [List.getD, h.wk.lens.len, hn]
    unfold factO
    rw [e, ← he, codeO_opt]
    rfl
  · intro m hm ho hne
    rcases ho with ho | ho
    · rcases mem_drop_cons hj ho with e | e
      · rw [hx] at e; exact absurd (by omega) hne
      · exact .inl e
    · exact .inr ho
/-- a name that says something new -/
theorem LrI.set {wo wr w5 w7 : World} {FB N : Nat} {ps : List PdR} {qs L0 : List Int} {j : Nat} {gv : Value} {L zs : List Int} (h : LrI wo wr FB N ps qs L0 j gv L zs) (hps : ∀ p ∈ ps, 0 ≤ p.left) (hFB : FB < wo.heap.size) (hj : j < qs.length) {n : Nat} (hn : n < N) (hx : qs.getD j 0 = (n : Int)) (hb : Below wr.heap.size wr w5) (hne : codeO (saysL (prsS ps) (factO L) n) ≠ L.getD n 0)
    (left : Lit → Bool) (hleft : ∀ k : Nat, k < N → linkR ps ps.length k n → left (.int .i64 (k : Int)) = true) (hg7 : (w5.setCell ⟨FB, n, none⟩ (.int .i64 (codeO (saysL (prsS ps) (factO L) n)))).grownBy w7 none) (rr : Nat) (hrr : wr.heap.size ≤ rr) :
    LmI wo w7 FB N ps qs j gv (L.set n (codeO (saysL (prsS ps) (factO L) n))) zs left rr 0 ∧ rkL (L.set n (codeO (saysL (prsS ps) (factO L) n))) < rkL L0 := by
  have hg := below_grownN hb
  have hrow5 : Row w5 FB L := h.row.grown hg (by simp)
  have hs6 := set_grown w5 FB n (.int .i64 (codeO (saysL (prsS ps) (factO L) n)))
  have hol : ∀ b, gv.ownBlock = some b → wo.heap.size ≤ b ∧ b < wr.heap.size := fun b hb => h.own.lt b hb
  have e : L.getD n (-1) = L.getD n 0 := by simp [List.getD, h.wk.lens.len, hn]
  have hown5 : OwnI w5 wo.heap.size gv zs := h.own.kept hg (by cases hq : gv.ownBlock <;> simp)
  have hown6 : OwnI (w5.setCell ⟨FB, n, none⟩ (.int .i64 (codeO (saysL (prsS ps) (factO L) n)))) wo.heap.size gv zs := hown5.kept hs6 (.inr fun e => by have := hol FB e; omega)
  refine ⟨⟨(hrow5.set n _).grown hg7 (by simp), ?_, hown6.kept hg7 (by cases hq : gv.ownBlock <;> simp), fun e => by have := hol _ e; omega, h.mem, Nat.le_trans h.len (Nat.le_add_right _ _), ?_⟩, ?_⟩
  · refine h.wk.set hn ?_ ?_
    · intro m hm ho hne
      rcases ho with ho | ho
      · rcases mem_drop_cons hj ho with e | e
        · rw [hx] at e; exact absurd (by omega) hne
        · exact .inl e
      · exact .inr (.inl ho)
    · intro m hm hd
      exact .inr (.inr (hleft m hm (dep_link ps hps m n hd)))
  · exact grown_more (grown_more (grown_more h.gr hg (fun g e => by simp at e)) hs6 (fun g e => .inr (by simpa using e.symm))) hg7 (fun g e => by simp at e)
  · have hr := says_range (prsS ps) (factO L) n
    have := rkL_set L n (codeO (saysL (prsS ps) (factO L) n)) (by rw [h.wk.lens.len]; exact hn) (rk_less (h.wk.lens.lo n) (h.wk.lens.hi n) hr.2 (h.wk.mono n hn) (by rw [e]; exact hne))
    have := h.le
    omega
/-- one of the names that rest on it -/
theorem LmI.step {wo wr w3 w9 : World} {FB N : Nat} {ps : List PdR} {qs : List Int} {j : Nat} {gv : Value} {L zs : List Int} {left : Lit → Bool} {rr m q g cap : Nat} {o : Obj} (h : LmI wo wr FB N ps qs j gv L zs left rr m) (hFB : FB < wo.heap.size) (hrr : wo.heap.size ≤ rr) (hrl : rr < wr.heap.size) (hq : q < N) (hg3 : wr.grownBy w3 (some rr))
    (hown : w9.ownsRow wo.heap.size 3 1 (.slice (some ⟨g, 0, none⟩) (zs.length + 1) cap) (zs.length + 1) (zs.map (Value.int .i64) ++ [.int .i64 (q : Int)])) (hg9 : (w3.alloc o).grownBy w9 gv.ownBlock) (hat : gv.ownBlock = some g ∨ g = w3.heap.size + 1) :
    LmI wo w9 FB N ps qs j (.slice (some ⟨g, 0, none⟩) (zs.length + 1) cap) L (zs ++ [(q : Int)]) (fun z => left z && !z.sameKey (.int .i64 (q : Int))) rr (m + 1) := by
  have hol : ∀ b, gv.ownBlock = some b → wo.heap.size ≤ b ∧ b < wr.heap.size := fun b hb => h.own.lt b hb
  have hgA : w3.grownBy (w3.alloc o) none := World.grownBy_alloc w3 o none
  have hs3 := hg3.size
  have g3 : wo.grownBy w3 (some FB) := grown_more h.gr hg3 (fun g e => .inl (by have h1 : rr = g := (by simpa using e); omega))
  have gA : wo.grownBy (w3.alloc o) (some FB) := grown_more g3 hgA (fun g e => by simp at e)
  have g9 : wo.grownBy w9 (some FB) := grown_more gA hg9 (fun g e => .inl (hol g e).1)
  refine ⟨?_, ?_, ?_, ?_, ?_, ?_, g9⟩
  · have r3 : Row w3 FB L := h.row.grown hg3 (fun e => by have : rr = FB := by simpa using e
                                                          omega)
    have rA : Row (w3.alloc o) FB L := r3.grown hgA (by simp)
    exact rA.grown hg9 (fun e => by have := hol FB e; omega)
  · refine h.wk.weaken fun n hn ho => ?_
    rcases ho with ho | ho | ho
    · exact .inl ho
    · exact .inr (.inl (by simp [ho]))
    · by_cases e : n = q
      · subst e; exact .inr (.inl (by simp))
      · refine .inr (.inr ?_)
        have : ¬ (n : Int) = (q : Int) := by omega
        simp [ho, Lit.sameKey, this]
  · show w9.ownsRow _ _ _ _ _ _
    simpa using hown
  · intro e
    have e' : g = rr := by simpa [Value.ownBlock] using e
    rcases hat with h1 | h1
    · exact h.ne (by rw [h1, e'])
    · omega
  · intro x hx
    rcases List.mem_append.1 hx with hx | hx
    · exact h.mem x hx
    · obtain rfl : x = (q : Int) := by simpa using hx
      omega
  · rw [List.length_append]; exact Nat.succ_le_succ h.len
theorem LmI.more {wo wr : World} {FB N : Nat} {ps : List PdR} {qs : List Int} {j : Nat} {gv : Value} {L zs : List Int} {left : Lit → Bool} {rr m m' : Nat} (h : LmI wo wr FB N ps qs j gv L zs left rr m) (hm : m ≤ m') : LmI wo wr FB N ps qs j gv L zs left rr m' := ⟨h.row, h.wk, h.own, h.ne, h.mem, Nat.le_trans h.len (Nat.add_le_add_left hm _), h.gr⟩
/-- they are all gone through -/
theorem LmI.done {wo wr : World} {FB N : Nat} {ps : List PdR} {qs L0 : List Int} {j : Nat} {gv : Value} {L zs : List Int} {left : Lit → Bool} {rr m : Nat} (h : LmI wo wr FB N ps qs j gv L zs left rr m) (hl : ∀ k, left k = false) (hm : m ≤ 3000000) (hrk : rkL L < rkL L0) : LrI wo wr FB N ps qs L0 (j + 1) gv L zs := by
  refine ⟨h.row, h.wk.weaken fun n hn ho => ?_, h.own, h.mem, Nat.le_trans h.len (by rw [Nat.succ_mul]; exact Nat.add_le_add_left hm _), .inr hrk, Nat.le_of_lt hrk, h.gr⟩
  rcases ho with ho | ho | ho
  · exact .inl ho
  · exact .inr ho
  · rw [hl] at ho; cases ho
/-- the next round -/
theorem LrI.next {w wo wr w8 w9 : World} {FB TB N : Nat} {cn : Nat → Nat} {ps : List PdR} {av gv v' : Value} {qs L0 L zs : List Int} (h : LrI wo wr FB N ps qs L0 qs.length gv L zs) (h0 : LsI w wo FB TB N cn ps av L0 qs) (hFT : FB < TB) (hg8 : wr.grownBy w8 gv.ownBlock) (hg9 : w8.grownBy w9 gv.ownBlock)
    (hask : AskM w9 FB v' (Lib.compact (zs.mergeSort fun x y => decide (x ≤ y)))) :
    LsI w w9 FB TB N cn ps v' L (Lib.compact (zs.mergeSort fun x y => decide (x ≤ y))) ∧ (Lib.compact (zs.mergeSort fun x y => decide (x ≤ y))).length ≤ N ∧ wo.grownBy w9 (some FB) ∧ 2 * rkL L + anyV v' < 2 * rkL L0 + 1 := by
  have hol : ∀ b, gv.ownBlock = some b → wo.heap.size ≤ b ∧ b < wr.heap.size := fun b hb => h.own.lt b hb
  have hFl := h0.row.lt
  have hmem : ∀ x, x ∈ Lib.compact (zs.mergeSort fun x y => decide (x ≤ y)) ↔ x ∈ zs := fun x => (mem_compact _ x).trans (mem_sortI zs x)
  have hne : gv.ownBlock ≠ some FB := fun e => by have := hol FB e; omega
  have hg : wo.grownBy w9 (some FB) := grown_more (grown_more h.gr hg8 (fun g e => .inl (hol g e).1)) hg9 (fun g e => .inl (hol g e).1)
  have hnm : ∀ x ∈ Lib.compact (zs.mergeSort fun x y => decide (x ≤ y)), 0 ≤ x ∧ x < N := fun x hx => h.mem x ((hmem x).1 hx)
  refine ⟨⟨(h.row.grown hg8 hne).grown hg9 hne, ?_, hask, hnm, h0.lnk.grown hg (by omega) (fun n hn => by show TB + 1 + n ≠ FB; omega)⟩, ?_, hg, ?_⟩
  · refine h.wk.weaken fun n hn ho => ?_
    rcases ho with ho | ho
    · simp at ho
    · exact (hmem _).2 ho
  · have := strict_len _ 0 N (strict_compact _ (sorted_sortI zs)) hnm (by omega)
    omega
  · have hle := h.le
    rcases h.dec with e | e
    · obtain ⟨a, c, hv⟩ := hask.slice
      have : Lib.compact (zs.mergeSort fun x y => decide (x ≤ y)) = [] := by
        apply List.eq_nil_iff_forall_not_mem.2
        intro x hx
        have := (hmem x).1 hx
        rw [e] at this; simp at this
      rw [this] at hv
      rw [hv]
      show 2 * rkL L + 0 < _
      omega
    · have : anyV v' ≤ 1 := by unfold anyV; split <;> omega
      omega

end Go.Proofs.Ytbgnhegfabpjnaa
