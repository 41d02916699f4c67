/- Texts of the proof, put together: GLst, GWkT. -/
import Derived.Test.YtmkimaceioacgaaDoorGk09
import Derived.Test.YtmkimaceioacgaaDoorGk22
import Derived.Test.YtmkimaceioacgaaDoorGk23
namespace Go.Proofs.YtmkimaceioacgaaDoor
open Go.RowKit
set_option linter.unusedVariables false
set_option maxRecDepth 100000

theorem dep_link (ps : List PdR) (hl : ∀ p ∈ ps, 0 ≤ p.left) (m n : Nat) (h : Dep (prsS ps) m n) : linkR ps ps.length m n := by
  obtain ⟨p, hp, hm, s, hs, h0, hn⟩ := h
  obtain ⟨q, hq, rfl⟩ := List.mem_map.1 hp
  obtain ⟨i, hi, rfl⟩ := List.mem_iff_getElem.1 hq
  obtain ⟨j, hj, rfl⟩ := List.mem_iff_getElem.1 hs
  have h1 := hl _ hq
  have hm' : (ps[i]).left.toNat = m := hm
  have hj' : j < (ps[i]).right.length := hj
  have e : ps.getD i noPd = ps[i] := by simp [List.getD, hi]
  have h0' : (ps[i]).right[j] < 0 := h0
  have hn' : (-1 - (ps[i]).right[j]).toNat = n := hn
  refine ⟨i, hi, ?_⟩
  rw [e]
  refine ⟨by omega, j, hj', ?_⟩
  have e2 : (ps[i]).right.getD j 0 = (ps[i]).right[j] := by simp [List.getD, hj']
  rw [e2]
  exact ⟨h0', by omega⟩
/-- what tells a name's fact -/
def SaysI (w : World) (F : Nat) (cap : Value) (N : Nat) (ps : List PrS) : Prop := ∀ (w' : World) (L : List Int) (v : Value) (n : Nat), n < N → LenL N L → IntsR w' v L → Below w.heap.size w w' → Calls Tryd.prog F #[v, .int .i64 n, cap] w' fun e w'' => e = .returned (.int .i64 (codeO (saysL ps (factO L) n))) ∧ Below w'.heap.size w' w''
def rdRow (w : World) (D : Nat) : List Int :=
  match w.heap[D]? with
  | some (.cells cs _ _) => cs.toList.map intOf
  | _ => []
theorem Row.rd {w : World} {D : Nat} {L : List Int} (h : Row w D L) : rdRow w D = L := by
  unfold Row at h
  unfold rdRow
  rw [h]
  simp only [intsA, List.map_map]
  have : (intOf ∘ fun z => Value.int .i64 z) = id := by funext z; rfl
  rw [this, List.map_id]
/-- between rounds -/
structure LsI (w wr : World) (FB TB N : Nat) (cn : Nat → Nat) (ps : List PdR) (av : Value) (L qs : List Int) : Prop where
  row : Row wr FB L
  wk : WkI (prsS ps) N L fun n => (n : Int) ∈ qs
  ask : AskM wr FB av qs
  nms : ∀ x ∈ qs, 0 ≤ x ∧ x < N
  lnk : LinksM wr TB N (fun n => TB + 1 + n) cn (fun n k => k < N ∧ linkR ps ps.length k n)
/-- within a round -/
structure LrI (wo wr : World) (FB N : Nat) (ps : List PdR) (qs L0 : List Int) (j : Nat) (gv : Value) (L zs : List Int) : Prop where
  row : Row wr FB L
  wk : WkI (prsS ps) N L fun n => (n : Int) ∈ qs.drop j ∨ (n : Int) ∈ zs
  own : OwnI wr wo.heap.size gv zs
  mem : ∀ x ∈ zs, 0 ≤ x ∧ x < N
  len : zs.length ≤ j * 3000000
  dec : zs = [] ∨ rkL L < rkL L0
  le : rkL L ≤ rkL L0
  gr : wo.grownBy wr (some FB)
/-- while the names that rest on one are gone through -/
structure LmI (wo wr : World) (FB N : Nat) (ps : List PdR) (qs : List Int) (j : Nat) (gv : Value) (L zs : List Int) (left : Lit → Bool) (rr m : Nat) : Prop where
  row : Row wr FB L
  wk : WkI (prsS ps) N L fun n => (n : Int) ∈ qs.drop (j + 1) ∨ (n : Int) ∈ zs ∨ left (.int .i64 (n : Int)) = true
  own : OwnI wr wo.heap.size gv zs
  ne : gv.ownBlock ≠ some rr
  mem : ∀ x ∈ zs, 0 ≤ x ∧ x < N
  len : zs.length ≤ j * 3000000 + m
  gr : wo.grownBy wr (some FB)
theorem LsI.start {w wr : World} {FB TB N : Nat} {cn : Nat → Nat} {ps : List PdR} {av : Value} {L qs : List Int} (h : LsI w wr FB TB N cn ps av L qs) : LrI wr wr FB N ps qs L 0 (.slice none 0 0) L [] :=
  ⟨h.row, h.wk.weaken fun n _ hn => .inl (by simpa using hn), ⟨rfl, .inl ⟨rfl, rfl⟩⟩, fun x hx => by simp at hx, by simp, .inl rfl, Nat.le_refl _, grown_refl _ _⟩
/-- a name that says nothing new -/
theorem LrI.same {wo wr w5 : World} {FB N : Nat} {ps : List PdR} {qs L0 : List Int} {j : Nat} {gv : Value} {L zs : List Int} (h : LrI wo wr FB N ps qs L0 j gv L zs) (hFB : FB < wo.heap.size) (hj : j < qs.length) {n : Nat} (hn : n < N) (hx : qs.getD j 0 = (n : Int)) (hb : Below wr.heap.size wr w5) (he : codeO (saysL (prsS ps) (factO L) n) = L.getD n 0) : LrI wo w5 FB N ps qs L0 (j + 1) gv L zs := by
  have hg := below_grownN hb
  refine ⟨h.row.grown hg (by simp), ?_, h.own.kept hg (by cases hq : gv.ownBlock <;> simp), h.mem, Nat.le_trans h.len (Nat.mul_le_mul_right _ (Nat.le_succ _)), h.dec, h.le, grown_more h.gr hg (fun g e => by simp at e)⟩
  refine h.wk.same (n := n) ?_ ?_
  · have e : L.getD n (-1) = L.getD n 0 := by simp [List.getD, h.wk.lens.len, hn]
    unfold factO
    rw [e, ← he, codeO_opt]
    rfl
  · intro m hm ho hne
    rcases ho with ho | ho
    · rcases mem_drop_cons hj ho with e | e
      · rw [hx] at e; exact absurd (by omega) hne
      · exact .inl e
    · exact .inr ho
/-- a name that says something new -/
theorem LrI.set {wo wr w5 w7 : World} {FB N : Nat} {ps : List PdR} {qs L0 : List Int} {j : Nat} {gv : Value} {L zs : List Int} (h : LrI wo wr FB N ps qs L0 j gv L zs) (hps : ∀ p ∈ ps, 0 ≤ p.left) (hFB : FB < wo.heap.size) (hj : j < qs.length) {n : Nat} (hn : n < N) (hx : qs.getD j 0 = (n : Int)) (hb : Below wr.heap.size wr w5) (hne : codeO (saysL (prsS ps) (factO L) n) ≠ L.getD n 0)
    (left : Lit → Bool) (hleft : ∀ k : Nat, k < N → linkR ps ps.length k n → left (.int .i64 (k : Int)) = true) (hg7 : (w5.setCell ⟨FB, n, none⟩ (.int .i64 (codeO (saysL (prsS ps) (factO L) n)))).grownBy w7 none) (rr : Nat) (hrr : wr.heap.size ≤ rr) :
    LmI wo w7 FB N ps qs j gv (L.set n (codeO (saysL (prsS ps) (factO L) n))) zs left rr 0 ∧ rkL (L.set n (codeO (saysL (prsS ps) (factO L) n))) < rkL L0 := by
  have hg := below_grownN hb
  have hrow5 : Row w5 FB L := h.row.grown hg (by simp)
  have hs6 := set_grown w5 FB n (.int .i64 (codeO (saysL (prsS ps) (factO L) n)))
  have hol : ∀ b, gv.ownBlock = some b → wo.heap.size ≤ b ∧ b < wr.heap.size := fun b hb => h.own.lt b hb
  have e : L.getD n (-1) = L.getD n 0 := by simp [List.getD, h.wk.lens.len, hn]
  have hown5 : OwnI w5 wo.heap.size gv zs := h.own.kept hg (by cases hq : gv.ownBlock <;> simp)
  have hown6 : OwnI (w5.setCell ⟨FB, n, none⟩ (.int .i64 (codeO (saysL (prsS ps) (factO L) n)))) wo.heap.size gv zs := hown5.kept hs6 (.inr fun e => by have := hol FB e; omega)
  refine ⟨⟨(hrow5.set n _).grown hg7 (by simp), ?_, hown6.kept hg7 (by cases hq : gv.ownBlock <;> simp), fun e => by have := hol _ e; omega, h.mem, Nat.le_trans h.len (Nat.le_add_right _ _), ?_⟩, ?_⟩
  · refine h.wk.set hn ?_ ?_
    · intro m hm ho hne
      rcases ho with ho | ho
      · rcases mem_drop_cons hj ho with e | e
        · rw [hx] at e; exact absurd (by omega) hne
        · exact .inl e
      · exact .inr (.inl ho)
    · intro m hm hd
      exact .inr (.inr (hleft m hm (dep_link ps hps m n hd)))
  · exact grown_more (grown_more (grown_more h.gr hg (fun g e => by simp at e)) hs6 (fun g e => .inr (by simpa using e.symm))) hg7 (fun g e => by simp at e)
  · have hr := says_range (prsS ps) (factO L) n
    have := rkL_set L n (codeO (saysL (prsS ps) (factO L) n)) (by rw [h.wk.lens.len]; exact hn) (rk_less (h.wk.lens.lo n) (h.wk.lens.hi n) hr.2 (h.wk.mono n hn) (by rw [e]; exact hne))
    have := h.le
    omega
/-- one of the names that rest on it -/
theorem LmI.step {wo wr w3 w9 : World} {FB N : Nat} {ps : List PdR} {qs : List Int} {j : Nat} {gv : Value} {L zs : List Int} {left : Lit → Bool} {rr m q g cap : Nat} {o : Obj} (h : LmI wo wr FB N ps qs j gv L zs left rr m) (hFB : FB < wo.heap.size) (hrr : wo.heap.size ≤ rr) (hrl : rr < wr.heap.size) (hq : q < N) (hg3 : wr.grownBy w3 (some rr))
    (hown : w9.ownsRow wo.heap.size 3 1 (.slice (some ⟨g, 0, none⟩) (zs.length + 1) cap) (zs.length + 1) (zs.map (Value.int .i64) ++ [.int .i64 (q : Int)])) (hg9 : (w3.alloc o).grownBy w9 gv.ownBlock) (hat : gv.ownBlock = some g ∨ g = w3.heap.size + 1) :
    LmI wo w9 FB N ps qs j (.slice (some ⟨g, 0, none⟩) (zs.length + 1) cap) L (zs ++ [(q : Int)]) (fun z => left z && !z.sameKey (.int .i64 (q : Int))) rr (m + 1) := by
  have hol : ∀ b, gv.ownBlock = some b → wo.heap.size ≤ b ∧ b < wr.heap.size := fun b hb => h.own.lt b hb
  have hgA : w3.grownBy (w3.alloc o) none := World.grownBy_alloc w3 o none
  have hs3 := hg3.size
  have g3 : wo.grownBy w3 (some FB) := grown_more h.gr hg3 (fun g e => .inl (by have h1 : rr = g := (by simpa using e); omega))
  have gA : wo.grownBy (w3.alloc o) (some FB) := grown_more g3 hgA (fun g e => by simp at e)
  have g9 : wo.grownBy w9 (some FB) := grown_more gA hg9 (fun g e => .inl (hol g e).1)
  refine ⟨?_, ?_, ?_, ?_, ?_, ?_, g9⟩
  · have r3 : Row w3 FB L := h.row.grown hg3 (fun e => by have : rr = FB := by simpa using e
                                                          omega)
    have rA : Row (w3.alloc o) FB L := r3.grown hgA (by simp)
    exact rA.grown hg9 (fun e => by have := hol FB e; omega)
  · refine h.wk.weaken fun n hn ho => ?_
    rcases ho with ho | ho | ho
    · exact .inl ho
    · exact .inr (.inl (by simp [ho]))
    · by_cases e : n = q
      · subst e; exact .inr (.inl (by simp))
      · refine .inr (.inr ?_)
        have : ¬ (n : Int) = (q : Int) := by omega
        simp [ho, Lit.sameKey, this]
  · show w9.ownsRow _ _ _ _ _ _
    simpa using hown
  · intro e
    have e' : g = rr := by simpa [Value.ownBlock] using e
    rcases hat with h1 | h1
    · exact h.ne (by rw [h1, e'])
    · omega
  · intro x hx
    rcases List.mem_append.1 hx with hx | hx
    · exact h.mem x hx
    · obtain rfl : x = (q : Int) := by simpa using hx
      omega
  · rw [List.length_append]; exact Nat.succ_le_succ h.len
theorem LmI.more {wo wr : World} {FB N : Nat} {ps : List PdR} {qs : List Int} {j : Nat} {gv : Value} {L zs : List Int} {left : Lit → Bool} {rr m m' : Nat} (h : LmI wo wr FB N ps qs j gv L zs left rr m) (hm : m ≤ m') : LmI wo wr FB N ps qs j gv L zs left rr m' := ⟨h.row, h.wk, h.own, h.ne, h.mem, Nat.le_trans h.len (Nat.add_le_add_left hm _), h.gr⟩
/-- they are all gone through -/
theorem LmI.done {wo wr : World} {FB N : Nat} {ps : List PdR} {qs L0 : List Int} {j : Nat} {gv : Value} {L zs : List Int} {left : Lit → Bool} {rr m : Nat} (h : LmI wo wr FB N ps qs j gv L zs left rr m) (hl : ∀ k, left k = false) (hm : m ≤ 3000000) (hrk : rkL L < rkL L0) : LrI wo wr FB N ps qs L0 (j + 1) gv L zs := by
  refine ⟨h.row, h.wk.weaken fun n hn ho => ?_, h.own, h.mem, Nat.le_trans h.len (by rw [Nat.succ_mul]; exact Nat.add_le_add_left hm _), .inr hrk, Nat.le_of_lt hrk, h.gr⟩
  rcases ho with ho | ho | ho
  · exact .inl ho
  · exact .inr ho
  · rw [hl] at ho; cases ho
/-- the next round -/
theorem LrI.next {w wo wr w8 w9 : World} {FB TB N : Nat} {cn : Nat → Nat} {ps : List PdR} {av gv v' : Value} {qs L0 L zs : List Int} (h : LrI wo wr FB N ps qs L0 qs.length gv L zs) (h0 : LsI w wo FB TB N cn ps av L0 qs) (hFT : FB < TB) (hg8 : wr.grownBy w8 gv.ownBlock) (hg9 : w8.grownBy w9 gv.ownBlock)
    (hask : AskM w9 FB v' (Lib.compact (zs.mergeSort fun x y => decide (x ≤ y)))) :
    LsI w w9 FB TB N cn ps v' L (Lib.compact (zs.mergeSort fun x y => decide (x ≤ y))) ∧ (Lib.compact (zs.mergeSort fun x y => decide (x ≤ y))).length ≤ N ∧ wo.grownBy w9 (some FB) ∧ 2 * rkL L + anyV v' < 2 * rkL L0 + 1 := by
  have hol : ∀ b, gv.ownBlock = some b → wo.heap.size ≤ b ∧ b < wr.heap.size := fun b hb => h.own.lt b hb
  have hFl := h0.row.lt
  have hmem : ∀ x, x ∈ Lib.compact (zs.mergeSort fun x y => decide (x ≤ y)) ↔ x ∈ zs := fun x => (mem_compact _ x).trans (mem_sortI zs x)
  have hne : gv.ownBlock ≠ some FB := fun e => by have := hol FB e; omega
  have hg : wo.grownBy w9 (some FB) := grown_more (grown_more h.gr hg8 (fun g e => .inl (hol g e).1)) hg9 (fun g e => .inl (hol g e).1)
  have hnm : ∀ x ∈ Lib.compact (zs.mergeSort fun x y => decide (x ≤ y)), 0 ≤ x ∧ x < N := fun x hx => h.mem x ((hmem x).1 hx)
  refine ⟨⟨(h.row.grown hg8 hne).grown hg9 hne, ?_, hask, hnm, h0.lnk.grown hg (by omega) (fun n hn => by show TB + 1 + n ≠ FB; omega)⟩, ?_, hg, ?_⟩
  · refine h.wk.weaken fun n hn ho => ?_
    rcases ho with ho | ho
    · simp at ho
    · exact (hmem _).2 ho
  · have := strict_len _ 0 N (strict_compact _ (sorted_sortI zs)) hnm (by omega)
    omega
  · have hle := h.le
    rcases h.dec with e | e
    · obtain ⟨a, c, hv⟩ := hask.slice
      have : Lib.compact (zs.mergeSort fun x y => decide (x ≤ y)) = [] := by
        apply List.eq_nil_iff_forall_not_mem.2
        intro x hx
        have := (hmem x).1 hx
        rw [e] at this; simp at this
      rw [this] at hv
      rw [hv]
      show 2 * rkL L + 0 < _
      omega
    · have : anyV v' ≤ 1 := by unfold anyV; split <;> omega
      omega

end Go.Proofs.YtmkimaceioacgaaDoor

namespace Go.Proofs.YtmkimaceioacgaaDoor
open Go.RowKit
set_option linter.unusedVariables false

def factF (L : List SF) (n : Nat) : SF := L.getD n .non
structure WkT (ps : List PdR) (N : Nat) (L : List SF) (opn : Nat → Prop) : Prop where
  len : L.length = N
  ok : ∀ n, OkS (factF L n)
  sound : SoundS (prsS ps) fun n => toldF (factF L n)
  mono : ∀ n, n < N → leF (sayT ps (factF L) n) (factF L n)
  closed : ∀ n, n < N → ¬ opn n → factF L n = sayT ps (factF L) n
theorem WkT.weaken {ps : List PdR} {N : Nat} {L : List SF} {o o' : Nat → Prop} (h : WkT ps N L o) (hw : ∀ n, n < N → o n → o' n) : WkT ps N L o' :=
  ⟨h.len, h.ok, h.sound, h.mono, fun n hn ho => h.closed n hn fun h' => ho (hw n hn h')⟩
theorem WkT.start (ps : List PdR) (N : Nat) (o : Nat → Prop) (ho : ∀ n, n < N → o n) : WkT ps N (List.replicate N .non) o := by
  have hf : ∀ n, factF (List.replicate N .non) n = .non := fun n => by
    unfold factF
    by_cases hn : n < N
    · simp [List.getD, hn]
    · simp [List.getD, List.getElem?_eq_none (show (List.replicate N SF.non).length ≤ n by simp; omega)]
  refine ⟨by simp, fun n l hl => by rw [hf] at hl; simp at hl, fun n => ⟨0, ?_⟩, fun n _ => by rw [hf]; exact leF.non _, fun n hn hno => absurd (ho n hn) hno⟩
  show leS _ (toldF (factF (List.replicate N .non) n))
  rw [hf]
  show leS _ none
  cases bestS (prsS ps) 0 n <;> trivial
theorem WkT.same {ps : List PdR} {N : Nat} {L : List SF} {o o' : Nat → Prop} (h : WkT ps N L o) {n : Nat} (he : factF L n = sayT ps (factF L) n) (hw : ∀ m, m < N → o m → m ≠ n → o' m) : WkT ps N L o' :=
  ⟨h.len, h.ok, h.sound, h.mono, fun m hm ho => by
    by_cases e : m = n
    · rw [e]; exact he
    · exact h.closed m hm fun h' => ho (hw m hm h' e)⟩
theorem factF_set {N : Nat} {L : List SF} (hl : L.length = N) {n : Nat} (hn : n < N) (a : SF) (m : Nat) : factF (L.set n a) m = if m = n then a else factF L m := by
  unfold factF
  by_cases e : m = n
  · rw [if_pos e, e]; simp [List.getD, hl, hn]
  · rw [if_neg e]
    simp only [List.getD]
    rw [List.getElem?_set_ne (Ne.symm e)]
theorem WkT.set {ps : List PdR} (hps : ∀ p ∈ ps, 0 ≤ p.left) (h3 : ∀ p ∈ ps, ∀ s ∈ p.right, s ≤ 300) {N : Nat} {L : List SF} {o o' : Nat → Prop} (h : WkT ps N L o) {n : Nat} (hn : n < N) (hw : ∀ m, m < N → o m → m ≠ n → o' m) (hd : ∀ m, m < N → Dep (prsS ps) m n → o' m) : WkT ps N (L.set n (sayT ps (factF L) n)) o' := by
  have hf := factF_set h.len hn (sayT ps (factF L) n)
  have hle : ∀ m, leF (factF (L.set n (sayT ps (factF L) n)) m) (factF L m) := fun m => by
    rw [hf]
    split
    · rename_i e; rw [e]; exact h.mono n hn
    · exact leF.refl _
  refine ⟨by rw [List.length_set]; exact h.len, fun m => ?_, fun m => ?_, fun m hm => ?_, fun m hm ho => ?_⟩
  · rw [hf]; split
    · exact sayT_ok h.ok h3 n
    · exact h.ok m
  · show ∃ k, leS _ (toldF (factF (L.set n (sayT ps (factF L) n)) m))
    rw [hf]; split
    · rename_i e
      rw [e]
      rcases sayT_of ps (factF L) n with e1 | ⟨p, hp, e1⟩
      · rw [e1]; exact ⟨0, by show leS _ none; cases bestS (prsS ps) 0 n <;> trivial⟩
      · rw [e1, rowF_told]
        obtain ⟨hp1, hp2⟩ := List.mem_filter.1 hp
        have hpn : p.left = (n : Int) := of_decide_eq_true hp2
        have := h.sound.step (List.mem_map.2 ⟨p, hp1, rfl⟩ : prS p ∈ prsS ps)
        have e2 : (prS p).left = n := by show p.left.toNat = n; omega
        rw [e2] at this
        exact this
    · exact h.sound m
  · have h1 := sayT_mono (ps := ps) hle m
    rw [hf]; split
    · rename_i e; rw [e] at h1 ⊢; exact h1
    · exact h1.trans (h.mono m hm)
  · have hsame : sayT ps (factF (L.set n (sayT ps (factF L) n))) m = sayT ps (factF L) m := by
      apply sayT_same
      intro p hp s hs hs0
      rw [hf, if_neg]
      intro e
      obtain ⟨hp1, hp2⟩ := List.mem_filter.1 hp
      have hpn : p.left = (m : Int) := of_decide_eq_true hp2
      exact ho (hd m hm ⟨prS p, List.mem_map.2 ⟨p, hp1, rfl⟩, by show p.left.toNat = m; omega, s, hs, hs0, e⟩)
    rw [hsame, hf]
    split
    · rename_i e; rw [e]
    · rename_i e
      exact h.closed m hm fun h' => ho (hw m hm h' e)
/-- at the end: closed -/
theorem WkT.final {ps : List PdR} (hps : ∀ p ∈ ps, 0 ≤ p.left) {N : Nat} {L : List SF} (h : WkT ps N L fun _ => False) (hN : ∀ p ∈ ps, p.left < N) : ClosedS (prsS ps) fun n => toldF (factF L n) := by
  intro q hq
  obtain ⟨p, hp, rfl⟩ := List.mem_map.1 hq
  have h0 := hps p hp
  have h1 := hN p hp
  have hc := h.closed p.left.toNat (by omega) (fun e => e)
  show leS (toldF (factF L p.left.toNat)) _
  rw [hc, sayT_told ps hps]
  exact saysS_le hq
def rkT (L : List SF) : Nat := (L.map rkF).sum
theorem rkT_set : ∀ (L : List SF) (n : Nat) (a : SF), n < L.length → rkF a < rkF (factF L n) → rkT (L.set n a) < rkT L
  | [], n, a, hn, _ => by simp at hn
  | x :: L, 0, a, _, h => by
    have : rkF a < rkF x := h
    show rkF a + rkT L < rkF x + rkT L
    omega
  | x :: L, n + 1, a, hn, h => by
    have := rkT_set L n a (by simpa using hn) h
    show rkF x + rkT (L.set n a) < rkF x + rkT L
    omega

/-- a sentence's bytes -/
def byteU (x : Int) : UInt8 := UInt8.ofNat x.toNat
def encL (l : List Int) : List UInt8 := l.flatMap fun x => [byteU (x / 256), byteU (x % 256)]
def encB (a : SF) : ByteArray := ⟨(encL (txF a)).toArray⟩
def sfV (a : SF) : Value := .agg #[.int .i64 (knF a), .string (encB a)]
def sfC (L : List SF) : List Value := L.flatMap fun a => [.int .i64 (knF a), .string (encB a)]
/-- sentences that fill a block -/
def RowS (w : World) (D : Nat) (L : List SF) : Prop := w.heap[D]? = some (.cells (sfC L).toArray 40 (0, 0))
theorem sfC_get : ∀ (L : List SF) (j : Nat), j < L.length → (sfC L)[j * 2]? = some (.int .i64 (knF (factF L j))) ∧ (sfC L)[j * 2 + 1]? = some (.string (encB (factF L j)))
  | [], j, h => by simp at h
  | a :: L, 0, _ => by simp [sfC, factF]
  | a :: L, j + 1, h => by
    have ih := sfC_get L j (by simpa using h)
    have e : sfC (a :: L) = .int .i64 (knF a) :: .string (encB a) :: sfC L := by simp [sfC]
    have e3 : factF (a :: L) (j + 1) = factF L j := by simp [factF]
    rw [e3, e, show (j + 1) * 2 = j * 2 + 1 + 1 by omega, show j * 2 + 1 + 1 + 1 = (j * 2 + 1) + 1 + 1 by omega]
    simpa only [List.getElem?_cons_succ] using ih
theorem sfC_set : ∀ (L : List SF) (j : Nat) (a : SF), j < L.length → ((sfC L).set (j * 2) (.int .i64 (knF a))).set (j * 2 + 1) (.string (encB a)) = sfC (L.set j a)
  | [], j, a, h => by simp at h
  | b :: L, 0, a, _ => by simp [sfC]
  | b :: L, j + 1, a, h => by
    have ih := sfC_set L j a (by simpa using h)
    have e : sfC (b :: L) = .int .i64 (knF b) :: .string (encB b) :: sfC L := by simp [sfC]
    have e2 : sfC ((b :: L).set (j + 1) a) = .int .i64 (knF b) :: .string (encB b) :: sfC (L.set j a) := by simp [sfC]
    rw [e, e2, ← ih, show (j + 1) * 2 = j * 2 + 1 + 1 by omega, show j * 2 + 1 + 1 + 1 = (j * 2 + 1) + 1 + 1 by omega]
    simp only [List.set_cons_succ]
theorem sfC_len (L : List SF) : (sfC L).length = L.length * 2 := by
  induction L with
  | nil => rfl
  | cons a L ih => simp [sfC] at ih ⊢; omega
theorem RowS.cell {w : World} {D : Nat} {L : List SF} (h : RowS w D L) {j : Nat} (hj : j < L.length) : w.cell? ⟨D, j * 2, none⟩ = some (.int .i64 (knF (factF L j))) ∧ w.cell? ⟨D, j * 2 + 1, none⟩ = some (.string (encB (factF L j))) := by
  unfold RowS at h
  have h2 := sfC_get L j hj
  exact ⟨by simpa [World.cell?, h] using h2.1, by simpa [World.cell?, h] using h2.2⟩
theorem RowS.lt {w : World} {D : Nat} {L : List SF} (h : RowS w D L) : D < w.heap.size := (Array.getElem?_eq_some_iff.1 h).1
theorem RowS.fz {w : World} {D : Nat} {L : List SF} (h : RowS w D L) (j : Nat) : w.frozen? ⟨D, j, none⟩ = false := by
  unfold RowS at h
  simp [World.frozen?, h]
theorem RowS.set {w : World} {D : Nat} {L : List SF} (h : RowS w D L) (j : Nat) (hj : j < L.length) (a : SF) : RowS ((w.setCell ⟨D, j * 2, none⟩ (.int .i64 (knF a))).setCell ⟨D, j * 2 + 1, none⟩ (.string (encB a))) D (L.set j a) := by
  unfold RowS at *
  rw [heap_setC _ _ _ _ _ _ (heap_setC _ _ _ _ _ _ h), ← sfC_set L j a hj]
  simp
theorem RowS.grown {w w' : World} {D : Nat} {L : List SF} {row : Option Nat} (h : RowS w D L) (hg : w.grownBy w' row) (hne : row ≠ some D) : RowS w' D L := (hg.block D h.lt (fun e => hne e.symm)).trans h
/-- a row of sentences, wherever it lies -/
def SntR (w : World) (v : Value) (L : List SF) : Prop := ∃ D c, v = .slice (some ⟨D, 0, none⟩) L.length c ∧ D < w.heap.size ∧ ∀ j, j < L.length → w.cell? ⟨D, j * 2, none⟩ = some (.int .i64 (knF (factF L j))) ∧ w.cell? ⟨D, j * 2 + 1, none⟩ = some (.string (encB (factF L j)))
theorem RowS.sents {w : World} {D : Nat} {L : List SF} (h : RowS w D L) : SntR w (.slice (some ⟨D, 0, none⟩) L.length L.length) L := ⟨D, _, rfl, h.lt, fun j hj => h.cell hj⟩
theorem SntR.below {w w' : World} {v : Value} {L : List SF} (h : SntR w v L) (hb : Below w.heap.size w w') : SntR w' v L := by
  obtain ⟨D, c, e, hD, hc⟩ := h
  exact ⟨D, c, e, Nat.lt_of_lt_of_le hD hb.size, fun j hj => ⟨(hb.cell (p := ⟨D, j * 2, none⟩) hD).trans (hc j hj).1, (hb.cell (p := ⟨D, j * 2 + 1, none⟩) hD).trans (hc j hj).2⟩⟩

end Go.Proofs.YtmkimaceioacgaaDoor
