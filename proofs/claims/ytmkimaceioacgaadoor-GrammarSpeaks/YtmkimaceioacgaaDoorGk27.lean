/- Texts of the proof, put together: GChX, GSpO. -/
import Derived.Test.YtmkimaceioacgaaDoorGk26
import Derived.Test.YtmkimaceioacgaaDoorGk05
import Derived.Test.YtmkimaceioacgaaDoorGk09
import Derived.Test.YtmkimaceioacgaaDoorGk03
namespace Go.Proofs.YtmkimaceioacgaaDoor
open Go.RowKit
set_option linter.unusedVariables false
set_option maxRecDepth 100000

theorem TabM.keep {w w' : World} {D n m : Nat} {bl : Nat → Nat} {LL : Nat → List Bool} (h : TabM w D n m bl LL) (hs : w.heap.size ≤ w'.heap.size) (hD : w'.heap[D]? = w.heap[D]?) (hb : ∀ i, i < n → w'.heap[bl i]? = w.heap[bl i]?) : TabM w' D n m bl LL :=
  ⟨Nat.lt_of_lt_of_le h.lt hs, fun j hj => by have := h.at_ j hj; simp only [World.cell?] at this ⊢; rw [hD]; exact this, fun j hj => (hb j hj).trans (h.row j hj), h.len, h.inj, h.ne⟩
theorem TabM.blLt {w : World} {D n m : Nat} {bl : Nat → Nat} {LL : Nat → List Bool} (h : TabM w D n m bl LL) {i : Nat} (hi : i < n) : bl i < w.heap.size := (h.row i hi).lt

/-- where a table lies -/
structure TbE where
  D : Nat
  c : Nat
  bl : Nat → Nat
def tsV (M : Nat) (ts : List TbE) : List Value := ts.map fun t => .slice (some ⟨t.D, 0, none⟩) M t.c
def apT (M : Nat) (t u : TbE) : Prop := ∀ i j, i < M → j < M → t.bl i ≠ u.bl j ∧ t.bl i ≠ u.D ∧ t.D ≠ u.bl j
/-- tables, one behind the other -/
structure ChO (K : Nat) (wr : World) (M : Nat) (v : Value) (ts : List TbE) : Prop where
  own : wr.ownsRow K 51 1 v ts.length (tsV M ts)
  tab : ∀ t ∈ ts, TabM wr t.D M M t.bl (fun _ => List.replicate M false)
  low : ∀ t ∈ ts, K ≤ t.D ∧ ∀ i, i < M → K ≤ t.bl i
  ne : ∀ t ∈ ts, v.ownBlock ≠ some t.D ∧ ∀ i, i < M → v.ownBlock ≠ some (t.bl i)
  ap : ts.Pairwise (apT M)
theorem ChO.start (K M : Nat) (wr : World) : ChO K wr M (.slice none 0 0) [] := ⟨⟨rfl, .inl ⟨rfl, rfl⟩⟩, fun t ht => by simp at ht, fun t ht => by simp at ht, fun t ht => by simp at ht, List.Pairwise.nil⟩
theorem ChO.slice {K : Nat} {wr : World} {M : Nat} {v : Value} {ts : List TbE} (h : ChO K wr M v ts) : ∃ a c, v = .slice a ts.length c := by
  rcases h.own.2 with ⟨e, h0⟩ | ⟨g, cap, cur, e, _⟩
  · exact ⟨none, 0, by rw [e, h0]⟩
  · exact ⟨_, _, e⟩
theorem ChO.ownB {K : Nat} {wr w1 : World} {M : Nat} {v : Value} {ts : List TbE} (h : ChO K wr M v ts) (hb : Below wr.heap.size wr w1) (o : Obj) : (w1.alloc o).ownsRow K 51 1 v ts.length (tsV M ts) :=
  World.ownsRow.alloc (World.ownsRow.kept h.own (below_grownN hb) (by cases hq : v.ownBlock <;> simp)) o
theorem ChO.step {K : Nat} {wr w1 w9 : World} {M : Nat} {v : Value} {ts : List TbE} {D c : Nat} {bl : Nat → Nat} {g cap : Nat} {o : Obj} (h : ChO K wr M v ts) (hK : K ≤ wr.heap.size) (hM : 1 ≤ M) (hb : Below wr.heap.size wr w1) (ht : TabM w1 D M M bl (fun _ => List.replicate M false)) (hD : wr.heap.size ≤ D) (hbl : ∀ j, j < M → wr.heap.size ≤ bl j)
    (hown : w9.ownsRow K 51 1 (.slice (some ⟨g, 0, none⟩) (ts.length + 1) cap) (ts.length + 1) (tsV M ts ++ [.slice (some ⟨D, 0, none⟩) M c])) (hg9 : (w1.alloc o).grownBy w9 v.ownBlock) (hat : v.ownBlock = some g ∨ g = w1.heap.size + 1) :
    ChO K w9 M (.slice (some ⟨g, 0, none⟩) (ts.length + 1) cap) (ts ++ [⟨D, c, bl⟩]) := by
  have hol : ∀ b, v.ownBlock = some b → K ≤ b ∧ b < wr.heap.size := fun b hb => h.own.lt b hb
  have hs1 := hb.size
  have hA := alloc_below w1 o
  have hs2 := alloc_size w1 o
  have hblk : ∀ b, b < w1.heap.size → v.ownBlock ≠ some b → w9.heap[b]? = w1.heap[b]? := fun b hlt hne => (hg9.block b (by omega) (fun e => hne e.symm)).trans (hA.block b hlt)
  have hsz : w1.heap.size ≤ w9.heap.size := by have := hg9.size; omega
  have hold : ∀ t ∈ ts, t.D < wr.heap.size ∧ ∀ i, i < M → t.bl i < wr.heap.size := fun t htm => ⟨(h.tab t htm).lt, fun i hi => (h.tab t htm).blLt hi⟩
  have hnD : v.ownBlock ≠ some D := fun e => by have := hol D e; omega
  have hnb : ∀ i, i < M → v.ownBlock ≠ some (bl i) := fun i hi e => by have := hol _ e; have := hbl i hi; omega
  refine ⟨?_, fun t htm => ?_, fun t htm => ?_, fun t htm => ?_, ?_⟩
  · rw [List.length_append]
    unfold tsV at *
    rw [List.map_append]
    exact hown
  · rcases List.mem_append.1 htm with h1 | h1
    · have h2 := (h.tab t h1).below hb
      obtain ⟨a1, a2⟩ := hold t h1
      obtain ⟨b1, b2⟩ := h.ne t h1
      exact h2.keep hsz (hblk _ (by omega) b1) (fun i hi => hblk _ (by have := a2 i hi; omega) (b2 i hi))
    · obtain rfl : t = ⟨D, c, bl⟩ := by simpa using h1
      exact ht.keep hsz (hblk _ ht.lt hnD) (fun i hi => hblk _ (ht.blLt hi) (hnb i hi))
  · rcases List.mem_append.1 htm with h1 | h1
    · exact h.low t h1
    · obtain rfl : t = ⟨D, c, bl⟩ := by simpa using h1
      exact ⟨Nat.le_trans hK hD, fun i hi => Nat.le_trans hK (hbl i hi)⟩
  · have hg : ∀ b, (Value.slice (some ⟨g, 0, none⟩) (ts.length + 1) cap).ownBlock = some b → g = b := fun b e => by simpa [Value.ownBlock] using e
    rcases List.mem_append.1 htm with h1 | h1
    · obtain ⟨a1, a2⟩ := hold t h1
      obtain ⟨b1, b2⟩ := h.ne t h1
      refine ⟨fun e => ?_, fun i hi e => ?_⟩
      · have e' := hg _ e
        rcases hat with h2 | h2
        · exact b1 (by rw [h2, e'])
        · omega
      · have e' := hg _ e
        have := a2 i hi
        rcases hat with h2 | h2
        · exact b2 i hi (by rw [h2, e'])
        · omega
    · obtain rfl : t = ⟨D, c, bl⟩ := by simpa using h1
      refine ⟨fun e => ?_, fun i hi e => ?_⟩
      · have e' := hg _ e
        have h3 := ht.lt
        rcases hat with h2 | h2
        · exact hnD (by rw [h2, e'])
        · simp only at e'; omega
      · have e' := hg _ e
        have h3 := ht.blLt hi
        rcases hat with h2 | h2
        · exact hnb i hi (by rw [h2, e'])
        · simp only at e'; omega
  · refine List.pairwise_append.2 ⟨h.ap, List.pairwise_singleton _ _, fun t htm u hu i j hi hj => ?_⟩
    obtain rfl : u = ⟨D, c, bl⟩ := by simpa using hu
    obtain ⟨a1, a2⟩ := hold t htm
    have := a2 i hi
    have := hbl j hj
    simp only
    refine ⟨by omega, by omega, by omega⟩

/-- the chart in memory, of one's own -/
structure ChX (K : Nat) (w : World) (CD N M : Nat) (D cp : Nat → Nat) (bl : Nat → Nat → Nat) (C : Nat → Nat → List Bool) : Prop where
  m : ChM w CD N M D cp bl C
  low : ∀ n i, n < N → i < M → K ≤ bl n i
  cd : ∀ n i, n < N → i < M → bl n i ≠ CD
  ap : ∀ n m i, n < N → m < N → i < M → n ≠ m → bl n i ≠ D m ∧ ∀ j, j < M → bl n i ≠ bl m j
theorem ChX.below {K : Nat} {w w' : World} {CD N M : Nat} {D cp : Nat → Nat} {bl : Nat → Nat → Nat} {C : Nat → Nat → List Bool} (h : ChX K w CD N M D cp bl C) (hb : Below w.heap.size w w') : ChX K w' CD N M D cp bl C := ⟨h.m.below hb, h.low, h.cd, h.ap⟩
def setC (C : Nat → Nat → List Bool) (n i j : Nat) : Nat → Nat → List Bool := fun m => if m = n then (fun x => if x = i then (C n i).set j true else C n x) else C m
theorem setC_fact {C : Nat → Nat → List Bool} {n i j M : Nat} (hl : (C n i).length = M) (hj : j < M) (m x y : Nat) : factB (setC C n i j m x) y = if m = n ∧ x = i ∧ y = j then true else factB (C m x) y := by
  unfold setC
  by_cases e : m = n
  · subst e
    rw [if_pos rfl]
    by_cases e2 : x = i
    · subst e2
      rw [if_pos rfl, factB_set hl hj]
      by_cases e3 : y = j
      · rw [if_pos e3, if_pos ⟨rfl, rfl, e3⟩]
      · rw [if_neg e3, if_neg (fun h => e3 h.2.2)]
    · rw [if_neg e2, if_neg (fun h => e2 h.2.1)]
  · rw [if_neg e, if_neg (fun h => e h.1)]
theorem ChX.set {K : Nat} {w : World} {CD N M : Nat} {D cp : Nat → Nat} {bl : Nat → Nat → Nat} {C : Nat → Nat → List Bool} (h : ChX K w CD N M D cp bl C) {n i : Nat} (hn : n < N) (hi : i < M) (j : Nat) : ChX K (w.setCell ⟨bl n i, j, none⟩ (.bool true)) CD N M D cp bl (setC C n i j) := by
  have hblk : ∀ b, b ≠ bl n i → (w.setCell ⟨bl n i, j, none⟩ (.bool true)).heap[b]? = w.heap[b]? := fun b hb => Below.heap_setCell _ _ _ _ (by simpa using hb)
  refine ⟨⟨by simpa using h.m.lt, fun m hm => ?_, fun m hm => ?_⟩, h.low, h.cd, h.ap⟩
  · have := h.m.at_ m hm
    simp only [World.cell?] at this ⊢
    rw [hblk CD (fun e => h.cd n i hn hi e.symm)]
    exact this
  · by_cases e : m = n
    · subst e
      have := (h.m.tab m hm).set (k := j) hi true
      unfold setC
      rw [if_pos rfl]
      exact this
    · have h1 := h.ap n m i hn hm hi (fun e' => e e'.symm)
      unfold setC
      rw [if_neg e]
      exact (h.m.tab m hm).keep (by simp) (hblk _ (fun e' => h1.1 e'.symm)) (fun x hx => hblk _ (fun e' => h1.2 x hx e'.symm))
def noTb : TbE := ⟨0, 0, fun _ => 0⟩
theorem ChO.done {K : Nat} {wr : World} {M N CD c : Nat} {ts : List TbE} (h : ChO K wr M (.slice (some ⟨CD, 0, none⟩) N c) ts) (hl : ts.length = N) : ChX K wr CD N M (fun n => (ts.getD n noTb).D) (fun n => (ts.getD n noTb).c) (fun n => (ts.getD n noTb).bl) (fun _ _ => List.replicate M false) := by
  have hg : ∀ j (hj : j < N), ts.getD j noTb = ts[j]'(by omega) := fun j hj => by simp [List.getD, show j < ts.length by omega]
  have hm : ∀ j, j < N → ts.getD j noTb ∈ ts := fun j hj => by rw [hg j hj]; exact List.getElem_mem _
  have hob : (Value.slice (some ⟨CD, 0, none⟩) N c).ownBlock = some CD := rfl
  have hol := h.own.lt CD hob
  refine ⟨⟨hol.2, fun n hn => ?_, fun n hn => h.tab _ (hm n hn)⟩, fun n i hn hi => (h.low _ (hm n hn)).2 i hi, fun n i hn hi e => (h.ne _ (hm n hn)).2 i hi (by rw [hob, e]), fun n m i hn hm' hi hne => ?_⟩
  · have hv := h.own
    rw [hl] at hv
    rw [hv.cellAt n (by omega)]
    simp [tsV, List.getD, show n < ts.length by omega]
  · have hp := List.pairwise_iff_getElem.1 h.ap
    rw [hg n hn, hg m hm']
    rcases Nat.lt_trichotomy n m with h1 | h1 | h1
    · have := hp n m (by omega) (by omega) h1
      exact ⟨(this i i hi hi).2.1, fun j hj => (this i j hi hj).1⟩
    · exact absurd h1 hne
    · have := hp m n (by omega) (by omega) h1
      exact ⟨fun e => (this i i hi hi).2.2 e.symm, fun j hj e => (this j i hj hi).1 e.symm⟩

/-- how many names do not stand there yet -/
def cntC (f : Nat → Bool) : Nat → Nat
  | 0 => 0
  | n + 1 => cntC f n + (if f n = true then 0 else 1)
theorem cntC_le {f g : Nat → Bool} (h : ∀ n, f n = true → g n = true) : ∀ N, cntC g N ≤ cntC f N
  | 0 => Nat.le_refl _
  | n + 1 => by
    have ih := cntC_le h n
    unfold cntC
    by_cases e : f n = true
    · rw [if_pos e, if_pos (h n e)]; omega
    · rw [if_neg e]; split <;> omega
theorem cntC_lt {f g : Nat → Bool} (h : ∀ n, f n = true → g n = true) {k : Nat} (hf : f k = false) (hg : g k = true) : ∀ N, k < N → cntC g N < cntC f N
  | 0, hk => by omega
  | n + 1, hk => by
    have hle := cntC_le h n
    unfold cntC
    by_cases e : k = n
    · subst e
      rw [if_pos hg, if_neg (by rw [hf]; simp)]; omega
    · have ih := cntC_lt h hf hg n (by omega)
      by_cases e2 : f n = true
      · rw [if_pos e2, if_pos (h n e2)]; omega
      · rw [if_neg e2]; split <;> omega
/-- what the chart says, as a function -/
def chF (C : Nat → Nat → List Bool) (n i j : Nat) : Bool := factB (C n i) j
theorem ChI.start {ps : List PdR} {inp : List Int} {N M : Nat} : ChI ps inp N (chF (fun _ _ => List.replicate M false)) 0 0 := by
  have h0 : ∀ n i j, chF (fun _ _ => List.replicate M false) n i j = false := fun n i j => by
    unfold chF factB
    by_cases hj : j < M <;> simp [List.getD, hj]
  refine ⟨fun n i j _ h => ?_, fun n i j _ hj h hs => ?_⟩
  · rw [h0] at h; cases h
  · obtain ⟨u, hu⟩ := hs
    have := span_le u n i j hu
    omega
theorem ChI.put {ps : List PdR} {inp : List Int} {N M : Nat} {C : Nat → Nat → List Bool} {size from_ : Nat} (h : ChI ps inp N (chF C) size from_) {n i j : Nat} (hl : (C n i).length = M) (hj : j < M) (hs : stdP ps inp n i j) : ChI ps inp N (chF (setC C n i j)) size from_ := by
  have hf := setC_fact hl hj
  refine ⟨fun m x y hm hh => ?_, fun m x y hm hy hc hs' => ?_⟩
  · unfold chF at hh
    rw [hf] at hh
    by_cases e : m = n ∧ x = i ∧ y = j
    · obtain ⟨rfl, rfl, rfl⟩ := e; exact hs
    · rw [if_neg e] at hh; exact h.sound m x y hm hh
  · have := h.done m x y hm hy hc hs'
    unfold chF at this ⊢
    rw [hf]
    split
    · rfl
    · exact this
/-- the first productions say nothing more of a stretch -/
def ClC (ps : List PdR) (inp : List Int) (C : Nat → Nat → List Bool) (fr to : Nat) (k : Nat) : Prop := ∀ q n : Nat, q < k → q < ps.length → (ps.getD q noPd).left = (n : Int) → rowP inp (chB C) (ps.getD q noPd).right fr to → factB (C n fr) to = true

theorem rowP_monoN {inp : List Int} {N : Nat} {f g : Nat → Nat → Nat → Prop} : ∀ (r : List Int) (i j : Nat), (∀ k, k < r.length → -(N : Int) ≤ r.getD k 0) → (∀ n a b, n < N → f n a b → g n a b) → rowP inp f r i j → rowP inp g r i j
  | [], i, j, _, _, h => h
  | s :: r, i, j, hN, h, ⟨k, h1, h2, h3, h4⟩ => by
    refine ⟨k, h1, h2, ?_, rowP_monoN r k j (fun k hk => by simpa using hN (k + 1) (by simpa using hk)) h h4⟩
    have hs : -(N : Int) ≤ s := by simpa using hN 0 (by simp)
    unfold symP at h3 ⊢
    by_cases e : s < 0
    · rw [if_pos e] at h3 ⊢
      exact h _ i k (by omega) h3
    · rw [if_neg e] at h3 ⊢
      exact h3

end Go.Proofs.YtmkimaceioacgaaDoor

namespace Go.Proofs.YtmkimaceioacgaaDoor
open Go.RowKit
set_option linter.unusedVariables false
set_option maxRecDepth 100000

theorem allocAtO (w : World) (o : Obj) : (w.alloc o).heap[w.heap.size]? = some o := by
  show (w.heap.push o)[w.heap.size]? = some o
  simp
def oneG : Gm := ⟨1, 1, 0, [⟨0, [0], 0⟩], [], []⟩
theorem cellsAtO {w : World} {B : Nat} {cs : Array Value} {t : TypeId} (h : w.heap[B]? = some (.cells cs t)) (j : Nat) (v : Value) (hv : cs[j]? = some v) : w.cell? ⟨B, j, none⟩ = some v := by
  simp only [World.cell?, h]
  exact hv
set_option maxHeartbeats 4000000 in
theorem one_any (w : World) : Calls Tryd.prog 12 #[] w fun e w' => ∃ B, e = .returned (gv oneG (.slice (some ⟨B, 0, none⟩) 1 1) (.slice none 0 0) (.slice none 0 0)) ∧ GrM w' oneG (.slice (some ⟨B, 0, none⟩) 1 1) (.slice none 0 0) (.slice none 0 0) ∧ Below w.heap.size w w' := by
  have key : ∀ o1 o2 o3, ∃ W, W = (((w.alloc o1).alloc o2).alloc o3) ∧ W.heap[w.heap.size]? = some o1 ∧ W.heap[w.heap.size + 1]? = some o2 ∧ W.heap[w.heap.size + 1 + 1]? = some o3 ∧ Below w.heap.size w W := fun o1 o2 o3 => by
    refine ⟨_, rfl, ?_, ?_, ?_, ?_⟩
    · have a1 := allocAtO w o1
      have b1 := (alloc_below (w.alloc o1) o2).block w.heap.size (by rw [alloc_size]; omega)
      have b2 := (alloc_below ((w.alloc o1).alloc o2) o3).block w.heap.size (by rw [alloc_size, alloc_size]; omega)
      rw [b2, b1, a1]
    · have a1 := allocAtO (w.alloc o1) o2
      rw [alloc_size] at a1
      have b2 := (alloc_below ((w.alloc o1).alloc o2) o3).block (w.heap.size + 1) (by rw [alloc_size, alloc_size]; omega)
      rw [b2, a1]
    · have a1 := allocAtO ((w.alloc o1).alloc o2) o3
      rw [alloc_size, alloc_size] at a1
      exact a1
    · have b0 := alloc_below w o1
      have b1 := alloc_below (w.alloc o1) o2
      have b2 := alloc_below ((w.alloc o1).alloc o2) o3
      have s1 := alloc_size w o1
      have s2 := alloc_size (w.alloc o1) o2
      exact (b0.trans (b1.mono (by omega))).trans (b2.mono (by omega))
  go_enter Tryd.func12, Tryd.ntmps12
  go_wp2
  obtain ⟨W, hW, h0, h1, h2, hb⟩ := key (Obj.cells #[.int .i64 1, .int .i64 1, .int .i64 0, .slice (some ⟨w.heap.size + 1 + 1, 0, none⟩) 1 1, .slice none 0 0, .slice none 0 0] 25) (Obj.cells #[.int .i64 0] 3) (Obj.cells #[.int .i64 0, .slice (some ⟨w.heap.size + 1, 0, none⟩) 1 1, .int .i64 0] 38)
  rw [← hW]
  have c0 := cellsAtO h0 0 _ rfl
  have c1 := cellsAtO h0 1 _ rfl
  have c2 := cellsAtO h0 2 _ rfl
  have c3 := cellsAtO h0 3 _ rfl
  have c4 := cellsAtO h0 4 _ rfl
  have c5 := cellsAtO h0 5 _ rfl
  have hlt : w.heap.size + 1 + 1 < W.heap.size := (Array.getElem?_eq_some_iff.1 h2).1
  have HG : Hid (GrM W oneG (.slice (some ⟨w.heap.size + 1 + 1, 0, none⟩) 1 1) (.slice none 0 0) (.slice none 0 0)) := by
    refine ⟨⟨_, 1, rfl, .inr ⟨w.heap.size + 1 + 1, 0, rfl, hlt, fun j hj => ?_⟩⟩, ⟨none, 0, rfl, Nat.le_refl _, .inl rfl⟩, ⟨none, 0, rfl, Nat.le_refl _, .inl rfl⟩⟩
    obtain rfl : j = 0 := by
      have : j < 1 := hj
      omega
    refine ⟨.slice (some ⟨w.heap.size + 1, 0, none⟩) 1 1, cellsAtO h2 0 _ rfl, cellsAtO h2 1 _ rfl, cellsAtO h2 2 _ rfl, ⟨_, 1, rfl, Nat.le_refl _, .inr ⟨w.heap.size + 1, 0, rfl, by omega, fun j hj => ?_⟩⟩⟩
    obtain rfl : j = 0 := by
      have : j < 1 := hj
      omega
    exact cellsAtO h1 0 _ rfl
  clear key h0 h1 h2 hW
  refine bodyPost_ret (v := .agg #[.int .i64 1, .int .i64 1, .int .i64 0, .slice (some ⟨w.heap.size + 1 + 1, 0, none⟩) 1 1, .slice none 0 0, .slice none 0 0]) ?_ rfl ?_
  · simp [results, go_sem, c0, c1, c2, c3, c4, c5]
  · exact ⟨_, rfl, HG.out, hb⟩

end Go.Proofs.YtmkimaceioacgaaDoor
