/- What is known of sentences, by rounds of names that wait; and in memory. -/
import Derived.Test.YtbgnhegfabpjnaaGSnt
import Derived.Test.YtbgnhegfabpjnaaGLst
namespace Go.Proofs.Ytbgnhegfabpjnaa
open Go.RowKit
set_option linter.unusedVariables false

def factF (L : List SF) (n : Nat) : SF := L.getD n .non
structure WkT (ps : List PdR) (N : Nat) (L : List SF) (opn : Nat → Prop) : Prop where
  len : L.length = N
  ok : ∀ n, OkS (factF L n)
  sound : SoundS (prsS ps) fun n => toldF (factF L n)
  mono : ∀ n, n < N → leF (sayF ps (factF L) n) (factF L n)
  closed : ∀ n, n < N → ¬ opn n → factF L n = sayF ps (factF L) n
theorem WkT.weaken {ps : List PdR} {N : Nat} {L : List SF} {o o' : Nat → Prop} (h : WkT ps N L o) (hw : ∀ n, n < N → o n → o' n) : WkT ps N L o' :=
  ⟨h.len, h.ok, h.sound, h.mono, fun n hn ho => h.closed n hn fun h' => ho (hw n hn h')⟩
theorem WkT.start (ps : List PdR) (N : Nat) (o : Nat → Prop) (ho : ∀ n, n < N → o n) : WkT ps N (List.replicate N .non) o := by
  have hf : ∀ n, factF (List.replicate N .non) n = .non := fun n => by
    unfold factF
    by_cases hn : n < N
    · simp [List.getD, hn]
    · simp [List.getD, List.getElem?_eq_none (show (List.replicate N SF.non).length ≤ n by simp; omega)]
  refine ⟨by simp, fun n l hl => by rw [hf] at hl; simp at hl, fun n => ⟨0, ?_⟩, fun n _ => by rw [hf]; exact leF.non _, fun n hn hno => absurd (ho n hn) hno⟩
  show leS _ (toldF (factF (List.replicate N .non) n))
  rw [hf]
  show leS _ none
  cases bestS (prsS ps) 0 n <;> trivial
theorem WkT.same {ps : List PdR} {N : Nat} {L : List SF} {o o' : Nat → Prop} (h : WkT ps N L o) {n : Nat} (he : factF L n = sayF ps (factF L) n) (hw : ∀ m, m < N → o m → m ≠ n → o' m) : WkT ps N L o' :=
  ⟨h.len, h.ok, h.sound, h.mono, fun m hm ho => by
    by_cases e : m = n
    · rw [e]; exact he
    · exact h.closed m hm fun h' => ho (hw m hm h' e)⟩
theorem factF_set {N : Nat} {L : List SF} (hl : L.length = N) {n : Nat} (hn : n < N) (a : SF) (m : Nat) : factF (L.set n a) m = if m = n then a else factF L m := by
  unfold factF
  by_cases e : m = n
  · rw [if_pos e, e]; simp [List.getD, hl, hn]
  · rw [if_neg e]
    simp only [List.getD]
    rw [List.getElem?_set_ne (Ne.symm e)]
theorem WkT.set {ps : List PdR} (hps : ∀ p ∈ ps, 0 ≤ p.left) (h3 : ∀ p ∈ ps, ∀ s ∈ p.right, s ≤ 300) {N : Nat} {L : List SF} {o o' : Nat → Prop} (h : WkT ps N L o) {n : Nat} (hn : n < N) (hw : ∀ m, m < N → o m → m ≠ n → o' m) (hd : ∀ m, m < N → Dep (prsS ps) m n → o' m) : WkT ps N (L.set n (sayF ps (factF L) n)) o' := by
  have hf := factF_set h.len hn (sayF ps (factF L) n)
  have hle : ∀ m, leF (factF (L.set n (sayF ps (factF L) n)) m) (factF L m) := fun m => by
    rw [hf]
    split
    · rename_i e; rw [e]; exact h.mono n hn
    · exact leF.refl _
  refine ⟨by rw [List.length_set]; exact h.len, fun m => ?_, fun m => ?_, fun m hm => ?_, fun m hm ho => ?_⟩
  · rw [hf]; split
    · exact sayF_ok h.ok h3 n
    · exact h.ok m
  · show ∃ k, leS _ (toldF (factF (L.set n (sayF ps (factF L) n)) m))
    rw [hf]; split
    · rename_i e
      rw [e]
      rcases sayF_of ps (factF L) n with e1 | ⟨p, hp, e1⟩
      · rw [e1]; exact ⟨0, by show leS _ none; cases bestS (prsS ps) 0 n <;> trivial⟩
      · rw [e1, rowF_told]
        obtain ⟨hp1, hp2⟩ := List.mem_filter.1 hp
        have hpn : p.left = (n : Int) := of_decide_eq_true hp2
        have := h.sound.step (List.mem_map.2 ⟨p, hp1, rfl⟩ : prS p ∈ prsS ps)
        have e2 : (prS p).left = n := by show p.left.toNat = n; omega
        rw [e2] at this
        exact this
    · exact h.sound m
  · have h1 := sayF_mono (ps := ps) hle m
    rw [hf]; split
    · rename_i e; rw [e] at h1 ⊢; exact h1
    · exact h1.trans (h.mono m hm)
  · have hsame : sayF ps (factF (L.set n (sayF ps (factF L) n))) m = sayF ps (factF L) m := by
      apply sayF_same
      intro p hp s hs hs0
      rw [hf, if_neg]
      intro e
      obtain ⟨hp1, hp2⟩ := List.mem_filter.1 hp
      have hpn : p.left = (m : Int) := of_decide_eq_true hp2
      exact ho (hd m hm ⟨prS p, List.mem_map.2 ⟨p, hp1, rfl⟩, by show p.left.toNat = m; omega, s, hs, hs0, e⟩)
    rw [hsame, hf]
    split
    · rename_i e; rw [e]
    · rename_i e
      exact h.closed m hm fun h' => ho (hw m hm h' e)
/-- at the end: closed -/
theorem WkT.final {ps : List PdR} (hps : ∀ p ∈ ps, 0 ≤ p.left) {N : Nat} {L : List SF} (h : WkT ps N L fun _ => False) (hN : ∀ p ∈ ps, p.left < N) : ClosedS (prsS ps) fun n => toldF (factF L n) := by
  intro q hq
  obtain ⟨p, hp, rfl⟩ := List.mem_map.1 hq
  have h0 := hps p hp
  have h1 := hN p hp
  have hc := h.closed p.left.toNat (by omega) (fun e => e)
  show leS (toldF (factF L p.left.toNat)) _
  rw [hc, sayF_told ps hps]
  exact saysS_le hq
def rkT (L : List SF) : Nat := (L.map rkF).sum
theorem rkT_set : ∀ (L : List SF) (n : Nat) (a : SF), n < L.length → rkF a < rkF (factF L n) → rkT (L.set n a) < rkT L
  | [], n, a, hn, _ => by simp at hn
  | x :: L, 0, a, _, h => by
    have : rkF a < rkF x := h
    show rkF a + rkT L < rkF x + rkT L
    omega
  | x :: L, n + 1, a, hn, h => by
    have := rkT_set L n a (by simpa using hn) h
    show rkF x + rkT (L.set n a) < rkF x + rkT L
    omega

/-- a sentence's bytes -/
def byteU (x : Int) : UInt8 := UInt8.ofNat x.toNat
def encL (l : List Int) : List UInt8 := l.flatMap fun x => [byteU (x / 256), byteU (x % 256)]
def encB (a : SF) : ByteArray := ⟨(encL (txF a)).toArray⟩
def sfV (a : SF) : Value := .agg #[.int .i64 (knF a), .string (encB a)]
def sfC (L : List SF) : List Value := L.flatMap fun a => [.int .i64 (knF a), .string (encB a)]
/-- sentences that fill a block -/
def RowS (w : World) (D : Nat) (L : List SF) : Prop := w.heap[D]? = some (.cells (sfC L).toArray 35 (0, 0))
theorem sfC_get : ∀ (L : List SF) (j : Nat), j < L.length → (sfC L)[j * 2]? = some (.int .i64 (knF (factF L j))) ∧ (sfC L)[j * 2 + 1]? = some (.string (encB (factF L j)))
  | [], j, h => by simp at h
  | a :: L, 0, _ => by simp [sfC, factF]
  | a :: L, j + 1, h => by
    have ih := sfC_get L j (by simpa using h)
    have e : sfC (a :: L) = .int .i64 (knF a) :: .string (encB a) :: sfC L := by simp [sfC]
    have e3 : factF (a :: L) (j + 1) = factF L j := by simp [factF]
    rw [e3, e, show (j + 1) * 2 = j * 2 + 1 + 1 by omega, show j * 2 + 1 + 1 + 1 = (j * 2 + 1) + 1 + 1 by omega]
    simpa only [List.getElem?_cons_succ] using ih
theorem sfC_set : ∀ (L : List SF) (j : Nat) (a : SF), j < L.length → ((sfC L).set (j * 2) (.int .i64 (knF a))).set (j * 2 + 1) (.string (encB a)) = sfC (L.set j a)
  | [], j, a, h => by simp at h
  | b :: L, 0, a, _ => by simp [sfC]
  | b :: L, j + 1, a, h => by
    have ih := sfC_set L j a (by simpa using h)
    have e : sfC (b :: L) = .int .i64 (knF b) :: .string (encB b) :: sfC L := by simp [sfC]
    have e2 : sfC ((b :: L).set (j + 1) a) = .int .i64 (knF b) :: .string (encB b) :: sfC (L.set j a) := by simp [sfC]
    rw [e, e2, ← ih, show (j + 1) * 2 = j * 2 + 1 + 1 by omega, show j * 2 + 1 + 1 + 1 = (j * 2 + 1) + 1 + 1 by omega]
    simp only [List.set_cons_succ]
theorem sfC_len (L : List SF) : (sfC L).length = L.length * 2 := by
  induction L with
  | nil => rfl
  | cons a L ih => simp [sfC] at ih ⊢; omega
theorem RowS.cell {w : World} {D : Nat} {L : List SF} (h : RowS w D L) {j : Nat} (hj : j < L.length) : w.cell? ⟨D, j * 2, none⟩ = some (.int .i64 (knF (factF L j))) ∧ w.cell? ⟨D, j * 2 + 1, none⟩ = some (.string (encB (factF L j))) := by
  unfold RowS at h
  have h2 := sfC_get L j hj
  exact ⟨by simpa [World.cell?, h] using h2.1, by simpa [World.cell?, h] using h2.2⟩
theorem RowS.lt {w : World} {D : Nat} {L : List SF} (h : RowS w D L) : D < w.heap.size := (Array.getElem?_eq_some_iff.1 h).1
theorem RowS.fz {w : World} {D : Nat} {L : List SF} (h : RowS w D L) (j : Nat) : w.frozen? ⟨D, j, none⟩ = false := by
  unfold RowS at h
  simp [World.frozen?, h]
theorem RowS.set {w : World} {D : Nat} {L : List SF} (h : RowS w D L) (j : Nat) (hj : j < L.length) (a : SF) : RowS ((w.setCell ⟨D, j * 2, none⟩ (.int .i64 (knF a))).setCell ⟨D, j * 2 + 1, none⟩ (.string (encB a))) D (L.set j a) := by
  unfold RowS at *
  rw [heap_setC _ _ _ _ _ _ (heap_setC _ _ _ _ _ _ h), ← sfC_set L j a hj]
  simp
theorem RowS.grown {w w' : World} {D : Nat} {L : List SF} {row : Option Nat} (h : RowS w D L) (hg : w.grownBy w' row) (hne : row ≠ some D) : RowS w' D L := (hg.block D h.lt (fun e => hne e.symm)).trans h
/-- a row of sentences, wherever it lies -/
def SntR (w : World) (v : Value) (L : List SF) : Prop := ∃ D c, v = .slice (some ⟨D, 0, none⟩) L.length c ∧ D < w.heap.size ∧ ∀ j, j < L.length → w.cell? ⟨D, j * 2, none⟩ = some (.int .i64 (knF (factF L j))) ∧ w.cell? ⟨D, j * 2 + 1, none⟩ = some (.string (encB (factF L j)))
theorem RowS.sents {w : World} {D : Nat} {L : List SF} (h : RowS w D L) : SntR w (.slice (some ⟨D, 0, none⟩) L.length L.length) L := ⟨D, _, rfl, h.lt, fun j hj => h.cell hj⟩
theorem SntR.below {w w' : World} {v : Value} {L : List SF} (h : SntR w v L) (hb : Below w.heap.size w w') : SntR w' v L := by
  obtain ⟨D, c, e, hD, hc⟩ := h
  exact ⟨D, c, e, Nat.lt_of_lt_of_le hD hb.size, fun j hj => ⟨(hb.cell (p := ⟨D, j * 2, none⟩) hD).trans (hc j hj).1, (hb.cell (p := ⟨D, j * 2 + 1, none⟩) hD).trans (hc j hj).2⟩⟩

end Go.Proofs.Ytbgnhegfabpjnaa
