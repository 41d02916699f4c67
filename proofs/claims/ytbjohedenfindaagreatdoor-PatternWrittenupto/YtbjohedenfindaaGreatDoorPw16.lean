/- Texts of the proof, put together: RTms. -/
import Derived.Test.YtbjohedenfindaaGreatDoorPw14
import Derived.Test.YtbjohedenfindaaGreatDoorPw15
namespace Go.Proofs.YtbjohedenfindaaGreatDoor
open Go.RowKit
set_option linter.unusedVariables false
set_option maxRecDepth 100000

theorem digC_any {W0 : World} (L : LibR W0) (s : ByteArray) : DigC W0 s := fun w R i o y h ho => rdigits_any L h ho y

theorem XR.other {W0 w w' : World} {R i o : Nat} {s : ByteArray} (h : XR W0 w R s i o) (hs : w.heap.size ≤ w'.heap.size) (hb : ∀ b, b = R ∨ b < 16 → w'.heap[b]? = w.heap[b]?) : XR W0 w' R s i o := by
  have henv : Env W0 w' := ⟨Nat.le_trans h.env.1 hs, fun k hk => (hb k (.inr hk)).trans (h.env.2 k hk)⟩
  rcases h with ⟨h, ho⟩ | h
  · obtain ⟨z, hz⟩ := h.at_
    exact .inl ⟨⟨henv, ⟨z, (hb R (.inl rfl)).trans hz⟩, h.r16, h.text, h.inn⟩, ho⟩
  · obtain ⟨i1, o1, te, pe, z, h1, h2, hz⟩ := h.at_
    exact .inr ⟨henv, ⟨i1, o1, te, pe, z, h1, h2, (hb R (.inl rfl)).trans hz⟩, h.r16, h.text⟩
theorem count_x {W0 w : World} (L : LibR W0) {R i o : Nat} {s : ByteArray} (h : XR W0 w R s i o) :
    Calls Tryz.prog 141 #[.pointer (some ⟨R, 0, none⟩)] w fun e w' => ∃ (z : Int) (j : Nat), e = .returned (.int .i64 z) ∧ -1000 ≤ z ∧ z ≤ 1000 ∧ w.grownBy w' (some R) ∧ XR W0 w' R s j o ∧ (BR W0 w' R s ∨ (SR W0 w R s i o ∧ countS s i = some (z, j))) ∧ (SR W0 w R s i o → BR W0 w' R s → BadR s (countS s i)) := by
  rcases h with ⟨h, ho⟩ | h
  · refine (rcount_any L h ho).mono ?_
    rintro e w' ⟨z, rfl, z0, z1, hg, (hB | ⟨j, h1, h2⟩), hn⟩
    · exact ⟨z, 0, rfl, z0, z1, hg, .inr hB, .inl hB, fun _ => hn⟩
    · exact ⟨z, j, rfl, z0, z1, hg, .inl ⟨h2, ho⟩, .inr ⟨h, h1⟩, fun _ => hn⟩
  · refine (rcount_bad L h).mono ?_
    rintro e w' ⟨rfl, hg, hB⟩
    exact ⟨0, 0, rfl, by omega, by omega, hg, .inr hB, .inl hB, fun hS => (sr_not_br hS h).elim⟩
theorem eat_x {W0 w : World} (L : LibR W0) {R i o : Nat} {s : ByteArray} (h : XR W0 w R s i o) (c : Int) (hc : 0 ≤ c) (hc1 : c < 128) :
    Calls Tryz.prog 45 #[.pointer (some ⟨R, 0, none⟩), .int .i64 c] w fun e w' => ∃ b : Bool, e = .returned (.bool b) ∧ w.grownBy w' (some R) ∧ ((b = true ∧ SR W0 w R s i o ∧ cpAt s i = c ∧ SR W0 w' R s (i + 1) o ∧ o ≤ 1000) ∨ (b = false ∧ XR W0 w' R s i o ∧ (BR W0 w' R s ∨ (SR W0 w R s i o ∧ cpAt s i ≠ c)) ∧ (SR W0 w R s i o → BR W0 w' R s → cpAt s i = -2))) := by
  rcases h with ⟨h, ho⟩ | h
  · by_cases he : cpAt s i = c
    · refine (eat_yes L h c hc he).mono ?_
      rintro e w' ⟨rfl, hg, hS⟩
      rw [(cp_eq_size he hc hc1).2] at hS
      exact ⟨true, rfl, hg, .inl ⟨rfl, h, he, hS, ho⟩⟩
    · refine (eat_no L h ho c hc he).mono ?_
      rintro e w' ⟨rfl, hg, ⟨h1, h2⟩ | ⟨h1, h2⟩⟩
      · exact ⟨false, rfl, hg, .inr ⟨rfl, .inl ⟨h2, ho⟩, .inr ⟨h, he⟩, fun _ hB => (sr_not_br h2 hB).elim⟩⟩
      · exact ⟨false, rfl, hg, .inr ⟨rfl, .inr h2, .inl h2, fun _ _ => h1⟩⟩
  · refine (eat_bad h c hc).mono ?_
    rintro e w' ⟨rfl, n, rfl⟩
    have hB := h.kept (grown_drewN w n none)
    exact ⟨false, rfl, grown_drewN w n (some R), .inr ⟨rfl, .inr hB, .inl hB, fun hS => (sr_not_br hS h).elim⟩⟩
theorem now_x {W0 w : World} (L : LibR W0) {R i o : Nat} {s : ByteArray} (h : XR W0 w R s i o) :
    Calls Tryz.prog 74 #[.pointer (some ⟨R, 0, none⟩)] w fun e w' => ∃ c : Int, e = .returned (.int .i64 c) ∧ -1 ≤ c ∧ c ≤ 1114111 ∧ w.grownBy w' (some R) ∧ XR W0 w' R s i o ∧ ((BR W0 w' R s ∧ c = -1) ∨ (SR W0 w R s i o ∧ c = cpAt s i ∧ SR W0 w' R s i o)) ∧ (SR W0 w R s i o → BR W0 w' R s → cpAt s i = -2) := by
  rcases h with ⟨h, ho⟩ | h
  · refine (now_any L h ho).mono ?_
    rintro e w' ⟨hg, ⟨h1, rfl, h3⟩ | ⟨h1, rfl, h3⟩⟩
    · exact ⟨_, rfl, by have := cp_range s i; omega, (cp_range s i).2, hg, .inl ⟨h3, ho⟩, .inr ⟨h, rfl, h3⟩, fun _ hB => (sr_not_br h3 hB).elim⟩
    · exact ⟨_, rfl, by omega, by omega, hg, .inr h3, .inl ⟨h3, rfl⟩, fun _ _ => h1⟩
  · refine (now_bad h).mono ?_
    rintro e w' ⟨rfl, n, rfl⟩
    have hB := h.kept (grown_drewN w n none)
    exact ⟨-1, rfl, by omega, by omega, grown_drewN w n (some R), .inr hB, .inl ⟨hB, rfl⟩, fun hS => (sr_not_br hS h).elim⟩
theorem need_x {W0 w : World} (L : LibR W0) {R i o : Nat} {s : ByteArray} (h : XR W0 w R s i o) (c : Int) (hc : 0 ≤ c) (hc1 : c < 128) :
    Calls Tryz.prog 142 #[.pointer (some ⟨R, 0, none⟩), .int .i64 c] w fun e w' => e = .returned (.tuple #[]) ∧ w.grownBy w' (some R) ∧ (BR W0 w' R s ∨ (SR W0 w R s i o ∧ cpAt s i = c ∧ SR W0 w' R s (i + 1) o)) ∧ (SR W0 w R s i o → BR W0 w' R s → cpAt s i ≠ c) := by
  rcases h with ⟨h, ho⟩ | h
  · refine (need_any L h ho c hc).mono ?_
    rintro e w' ⟨h1, h2, (h3 | ⟨h3, h4⟩), h5⟩
    · exact ⟨h1, h2, .inl h3, fun _ => h5⟩
    · rw [(cp_eq_size h3 hc hc1).2] at h4
      exact ⟨h1, h2, .inr ⟨h, h3, h4⟩, fun _ => h5⟩
  · refine (need_bad L h c hc).mono ?_
    rintro e w' ⟨h1, h2, h3⟩
    exact ⟨h1, h2, .inl h3, fun hS => (sr_not_br hS h).elim⟩

/-- all but two blocks -/
structure Gr2 (R Q : Nat) (w w' : World) : Prop where
  os : w'.os = w.os
  tape : w'.tape = w.tape
  output : w'.output = w.output
  size : w.heap.size ≤ w'.heap.size
  block : ∀ b, b < w.heap.size → b ≠ R → b ≠ Q → w'.heap[b]? = w.heap[b]?
theorem Gr2.of {R Q : Nat} {w w' : World} (h : w.grownBy w' (some R)) : Gr2 R Q w w' := ⟨h.os, h.tape, h.output, h.size, fun b hb h1 _ => h.block b hb (by simpa using h1)⟩
theorem Gr2.trans {R Q : Nat} {w w1 w2 : World} (h : Gr2 R Q w w1) (h' : Gr2 R Q w1 w2) : Gr2 R Q w w2 :=
  ⟨h'.os.trans h.os, h'.tape.trans h.tape, h'.output.trans h.output, Nat.le_trans h.size h'.size, fun b hb h1 h2 => (h'.block b (Nat.lt_of_lt_of_le hb h.size) h1 h2).trans (h.block b hb h1 h2)⟩
theorem Gr2.set {R Q : Nat} (w : World) (k : Nat) (v : Value) : Gr2 R Q w (w.setCell ⟨Q, k, none⟩ v) :=
  ⟨rfl, rfl, rfl, by simp, fun b _ _ h => Below.heap_setCell _ _ _ _ (by simpa using h)⟩

/-- a repetition that is being read -/
def QAt (w : World) (Q : Nat) (sv kv : Value) (mn mx : Int) : Prop := w.heap[Q]? = some (.cells #[.int .i64 6, sv, .int .i64 mn, .int .i64 mx, kv] 48 (0, 0))
theorem QAt.cells {w : World} {Q : Nat} {sv kv : Value} {mn mx : Int} (h : QAt w Q sv kv mn mx) : w.cell? ⟨Q, 2, none⟩ = some (.int .i64 mn) ∧ w.cell? ⟨Q, 3, none⟩ = some (.int .i64 mx) ∧ w.frozen? ⟨Q, 2, none⟩ = false ∧ w.frozen? ⟨Q, 3, none⟩ = false ∧ Q < w.heap.size := by
  have h0 : w.heap[Q]? = some (.cells #[.int .i64 6, sv, .int .i64 mn, .int .i64 mx, kv] 48 (0, 0)) := h
  refine ⟨?_, ?_, ?_, ?_, (Array.getElem?_eq_some_iff.1 h0).1⟩ <;> simp [World.cell?, World.frozen?, h0]
theorem QAt.kept {w w' : World} {Q R : Nat} {sv kv : Value} {mn mx : Int} (h : QAt w Q sv kv mn mx) (hg : w.grownBy w' (some R)) (hne : Q ≠ R) : QAt w' Q sv kv mn mx := (hg.block Q h.cells.2.2.2.2 (by simpa using hne)).trans h
theorem QAt.set2 {w : World} {Q : Nat} {sv kv : Value} {mn mx : Int} (h : QAt w Q sv kv mn mx) (z : Int) : QAt (w.setCell ⟨Q, 2, none⟩ (.int .i64 z)) Q sv kv z mx := by
  have h0 : w.heap[Q]? = some (.cells #[.int .i64 6, sv, .int .i64 mn, .int .i64 mx, kv] 48 (0, 0)) := h
  show (w.setCell ⟨Q, 2, none⟩ (.int .i64 z)).heap[Q]? = _
  simp [World.setCell, Array.getElem?_modify, h0]
theorem QAt.set3 {w : World} {Q : Nat} {sv kv : Value} {mn mx : Int} (h : QAt w Q sv kv mn mx) (z : Int) : QAt (w.setCell ⟨Q, 3, none⟩ (.int .i64 z)) Q sv kv mn z := by
  have h0 : w.heap[Q]? = some (.cells #[.int .i64 6, sv, .int .i64 mn, .int .i64 mx, kv] 48 (0, 0)) := h
  show (w.setCell ⟨Q, 3, none⟩ (.int .i64 z)).heap[Q]? = _
  simp [World.setCell, Array.getElem?_modify, h0]
theorem XR.setQ {W0 w : World} {R i o Q k : Nat} {s : ByteArray} {v : Value} (h : XR W0 w R s i o) (hne : Q ≠ R) (hQ : 16 ≤ Q) : XR W0 (w.setCell ⟨Q, k, none⟩ v) R s i o :=
  h.other (by simp) fun b hb => Below.heap_setCell _ _ _ _ (by simp; omega)

/-- half way: what stands in the block, and where the reader is -/
structure TmI (W0 w0 w : World) (R Q : Nat) (s : ByteArray) (o j : Nat) (sv kv : Value) (mn mx : Int) : Prop where
  x : XR W0 w R s j o
  q : QAt w Q sv kv mn mx
  g : Gr2 R Q w0 w
theorem TmI.grown {W0 w0 w w' : World} {R Q o j j' : Nat} {s : ByteArray} {sv kv : Value} {mn mx : Int} (h : TmI W0 w0 w R Q s o j sv kv mn mx) (hne : Q ≠ R) (hg : w.grownBy w' (some R)) (hx : XR W0 w' R s j' o) : TmI W0 w0 w' R Q s o j' sv kv mn mx := ⟨hx, h.q.kept hg hne, h.g.trans (.of hg)⟩
theorem TmI.set2 {W0 w0 w : World} {R Q o j : Nat} {s : ByteArray} {sv kv : Value} {mn mx : Int} (h : TmI W0 w0 w R Q s o j sv kv mn mx) (hne : Q ≠ R) (hQ : 16 ≤ Q) (z : Int) : TmI W0 w0 (w.setCell ⟨Q, 2, none⟩ (.int .i64 z)) R Q s o j sv kv z mx := ⟨h.x.setQ hne hQ, h.q.set2 z, h.g.trans (.set _ _ _)⟩
theorem TmI.set3 {W0 w0 w : World} {R Q o j : Nat} {s : ByteArray} {sv kv : Value} {mn mx : Int} (h : TmI W0 w0 w R Q s o j sv kv mn mx) (hne : Q ≠ R) (hQ : 16 ≤ Q) (z : Int) : TmI W0 w0 (w.setCell ⟨Q, 3, none⟩ (.int .i64 z)) R Q s o j sv kv mn z := ⟨h.x.setQ hne hQ, h.q.set3 z, h.g.trans (.set _ _ _)⟩
theorem SR.not_br {W0 w : World} {R i o : Nat} {s : ByteArray} (h : SR W0 w R s i o) (hb : BR W0 w R s) : False := by
  have h1 := h.cell1.2
  obtain ⟨te, pe, h2⟩ := hb.cell3
  rw [h1] at h2
  simp at h2
/-- good so far, with what was read -/
theorem hist_step {W0 w w' : World} {R i o : Nat} {s : ByteArray} {H P : Prop} (h : BR W0 w R s ∨ H) (h' : BR W0 w' R s ∨ (SR W0 w R s i o ∧ P)) : BR W0 w' R s ∨ (H ∧ P) := by
  rcases h' with h' | ⟨h1, h2⟩
  · exact .inl h'
  · rcases h with h | h
    · exact absurd h fun hb => h1.not_br hb
    · exact .inr ⟨h, h2⟩
theorem br_setQ {W0 w : World} {R Q k : Nat} {s : ByteArray} {v : Value} {H : Prop} (h : BR W0 w R s ∨ H) (hne : Q ≠ R) (hQ : 16 ≤ Q) : BR W0 (w.setCell ⟨Q, k, none⟩ v) R s ∨ H := by
  rcases h with h | h
  · rcases (XR.setQ (i := 0) (o := 0) (k := k) (v := v) (.inr h) hne hQ) with ⟨h1, _⟩ | h1
    · exfalso
      obtain ⟨te, pe, h2⟩ := h.cell3
      have h3 := h1.cell1.2
      have e : (w.setCell ⟨Q, k, none⟩ v).heap[R]? = w.heap[R]? := Below.heap_setCell _ _ _ _ (by simp; omega)
      rw [World.cell?_of_block (a := ⟨R, 3, none⟩) e, h2] at h3
      simp at h3
    · exact .inl h1
  · exact .inr h

theorem grown_undrewN (w : World) (n : Nat) (row : Option Nat) : (w.drewN n).grownBy w row := ⟨rfl, rfl, rfl, Nat.le_refl _, fun _ _ _ => rfl⟩
theorem BR.other {W0 w w' : World} {R : Nat} {s : ByteArray} (h : BR W0 w R s) (hs : w.heap.size ≤ w'.heap.size) (hb : ∀ b, b = R ∨ b < 16 → w'.heap[b]? = w.heap[b]?) : BR W0 w' R s := by
  obtain ⟨i1, o1, te, pe, z, h1, h2, hz⟩ := h.at_
  exact ⟨⟨Nat.le_trans h.env.1 hs, fun k hk => (hb k (.inr hk)).trans (h.env.2 k hk)⟩, ⟨i1, o1, te, pe, z, h1, h2, (hb R (.inl rfl)).trans hz⟩, h.r16, h.text⟩
theorem br_unsetQ {W0 w : World} {R Q k : Nat} {s : ByteArray} {v : Value} (h : BR W0 (w.setCell ⟨Q, k, none⟩ v) R s) (hne : Q ≠ R) (hQ : 16 ≤ Q) : BR W0 w R s :=
  h.other (by simp) fun b hb => (Below.heap_setCell _ _ _ _ (by simp; omega)).symm
theorem sr_unsetQ {W0 w : World} {R Q k i o : Nat} {s : ByteArray} {v : Value} (h : SR W0 (w.setCell ⟨Q, k, none⟩ v) R s i o) (hne : Q ≠ R) (hQ : 16 ≤ Q) : SR W0 w R s i o := by
  have hb : ∀ b, b = R ∨ b < 16 → w.heap[b]? = (w.setCell ⟨Q, k, none⟩ v).heap[b]? := fun b hb => (Below.heap_setCell _ _ _ _ (by simp; omega)).symm
  obtain ⟨z, hz⟩ := h.at_
  exact ⟨⟨Nat.le_trans h.env.1 (by simp), fun k hk => (hb k (.inr hk)).trans (h.env.2 k hk)⟩, ⟨z, (hb R (.inl rfl)).trans hz⟩, h.r16, h.text, h.inn⟩
theorem count_none {s : ByteArray} {i : Nat} (h : cpAt s i = -2) : countS s i = none := by
  have hd : isDig s (i + 0) = false := by
    rw [← Bool.not_eq_true, cp_dig]
    simp only [Nat.add_zero]
    omega
  have := digRun_of s s.size i 0 (Nat.zero_le _) (fun j hj => by omega) hd
  unfold countS
  rw [if_pos (.inl this)]
theorem times_none1 {s : ByteArray} {i : Nat} (h : BadR s (countS s i)) : timesS s i = none := by
  rcases h with h | ⟨z, j, h, hj⟩
  · unfold timesS; rw [h]
  · unfold timesS; rw [h]; simp only; rw [if_neg (by omega), if_pos (.inl (by omega))]
theorem times_none2 {s : ByteArray} {i j : Nat} {z : Int} (h : countS s i = some (z, j)) (h44 : cpAt s j = 44) (h125 : cpAt s (j + 1) ≠ 125) (hb : BadR s (countS s (j + 1))) : timesS s i = none := by
  unfold timesS
  rw [h]; simp only; rw [if_pos h44, if_neg h125]
  rcases hb with hb | ⟨z2, k, hb, hk⟩
  · rw [hb]
  · rw [hb]; simp only; rw [if_pos (.inr (.inr (by omega)))]
theorem times_none3 {s : ByteArray} {i j k : Nat} {z z2 : Int} (h : countS s i = some (z, j)) (h44 : cpAt s j = 44) (h125 : cpAt s (j + 1) ≠ 125) (h2 : countS s (j + 1) = some (z2, k)) (hc : z2 < z ∨ z2 < 1 ∨ cpAt s k ≠ 125) : timesS s i = none := by
  unfold timesS
  rw [h]; simp only; rw [if_pos h44, if_neg h125, h2]; simp only; rw [if_pos hc]
theorem times_none4 {s : ByteArray} {i j : Nat} {z : Int} (h : countS s i = some (z, j)) (h44 : cpAt s j ≠ 44) (hc : cpAt s j ≠ 125 ∨ z < 1) : timesS s i = none := by
  unfold timesS
  rw [h]; simp only; rw [if_neg h44, if_pos hc]

/-- what times leaves -/
def TmQ (W0 w0 : World) (R Q : Nat) (s : ByteArray) (i o : Nat) (sv kv : Value) (w' : World) : Prop := ∃ mn mx, QAt w' Q sv kv mn mx ∧ Gr2 R Q w0 w' ∧ (BR W0 w' R s ∨ ∃ j, timesS s i = some ((mn, mx), j) ∧ SR W0 w' R s j o) ∧ (SR W0 w0 R s i o → BR W0 w' R s → timesS s i = none)
theorem times_ok {W0 w0 w : World} (L : LibR W0) {R Q i o k : Nat} {s : ByteArray} {sv kv : Value} {mn mx : Int} (hne : Q ≠ R) (h : TmI W0 w0 w R Q s o k sv kv mn mx) (hh : BR W0 w R s ∨ (cpAt s k = 125 → timesS s i = some ((mn, mx), k + 1))) (hn : SR W0 w0 R s i o → (BR W0 w R s → timesS s i = none) ∧ (SR W0 w R s k o → cpAt s k ≠ 125 → timesS s i = none)) :
    Calls Tryz.prog 142 #[.pointer (some ⟨R, 0, none⟩), .int .i64 125] w fun e w' => e = .returned (.tuple #[]) ∧ TmQ W0 w0 R Q s i o sv kv w' := by
  refine (need_x L h.x 125 (by omega) (by omega)).mono ?_
  rintro e w' ⟨h1, hg, h3, h4n⟩
  refine ⟨h1, mn, mx, h.q.kept hg hne, h.g.trans (.of hg), ?_, fun hS0 hB' => ?_⟩
  · rcases hist_step hh h3 with hB | ⟨h4, h5, h6⟩
    · exact .inl hB
    · exact .inr ⟨_, h4 h5, h6⟩
  · rcases h.x with ⟨hS, _⟩ | hB
    · exact (hn hS0).2 hS (h4n hS hB')
    · exact (hn hS0).1 hB
theorem times_fail {W0 w0 w : World} (L : LibR W0) {R Q i o k : Nat} {s : ByteArray} {sv kv : Value} {mn mx : Int} (hne : Q ≠ R) (h : TmI W0 w0 w R Q s o k sv kv mn mx) (te : TypeId) (pe : Value) (y : Int) (hN : SR W0 w0 R s i o → timesS s i = none) :
    Calls Tryz.prog 22 #[.pointer (some ⟨R, 0, none⟩), .iface te pe, .int .i64 y] w fun e w' => e = .returned (.tuple #[]) ∧ Hid (Calls Tryz.prog 142 #[.pointer (some ⟨R, 0, none⟩), .int .i64 125] w' fun e w'' => e = .returned (.tuple #[]) ∧ TmQ W0 w0 R Q s i o sv kv w'') := by
  refine (fail_any h.x te pe y).mono ?_
  rintro e w' ⟨h1, hg, hB⟩
  exact ⟨h1, times_ok L hne (h.grown hne hg (.inr hB) (j' := k)) (.inl hB) fun hS0 => ⟨fun _ => hN hS0, fun hS => (sr_not_br hS hB).elim⟩⟩
theorem TmI.drew {W0 w0 w : World} {R Q o j : Nat} {s : ByteArray} {sv kv : Value} {mn mx : Int} (h : TmI W0 w0 w R Q s o j sv kv mn mx) (hne : Q ≠ R) (n : Nat) : TmI W0 w0 (w.drewN n) R Q s o j sv kv mn mx := h.grown hne (grown_drewN w n (some R)) (h.x.kept (grown_drewN w n none))
theorem br_drew {W0 w : World} {R : Nat} {s : ByteArray} {H : Prop} (h : BR W0 w R s ∨ H) (n : Nat) : BR W0 (w.drewN n) R s ∨ H := h.elim (fun h => .inl (h.kept (grown_drewN w n none))) .inr

/-- how times fails: need comes behind it -/
def TmF (W0 w0 : World) (R Q : Nat) (s : ByteArray) (i o : Nat) (sv kv : Value) (te : TypeId) (pe : Value) (w : World) : Prop := ∀ n y, Calls Tryz.prog 22 #[.pointer (some ⟨R, 0, none⟩), .iface te pe, .int .i64 y] (w.drewN n) fun e w' => e = .returned (.tuple #[]) ∧ Hid (Calls Tryz.prog 142 #[.pointer (some ⟨R, 0, none⟩), .int .i64 125] w' fun e w'' => e = .returned (.tuple #[]) ∧ TmQ W0 w0 R Q s i o sv kv w'')
/-- the rest of times, behind the counts: from a world in which the block says mn and mx -/
structure TmT (W0 w0 w : World) (R Q : Nat) (s : ByteArray) (i o : Nat) (sv kv : Value) (mn mx : Int) : Prop where
  c2 : w.cell? ⟨Q, 2, none⟩ = some (.int .i64 mn)
  c3 : w.cell? ⟨Q, 3, none⟩ = some (.int .i64 mx)
  syn : ∃ te pe, w.cell? ⟨0, 0, none⟩ = some (.iface te pe) ∧ ((0 ≤ mx ∧ (mx < mn ∨ mx = 0)) → TmF W0 w0 R Q s i o sv kv te pe w)
  ok : ¬ (0 ≤ mx ∧ (mx < mn ∨ mx = 0)) → ∀ n, Calls Tryz.prog 142 #[.pointer (some ⟨R, 0, none⟩), .int .i64 125] (w.drewN n) fun e w' => e = .returned (.tuple #[]) ∧ TmQ W0 w0 R Q s i o sv kv w'
theorem TmI.rest {W0 w0 w : World} (L : LibR W0) {R Q i o k : Nat} {s : ByteArray} {sv kv : Value} {mn mx : Int} (hne : Q ≠ R) (h : TmI W0 w0 w R Q s o k sv kv mn mx) (hh : ¬ (0 ≤ mx ∧ (mx < mn ∨ mx = 0)) → BR W0 w R s ∨ (cpAt s k = 125 → timesS s i = some ((mn, mx), k + 1))) (hn1 : SR W0 w0 R s i o → BR W0 w R s → timesS s i = none) (hn2 : SR W0 w0 R s i o → SR W0 w R s k o → ((0 ≤ mx ∧ (mx < mn ∨ mx = 0)) → timesS s i = none) ∧ (¬ (0 ≤ mx ∧ (mx < mn ∨ mx = 0)) → cpAt s k ≠ 125 → timesS s i = none)) : TmT W0 w0 w R Q s i o sv kv mn mx := by
  obtain ⟨te, pe, cs⟩ := env_syn L h.x.env
  exact ⟨h.q.cells.1, h.q.cells.2.1, ⟨te, pe, cs, fun hc n y => times_fail L hne (h.drew hne n) te pe y fun hS0 => h.x.elim (fun hS => (hn2 hS0 hS.1).1 hc) fun hB => hn1 hS0 hB⟩, fun hg n => times_ok L hne (h.drew hne n) (br_drew (hh hg) n) fun hS0 => ⟨fun hB => hn1 hS0 (hB.kept (grown_undrewN w n none)), fun hS h5 => (hn2 hS0 (hS.kept (grown_undrewN w n none))).2 hg h5⟩⟩

end Go.Proofs.YtbjohedenfindaaGreatDoor
