/- Texts of the proof, put together: RTms, RTmsB, RPar. -/
import Derived.Test.YtbjohedenfindaaGreatDoorMg15
namespace Go.Proofs.YtbjohedenfindaaGreatDoor
open Go.RowKit
set_option linter.unusedVariables false
set_option maxRecDepth 100000

theorem digC_any {W0 : World} (L : LibC W0) (s : ByteArray) : DigC W0 s := fun w R i o y h ho => rdigits_any L h ho y

theorem XR.other {W0 w w' : World} {R i o : Nat} {s : ByteArray} (h : XR W0 w R s i o) (hs : w.heap.size ≤ w'.heap.size) (hb : ∀ b, b = R ∨ b < 16 → w'.heap[b]? = w.heap[b]?) : XR W0 w' R s i o := by
  have henv : Env W0 w' := ⟨Nat.le_trans h.env.1 hs, fun k hk => (hb k (.inr hk)).trans (h.env.2 k hk)⟩
  rcases h with ⟨h, ho⟩ | h
  · obtain ⟨z, hz⟩ := h.at_
    exact .inl ⟨⟨henv, ⟨z, (hb R (.inl rfl)).trans hz⟩, h.r16, h.text, h.inn⟩, ho⟩
  · obtain ⟨i1, o1, te, pe, z, h1, h2, hz⟩ := h.at_
    exact .inr ⟨henv, ⟨i1, o1, te, pe, z, h1, h2, (hb R (.inl rfl)).trans hz⟩, h.r16, h.text⟩
theorem count_x {W0 w : World} (L : LibC W0) {R i o : Nat} {s : ByteArray} (h : XR W0 w R s i o) :
    Calls Tryz.prog 141 #[.pointer (some ⟨R, 0, none⟩)] w fun e w' => ∃ (z : Int) (j : Nat), e = .returned (.int .i64 z) ∧ -1000 ≤ z ∧ z ≤ 1000 ∧ w.grownBy w' (some R) ∧ XR W0 w' R s j o ∧ (BR W0 w' R s ∨ (SR W0 w R s i o ∧ countS s i = some (z, j))) := by
  rcases h with ⟨h, ho⟩ | h
  · refine (rcount_any L h ho).mono ?_
    rintro e w' ⟨z, rfl, z0, z1, hg, hB | ⟨j, h1, h2⟩⟩
    · exact ⟨z, 0, rfl, z0, z1, hg, .inr hB, .inl hB⟩
    · exact ⟨z, j, rfl, z0, z1, hg, .inl ⟨h2, ho⟩, .inr ⟨h, h1⟩⟩
  · refine (rcount_bad L h).mono ?_
    rintro e w' ⟨rfl, hg, hB⟩
    exact ⟨0, 0, rfl, by omega, by omega, hg, .inr hB, .inl hB⟩
theorem eat_x {W0 w : World} (L : LibC W0) {R i o : Nat} {s : ByteArray} (h : XR W0 w R s i o) (c : Int) (hc : 0 ≤ c) (hc1 : c < 128) :
    Calls Tryz.prog 45 #[.pointer (some ⟨R, 0, none⟩), .int .i64 c] w fun e w' => ∃ b : Bool, e = .returned (.bool b) ∧ w.grownBy w' (some R) ∧ ((b = true ∧ SR W0 w R s i o ∧ cpAt s i = c ∧ SR W0 w' R s (i + 1) o ∧ o ≤ 1000) ∨ (b = false ∧ XR W0 w' R s i o ∧ (BR W0 w' R s ∨ (SR W0 w R s i o ∧ cpAt s i ≠ c)))) := by
  rcases h with ⟨h, ho⟩ | h
  · by_cases he : cpAt s i = c
    · refine (eat_yes L h c hc he).mono ?_
      rintro e w' ⟨rfl, hg, hS⟩
      rw [(cp_eq_size he hc hc1).2] at hS
      exact ⟨true, rfl, hg, .inl ⟨rfl, h, he, hS, ho⟩⟩
    · refine (eat_no L h ho c hc he).mono ?_
      rintro e w' ⟨rfl, hg, ⟨h1, h2⟩ | ⟨h1, h2⟩⟩
      · exact ⟨false, rfl, hg, .inr ⟨rfl, .inl ⟨h2, ho⟩, .inr ⟨h, he⟩⟩⟩
      · exact ⟨false, rfl, hg, .inr ⟨rfl, .inr h2, .inl h2⟩⟩
  · refine (eat_bad h c hc).mono ?_
    rintro e w' ⟨rfl, n, rfl⟩
    have hB := h.kept (grown_drewN w n none)
    exact ⟨false, rfl, grown_drewN w n (some R), .inr ⟨rfl, .inr hB, .inl hB⟩⟩
theorem now_x {W0 w : World} (L : LibC W0) {R i o : Nat} {s : ByteArray} (h : XR W0 w R s i o) :
    Calls Tryz.prog 74 #[.pointer (some ⟨R, 0, none⟩)] w fun e w' => ∃ c : Int, e = .returned (.int .i64 c) ∧ -1 ≤ c ∧ c ≤ 1114111 ∧ w.grownBy w' (some R) ∧ XR W0 w' R s i o ∧ ((BR W0 w' R s ∧ c = -1) ∨ (SR W0 w R s i o ∧ c = cpAt s i ∧ SR W0 w' R s i o)) := by
  rcases h with ⟨h, ho⟩ | h
  · refine (now_any L h ho).mono ?_
    rintro e w' ⟨hg, ⟨h1, rfl, h3⟩ | ⟨h1, rfl, h3⟩⟩
    · exact ⟨_, rfl, by have := cp_range s i; omega, (cp_range s i).2, hg, .inl ⟨h3, ho⟩, .inr ⟨h, rfl, h3⟩⟩
    · exact ⟨_, rfl, by omega, by omega, hg, .inr h3, .inl ⟨h3, rfl⟩⟩
  · refine (now_bad h).mono ?_
    rintro e w' ⟨rfl, n, rfl⟩
    have hB := h.kept (grown_drewN w n none)
    exact ⟨-1, rfl, by omega, by omega, grown_drewN w n (some R), .inr hB, .inl ⟨hB, rfl⟩⟩
theorem need_x {W0 w : World} (L : LibC W0) {R i o : Nat} {s : ByteArray} (h : XR W0 w R s i o) (c : Int) (hc : 0 ≤ c) (hc1 : c < 128) :
    Calls Tryz.prog 142 #[.pointer (some ⟨R, 0, none⟩), .int .i64 c] w fun e w' => e = .returned (.tuple #[]) ∧ w.grownBy w' (some R) ∧ (BR W0 w' R s ∨ (SR W0 w R s i o ∧ cpAt s i = c ∧ SR W0 w' R s (i + 1) o)) := by
  rcases h with ⟨h, ho⟩ | h
  · refine (need_any L h ho c hc).mono ?_
    rintro e w' ⟨h1, h2, h3 | ⟨h3, h4⟩⟩
    · exact ⟨h1, h2, .inl h3⟩
    · rw [(cp_eq_size h3 hc hc1).2] at h4
      exact ⟨h1, h2, .inr ⟨h, h3, h4⟩⟩
  · refine (need_bad L h c hc).mono ?_
    rintro e w' ⟨h1, h2, h3⟩
    exact ⟨h1, h2, .inl h3⟩

/-- all but two blocks -/
structure Gr2 (R Q : Nat) (w w' : World) : Prop where
  os : w'.os = w.os
  tape : w'.tape = w.tape
  output : w'.output = w.output
  size : w.heap.size ≤ w'.heap.size
  block : ∀ b, b < w.heap.size → b ≠ R → b ≠ Q → w'.heap[b]? = w.heap[b]?
theorem Gr2.of {R Q : Nat} {w w' : World} (h : w.grownBy w' (some R)) : Gr2 R Q w w' := ⟨h.os, h.tape, h.output, h.size, fun b hb h1 _ => h.block b hb (by simpa using h1)⟩
theorem Gr2.trans {R Q : Nat} {w w1 w2 : World} (h : Gr2 R Q w w1) (h' : Gr2 R Q w1 w2) : Gr2 R Q w w2 :=
  ⟨h'.os.trans h.os, h'.tape.trans h.tape, h'.output.trans h.output, Nat.le_trans h.size h'.size, fun b hb h1 h2 => (h'.block b (Nat.lt_of_lt_of_le hb h.size) h1 h2).trans (h.block b hb h1 h2)⟩
theorem Gr2.set {R Q : Nat} (w : World) (k : Nat) (v : Value) : Gr2 R Q w (w.setCell ⟨Q, k, none⟩ v) :=
  ⟨rfl, rfl, rfl, by simp, fun b _ _ h => Below.heap_setCell _ _ _ _ (by simpa using h)⟩

/-- a repetition that is being read -/
def QAt (w : World) (Q : Nat) (sv kv : Value) (mn mx : Int) : Prop := w.heap[Q]? = some (.cells #[.int .i64 6, sv, .int .i64 mn, .int .i64 mx, kv] 48 (0, 0))
theorem QAt.cells {w : World} {Q : Nat} {sv kv : Value} {mn mx : Int} (h : QAt w Q sv kv mn mx) : w.cell? ⟨Q, 2, none⟩ = some (.int .i64 mn) ∧ w.cell? ⟨Q, 3, none⟩ = some (.int .i64 mx) ∧ w.frozen? ⟨Q, 2, none⟩ = false ∧ w.frozen? ⟨Q, 3, none⟩ = false ∧ Q < w.heap.size := by
  have h0 : w.heap[Q]? = some (.cells #[.int .i64 6, sv, .int .i64 mn, .int .i64 mx, kv] 48 (0, 0)) := h
  refine ⟨?_, ?_, ?_, ?_, (Array.getElem?_eq_some_iff.1 h0).1⟩ <;> simp [World.cell?, World.frozen?, h0]
theorem QAt.kept {w w' : World} {Q R : Nat} {sv kv : Value} {mn mx : Int} (h : QAt w Q sv kv mn mx) (hg : w.grownBy w' (some R)) (hne : Q ≠ R) : QAt w' Q sv kv mn mx := (hg.block Q h.cells.2.2.2.2 (by simpa using hne)).trans h
theorem QAt.set2 {w : World} {Q : Nat} {sv kv : Value} {mn mx : Int} (h : QAt w Q sv kv mn mx) (z : Int) : QAt (w.setCell ⟨Q, 2, none⟩ (.int .i64 z)) Q sv kv z mx := by
  have h0 : w.heap[Q]? = some (.cells #[.int .i64 6, sv, .int .i64 mn, .int .i64 mx, kv] 48 (0, 0)) := h
  show (w.setCell ⟨Q, 2, none⟩ (.int .i64 z)).heap[Q]? = _
  simp [World.setCell, Array.getElem?_modify, h0]
theorem QAt.set3 {w : World} {Q : Nat} {sv kv : Value} {mn mx : Int} (h : QAt w Q sv kv mn mx) (z : Int) : QAt (w.setCell ⟨Q, 3, none⟩ (.int .i64 z)) Q sv kv mn z := by
  have h0 : w.heap[Q]? = some (.cells #[.int .i64 6, sv, .int .i64 mn, .int .i64 mx, kv] 48 (0, 0)) := h
  show (w.setCell ⟨Q, 3, none⟩ (.int .i64 z)).heap[Q]? = _
  simp [World.setCell, Array.getElem?_modify, h0]
theorem XR.setQ {W0 w : World} {R i o Q k : Nat} {s : ByteArray} {v : Value} (h : XR W0 w R s i o) (hne : Q ≠ R) (hQ : 16 ≤ Q) : XR W0 (w.setCell ⟨Q, k, none⟩ v) R s i o :=
  h.other (by simp) fun b hb => Below.heap_setCell _ _ _ _ (by simp; omega)

/-- half way: what stands in the block, and where the reader is -/
structure TmI (W0 w0 w : World) (R Q : Nat) (s : ByteArray) (o j : Nat) (sv kv : Value) (mn mx : Int) : Prop where
  x : XR W0 w R s j o
  q : QAt w Q sv kv mn mx
  g : Gr2 R Q w0 w
theorem TmI.grown {W0 w0 w w' : World} {R Q o j j' : Nat} {s : ByteArray} {sv kv : Value} {mn mx : Int} (h : TmI W0 w0 w R Q s o j sv kv mn mx) (hne : Q ≠ R) (hg : w.grownBy w' (some R)) (hx : XR W0 w' R s j' o) : TmI W0 w0 w' R Q s o j' sv kv mn mx := ⟨hx, h.q.kept hg hne, h.g.trans (.of hg)⟩
theorem TmI.set2 {W0 w0 w : World} {R Q o j : Nat} {s : ByteArray} {sv kv : Value} {mn mx : Int} (h : TmI W0 w0 w R Q s o j sv kv mn mx) (hne : Q ≠ R) (hQ : 16 ≤ Q) (z : Int) : TmI W0 w0 (w.setCell ⟨Q, 2, none⟩ (.int .i64 z)) R Q s o j sv kv z mx := ⟨h.x.setQ hne hQ, h.q.set2 z, h.g.trans (.set _ _ _)⟩
theorem TmI.set3 {W0 w0 w : World} {R Q o j : Nat} {s : ByteArray} {sv kv : Value} {mn mx : Int} (h : TmI W0 w0 w R Q s o j sv kv mn mx) (hne : Q ≠ R) (hQ : 16 ≤ Q) (z : Int) : TmI W0 w0 (w.setCell ⟨Q, 3, none⟩ (.int .i64 z)) R Q s o j sv kv mn z := ⟨h.x.setQ hne hQ, h.q.set3 z, h.g.trans (.set _ _ _)⟩
theorem SR.not_br {W0 w : World} {R i o : Nat} {s : ByteArray} (h : SR W0 w R s i o) (hb : BR W0 w R s) : False := by
  have h1 := h.cell1.2
  obtain ⟨te, pe, h2⟩ := hb.cell3
  rw [h1] at h2
  simp at h2
/-- good so far, with what was read -/
theorem hist_step {W0 w w' : World} {R i o : Nat} {s : ByteArray} {H P : Prop} (h : BR W0 w R s ∨ H) (h' : BR W0 w' R s ∨ (SR W0 w R s i o ∧ P)) : BR W0 w' R s ∨ (H ∧ P) := by
  rcases h' with h' | ⟨h1, h2⟩
  · exact .inl h'
  · rcases h with h | h
    · exact absurd h fun hb => h1.not_br hb
    · exact .inr ⟨h, h2⟩
theorem br_setQ {W0 w : World} {R Q k : Nat} {s : ByteArray} {v : Value} {H : Prop} (h : BR W0 w R s ∨ H) (hne : Q ≠ R) (hQ : 16 ≤ Q) : BR W0 (w.setCell ⟨Q, k, none⟩ v) R s ∨ H := by
  rcases h with h | h
  · rcases (XR.setQ (i := 0) (o := 0) (k := k) (v := v) (.inr h) hne hQ) with ⟨h1, _⟩ | h1
    · exfalso
      obtain ⟨te, pe, h2⟩ := h.cell3
      have h3 := h1.cell1.2
      have e : (w.setCell ⟨Q, k, none⟩ v).heap[R]? = w.heap[R]? := Below.heap_setCell _ _ _ _ (by simp; omega)
      rw [World.cell?_of_block (a := ⟨R, 3, none⟩) e, h2] at h3
      simp at h3
    · exact .inl h1
  · exact .inr h

/-- what times leaves -/
def TmQ (W0 w0 : World) (R Q : Nat) (s : ByteArray) (i o : Nat) (sv kv : Value) (w' : World) : Prop := ∃ mn mx, QAt w' Q sv kv mn mx ∧ Gr2 R Q w0 w' ∧ (BR W0 w' R s ∨ ∃ j, timesS s i = some ((mn, mx), j) ∧ SR W0 w' R s j o)
theorem times_ok {W0 w0 w : World} (L : LibC W0) {R Q i o k : Nat} {s : ByteArray} {sv kv : Value} {mn mx : Int} (hne : Q ≠ R) (h : TmI W0 w0 w R Q s o k sv kv mn mx) (hh : BR W0 w R s ∨ (cpAt s k = 125 → timesS s i = some ((mn, mx), k + 1))) :
    Calls Tryz.prog 142 #[.pointer (some ⟨R, 0, none⟩), .int .i64 125] w fun e w' => e = .returned (.tuple #[]) ∧ TmQ W0 w0 R Q s i o sv kv w' := by
  refine (need_x L h.x 125 (by omega) (by omega)).mono ?_
  rintro e w' ⟨h1, hg, h3⟩
  refine ⟨h1, mn, mx, h.q.kept hg hne, h.g.trans (.of hg), ?_⟩
  rcases hist_step hh h3 with hB | ⟨h4, h5, h6⟩
  · exact .inl hB
  · exact .inr ⟨_, h4 h5, h6⟩
theorem times_fail {W0 w0 w : World} (L : LibC W0) {R Q i o k : Nat} {s : ByteArray} {sv kv : Value} {mn mx : Int} (hne : Q ≠ R) (h : TmI W0 w0 w R Q s o k sv kv mn mx) (te : TypeId) (pe : Value) (y : Int) :
    Calls Tryz.prog 22 #[.pointer (some ⟨R, 0, none⟩), .iface te pe, .int .i64 y] w fun e w' => e = .returned (.tuple #[]) ∧ Hid (Calls Tryz.prog 142 #[.pointer (some ⟨R, 0, none⟩), .int .i64 125] w' fun e w'' => e = .returned (.tuple #[]) ∧ TmQ W0 w0 R Q s i o sv kv w'') := by
  refine (fail_any h.x te pe y).mono ?_
  rintro e w' ⟨h1, hg, hB⟩
  exact ⟨h1, times_ok L hne (h.grown hne hg (.inr hB) (j' := k)) (.inl hB)⟩
theorem TmI.drew {W0 w0 w : World} {R Q o j : Nat} {s : ByteArray} {sv kv : Value} {mn mx : Int} (h : TmI W0 w0 w R Q s o j sv kv mn mx) (hne : Q ≠ R) (n : Nat) : TmI W0 w0 (w.drewN n) R Q s o j sv kv mn mx := h.grown hne (grown_drewN w n (some R)) (h.x.kept (grown_drewN w n none))
theorem br_drew {W0 w : World} {R : Nat} {s : ByteArray} {H : Prop} (h : BR W0 w R s ∨ H) (n : Nat) : BR W0 (w.drewN n) R s ∨ H := h.elim (fun h => .inl (h.kept (grown_drewN w n none))) .inr

/-- the rest of times, behind the counts: from a world in which the block says mn and mx -/
structure TmT (W0 w0 w : World) (R Q : Nat) (s : ByteArray) (i o : Nat) (sv kv : Value) (mn mx : Int) : Prop where
  c2 : w.cell? ⟨Q, 2, none⟩ = some (.int .i64 mn)
  c3 : w.cell? ⟨Q, 3, none⟩ = some (.int .i64 mx)
  syn : ∃ te pe, w.cell? ⟨0, 0, none⟩ = some (.iface te pe) ∧ ∀ n y, Calls Tryz.prog 22 #[.pointer (some ⟨R, 0, none⟩), .iface te pe, .int .i64 y] (w.drewN n) fun e w' => e = .returned (.tuple #[]) ∧ Hid (Calls Tryz.prog 142 #[.pointer (some ⟨R, 0, none⟩), .int .i64 125] w' fun e w'' => e = .returned (.tuple #[]) ∧ TmQ W0 w0 R Q s i o sv kv w'')
  ok : ¬ (0 ≤ mx ∧ (mx < mn ∨ mx = 0)) → ∀ n, Calls Tryz.prog 142 #[.pointer (some ⟨R, 0, none⟩), .int .i64 125] (w.drewN n) fun e w' => e = .returned (.tuple #[]) ∧ TmQ W0 w0 R Q s i o sv kv w'
theorem TmI.rest {W0 w0 w : World} (L : LibC W0) {R Q i o k : Nat} {s : ByteArray} {sv kv : Value} {mn mx : Int} (hne : Q ≠ R) (h : TmI W0 w0 w R Q s o k sv kv mn mx) (hh : ¬ (0 ≤ mx ∧ (mx < mn ∨ mx = 0)) → BR W0 w R s ∨ (cpAt s k = 125 → timesS s i = some ((mn, mx), k + 1))) : TmT W0 w0 w R Q s i o sv kv mn mx := by
  obtain ⟨te, pe, cs⟩ := env_syn L h.x.env
  exact ⟨h.q.cells.1, h.q.cells.2.1, ⟨te, pe, cs, fun n y => times_fail L hne (h.drew hne n) te pe y⟩, fun hg n => times_ok L hne (h.drew hne n) (br_drew (hh hg) n)⟩

end Go.Proofs.YtbjohedenfindaaGreatDoor

namespace Go.Proofs.YtbjohedenfindaaGreatDoor
open Go.RowKit
set_option linter.unusedVariables false
set_option maxRecDepth 100000

theorem countS_posR {s : ByteArray} {i j : Nat} {z : Int} (h : countS s i = some (z, j)) : 0 ≤ z := by
  unfold countS at h
  split at h
  · simp at h
  · simp only [Option.some.injEq, Prod.mk.injEq] at h
    rw [← h.1]
    have key : ∀ k, k ≤ digRun s s.size i → 0 ≤ digVal s i k := by
      intro k
      induction k with
      | zero => intro _; simp [digVal]
      | succ k ih =>
        intro hk
        have h1 := ih (by omega)
        have h2 := digRun_all s s.size i k (by omega)
        simp [isDig] at h2
        rw [digVal]
        omega
    exact key _ (Nat.le_refl _)

set_option maxHeartbeats 4000000 in
theorem rtimes_any {W0 w : World} (L : LibC W0) {R Q i o : Nat} {s : ByteArray} {sv kv : Value} {mn0 mx0 : Int} (hne : Q ≠ R) (hQ : 16 ≤ Q) (h : XR W0 w R s i o) (hq : QAt w Q sv kv mn0 mx0) :
    Calls Tryz.prog 128 #[.pointer (some ⟨R, 0, none⟩), .pointer (some ⟨Q, 0, none⟩)] w fun e w' => e = .returned (.tuple #[]) ∧ TmQ W0 w R Q s i o sv kv w' := by
  obtain ⟨i1, hi1, _, c1, _⟩ := h.at_
  have HT0 : Hid (TmI W0 w w R Q s o i sv kv mn0 mx0) := ⟨h, hq, .of (grown_self _ _)⟩
  have HC := count_x L h
  have HCC : Hid (Calls Tryz.prog 141 #[.pointer (some ⟨R, 0, none⟩)] w fun e w1 => ∃ (z : Int), e = .returned (.int .i64 z) ∧ -1000 ≤ z ∧ z ≤ 1000 ∧ w1.cell? ⟨Q, 2, none⟩ = some (.int .i64 mn0) ∧ w1.frozen? ⟨Q, 2, none⟩ = false ∧ w1.cell? ⟨Q, 3, none⟩ = some (.int .i64 mx0) ∧ w1.frozen? ⟨Q, 3, none⟩ = false ∧ (∃ j, TmI W0 w ((w1.setCell ⟨Q, 2, none⟩ (.int .i64 z)).setCell ⟨Q, 3, none⟩ (.int .i64 z)) R Q s o j sv kv z z ∧ (BR W0 ((w1.setCell ⟨Q, 2, none⟩ (.int .i64 z)).setCell ⟨Q, 3, none⟩ (.int .i64 z)) R s ∨ countS s i = some (z, j)))) := by
    refine HC.mono ?_
    rintro e w1 ⟨z, j, rfl, z0, z1, hg, hx, hh⟩
    have hT1 := HT0.out.grown hne hg hx
    refine ⟨z, rfl, z0, z1, hT1.q.cells.1, hT1.q.cells.2.2.1, hT1.q.cells.2.1, hT1.q.cells.2.2.2.1, j, (hT1.set2 hne hQ z).set3 hne hQ z, br_setQ (br_setQ (hh.elim .inl fun h => .inr h.2) hne hQ) hne hQ⟩
  clear HC h hq
  go_enter Tryz.func128, Tryz.ntmps128
  go_wp2_with fail
  refine HCC.out.mono ?_
  rintro e w1 ⟨z, rfl, z0, z1, q1, q2, q3, q4, hj⟩
  have HJ : Hid (∃ j, TmI W0 w ((w1.setCell ⟨Q, 2, none⟩ (.int .i64 z)).setCell ⟨Q, 3, none⟩ (.int .i64 z)) R Q s o j sv kv z z ∧ (BR W0 ((w1.setCell ⟨Q, 2, none⟩ (.int .i64 z)).setCell ⟨Q, 3, none⟩ (.int .i64 z)) R s ∨ countS s i = some (z, j))) := hj
  clear hj HCC HT0
  go_wp2_with fail
  go_at_call 45
  obtain ⟨j, hT3, hh3⟩ := HJ.out
  generalize (w1.setCell ⟨Q, 2, none⟩ (.int .i64 z)).setCell ⟨Q, 3, none⟩ (.int .i64 z) = w3 at *
  refine (eat_x L hT3.x 44 (by omega) (by omega)).mono ?_
  have HT3 : Hid (TmI W0 w w3 R Q s o j sv kv z z) := hT3
  have HH3 : Hid (BR W0 w3 R s ∨ countS s i = some (z, j)) := hh3
  clear hT3 hh3 HJ q1 q2 q3 q4
  rintro e w4 ⟨b, rfl, hg4, ⟨rfl, e1, e2, e3, e4⟩ | ⟨rfl, e1, e2⟩⟩
  · have hT4 := HT3.out.grown hne hg4 (.inl ⟨e3, e4⟩ : XR W0 w4 R s (j + 1) o)
    have HT4 : Hid (TmI W0 w w4 R Q s o (j + 1) sv kv z z) := hT4
    have c4 := e3.cell1.1
    have HH4 : Hid (BR W0 w4 R s ∨ (countS s i = some (z, j) ∧ cpAt s j = 44)) := by
      rcases HH3.out with hB | h1
      · exact absurd hB fun hb => e1.not_br hb
      · exact .inr ⟨h1, e2⟩
    clear hT4 e1 e2 e3 hg4 HT3 HH3
    go_wp2_with fail
    go_at_call 74
    refine (now_x L HT4.out.x).mono ?_
    rintro e w5 ⟨c, rfl, hc0, hc1, hg5, hx5, hh5⟩
    by_cases hc : c = 125
    · subst hc
      have hh6 : BR W0 w5 R s ∨ ((countS s i = some (z, j) ∧ cpAt s j = 44) ∧ cpAt s (j + 1) = 125) := hist_step HH4.out (hh5.elim (fun h => .inl h.1) fun h => .inr ⟨h.1, h.2.1.symm⟩)
      have hT5 := HT4.out.grown hne hg5 hx5
      have f1 := hT5.q.cells.2.1
      have f2 := hT5.q.cells.2.2.2.1
      have HR : Hid (TmT W0 w (w5.setCell ⟨Q, 3, none⟩ (.int .i64 (-1))) R Q s i o sv kv z (-1)) := (hT5.set3 hne hQ (-1)).rest L hne fun hn => br_setQ (hh6.elim .inl fun h => .inr fun h5 => by
        unfold timesS
        rw [h.1.1]
        simp only
        rw [if_pos h.1.2, if_pos h.2]) hne hQ
      have HO2 := HR.out.ok (by omega)
      have HO3 : Hid (∀ n, Calls Tryz.prog 142 #[.pointer (some ⟨R, 0, none⟩), .int .i64 125] ((w5.setCell ⟨Q, 3, none⟩ (.int .i64 (-1))).drewN n) fun e w' => e = .returned (.tuple #[]) ∧ TmQ W0 w R Q s i o sv kv w') := HO2
      clear HO2 HR hT5 hh6 hh5 hx5 hg5 HT4 HH4
      go_wp2
      go_quiet (fail)
      go_wp2_with fail
      go_at_call 142
      refine (HO3.out _).mono ?_
      rintro e w9 ⟨rfl, h9⟩
      go_wp2
      go_end0
      exact ⟨rfl, h9⟩
    · have hcq : (c == 125) = false := by rw [beq_eq_false_iff_ne]; exact hc
      have hh6 : BR W0 w5 R s ∨ ((countS s i = some (z, j) ∧ cpAt s j = 44) ∧ cpAt s (j + 1) ≠ 125) := hist_step HH4.out (hh5.elim (fun h => .inl h.1) fun h => .inr ⟨h.1, fun e => hc (by rw [h.2.1]; exact e)⟩)
      have HH6 : Hid (BR W0 w5 R s ∨ ((countS s i = some (z, j) ∧ cpAt s j = 44) ∧ cpAt s (j + 1) ≠ 125)) := hh6
      have HT5 : Hid (TmI W0 w w5 R Q s o (j + 1) sv kv z z) := HT4.out.grown hne hg5 hx5
      clear hh6 hh5 hx5 hg5 HT4 HH4 hc
      go_wp2_with fail
      go_at_call 141
      refine (count_x L HT5.out.x).mono ?_
      rintro e w6 ⟨z2, k2, rfl, y0, y1, hg6, hx6, hh6⟩
      have hT6 := HT5.out.grown hne hg6 hx6
      have f1 := hT6.q.cells.2.1
      have f2 := hT6.q.cells.2.2.2.1
      have hh7 := hist_step HH6.out hh6
      have HR : Hid (TmT W0 w (w6.setCell ⟨Q, 3, none⟩ (.int .i64 z2)) R Q s i o sv kv z z2) := (hT6.set3 hne hQ z2).rest L hne fun hn => br_setQ (hh7.elim .inl fun h => .inr fun h5 => by
        have := countS_posR h.2
        unfold timesS
        rw [h.1.1.1]
        simp only
        rw [if_pos h.1.1.2, if_neg h.1.2, h.2]
        simp only
        rw [if_neg (by omega)]) hne hQ
      obtain ⟨te, pe, cs, hF⟩ := HR.out.syn
      have g2 := HR.out.c2
      have g3 := HR.out.c3
      have HF : Hid (∀ n y, Calls Tryz.prog 22 #[.pointer (some ⟨R, 0, none⟩), .iface te pe, .int .i64 y] ((w6.setCell ⟨Q, 3, none⟩ (.int .i64 z2)).drewN n) fun e w' => e = .returned (.tuple #[]) ∧ Hid (Calls Tryz.prog 142 #[.pointer (some ⟨R, 0, none⟩), .int .i64 125] w' fun e w'' => e = .returned (.tuple #[]) ∧ TmQ W0 w R Q s i o sv kv w'')) := hF
      have HO : Hid (_ → _) := HR.out.ok
      clear hF HR hT6 hh7 hh6 hx6 hg6 HT5 HH6
      have hzc : (decide (z2 ≥ 0) = false ∧ z2 < 0) ∨ (decide (z2 ≥ 0) = true ∧ decide (z2 < z) = true ∧ 0 ≤ z2) ∨ (z2 = 0 ∧ decide ((0 : Int) < z) = false) ∨ (decide (z2 ≥ 0) = true ∧ decide (z2 < z) = false ∧ (z2 == 0) = false ∧ ¬ (0 ≤ z2 ∧ (z2 < z ∨ z2 = 0))) := by
        by_cases a0 : z2 < 0
        · exact .inl ⟨by simp; omega, a0⟩
        · by_cases a1 : z2 < z
          · exact .inr (.inl ⟨by simp; omega, by simp; omega, by omega⟩)
          · by_cases a2 : z2 = 0
            · exact .inr (.inr (.inl ⟨a2, by simp; omega⟩))
            · exact .inr (.inr (.inr ⟨by simp; omega, by simp; omega, by rw [beq_eq_false_iff_ne]; exact a2, by omega⟩))
      have h200 : -1000 ≤ z2 ∧ z2 ≤ 1000 := ⟨y0, y1⟩
      rcases hzc with ⟨g1, g4⟩ | ⟨g1, g4, g5⟩ | ⟨rfl, g4⟩ | ⟨g1, g4, g5, g6⟩
      · have HO2 := HO.out (by omega)
        have HO3 : Hid (∀ n, Calls Tryz.prog 142 #[.pointer (some ⟨R, 0, none⟩), .int .i64 125] ((w6.setCell ⟨Q, 3, none⟩ (.int .i64 z2)).drewN n) fun e w' => e = .returned (.tuple #[]) ∧ TmQ W0 w R Q s i o sv kv w') := HO2
        clear HO HO2 HF
        go_wp2
        go_quiet (fail)
        go_wp2_with fail
        go_at_call 142
        refine (HO3.out _).mono ?_
        rintro e w9 ⟨rfl, h9⟩
        go_wp2
        go_end0
        exact ⟨rfl, h9⟩
      · clear HO
        go_wp2
        go_quiet (fail)
        have d9 : ((w6.setCell ⟨Q, 3, none⟩ (.int .i64 z2)).drewN nq).cell? ⟨0, 0, none⟩ = some (.iface te pe) := cs
        go_wp2_with fail
        go_at_call 22
        refine (HF.out _ _).mono ?_
        rintro e w8 ⟨rfl, h8⟩
        go_wp2_with fail
        go_at_call 142
        refine h8.out.mono ?_
        rintro e w9 ⟨rfl, h9⟩
        go_wp2
        go_end0
        exact ⟨rfl, h9⟩
      · clear HO
        go_wp2
        go_quiet (fail)
        have d9 : ((w6.setCell ⟨Q, 3, none⟩ (.int .i64 0)).drewN nq).cell? ⟨0, 0, none⟩ = some (.iface te pe) := cs
        go_wp2_with fail
        go_at_call 22
        refine (HF.out _ _).mono ?_
        rintro e w8 ⟨rfl, h8⟩
        go_wp2_with fail
        go_at_call 142
        refine h8.out.mono ?_
        rintro e w9 ⟨rfl, h9⟩
        go_wp2
        go_end0
        exact ⟨rfl, h9⟩
      · have HO2 := HO.out g6
        have HO3 : Hid (∀ n, Calls Tryz.prog 142 #[.pointer (some ⟨R, 0, none⟩), .int .i64 125] ((w6.setCell ⟨Q, 3, none⟩ (.int .i64 z2)).drewN n) fun e w' => e = .returned (.tuple #[]) ∧ TmQ W0 w R Q s i o sv kv w') := HO2
        clear HO HO2 HF
        go_wp2
        go_quiet (fail)
        go_wp2_with fail
        go_at_call 142
        refine (HO3.out _).mono ?_
        rintro e w9 ⟨rfl, h9⟩
        go_wp2
        go_end0
        exact ⟨rfl, h9⟩
  · have HR : Hid (TmT W0 w w4 R Q s i o sv kv z z) := (HT3.out.grown hne hg4 e1).rest L hne fun hn => by
      rcases hist_step HH3.out e2 with hB | ⟨h1, h2⟩
      · exact .inl hB
      · refine .inr fun h5 => ?_
        have := countS_posR h1
        unfold timesS
        rw [h1]
        simp only
        rw [if_neg h2, if_neg (by omega)]
    obtain ⟨te, pe, cs, hF⟩ := HR.out.syn
    have k2 := HR.out.c2
    have k3 := HR.out.c3
    have HF : Hid (∀ n y, Calls Tryz.prog 22 #[.pointer (some ⟨R, 0, none⟩), .iface te pe, .int .i64 y] (w4.drewN n) fun e w' => e = .returned (.tuple #[]) ∧ Hid (Calls Tryz.prog 142 #[.pointer (some ⟨R, 0, none⟩), .int .i64 125] w' fun e w'' => e = .returned (.tuple #[]) ∧ TmQ W0 w R Q s i o sv kv w'')) := hF
    have HO : Hid (_ → _) := HR.out.ok
    clear e1 e2 hg4 hF HT3 HH3
    have hzc : (decide (z ≥ 0) = false ∧ z < 0) ∨ z = 0 ∨ (decide (z ≥ 0) = true ∧ decide (z < z) = false ∧ (z == 0) = false ∧ 0 < z) := by
      rcases (show z < 0 ∨ z = 0 ∨ 0 < z by omega) with h | h | h
      · exact .inl ⟨by simp; omega, h⟩
      · exact .inr (.inl h)
      · exact .inr (.inr ⟨by simp; omega, by simp, by rw [beq_eq_false_iff_ne]; omega, h⟩)
    rcases hzc with ⟨g1, g2⟩ | rfl | ⟨g1, g2, g3, g4⟩
    · have HO2 := HO.out (by omega)
      have HO3 : Hid (∀ n, Calls Tryz.prog 142 #[.pointer (some ⟨R, 0, none⟩), .int .i64 125] (w4.drewN n) fun e w' => e = .returned (.tuple #[]) ∧ TmQ W0 w R Q s i o sv kv w') := HO2
      clear HO HO2 HF HR
      go_wp2
      go_quiet (fail)
      go_wp2_with fail
      go_at_call 142
      refine (HO3.out _).mono ?_
      rintro e w5 ⟨rfl, h5⟩
      go_wp2
      go_end0
      exact ⟨rfl, h5⟩
    · clear HO HR
      go_wp2
      go_quiet (fail)
      have d9 : (w4.drewN nq).cell? ⟨0, 0, none⟩ = some (.iface te pe) := cs
      go_wp2_with fail
      go_at_call 22
      refine (HF.out _ _).mono ?_
      rintro e w8 ⟨rfl, h8⟩
      go_wp2_with fail
      go_at_call 142
      refine h8.out.mono ?_
      rintro e w9 ⟨rfl, h9⟩
      go_wp2
      go_end0
      exact ⟨rfl, h9⟩
    · have HO2 := HO.out (by omega)
      have HO3 : Hid (∀ n, Calls Tryz.prog 142 #[.pointer (some ⟨R, 0, none⟩), .int .i64 125] (w4.drewN n) fun e w' => e = .returned (.tuple #[]) ∧ TmQ W0 w R Q s i o sv kv w') := HO2
      clear HO HO2 HF HR
      go_wp2
      go_quiet (fail)
      go_wp2_with fail
      go_at_call 142
      refine (HO3.out _).mono ?_
      rintro e w9 ⟨rfl, h9⟩
      go_wp2
      go_end0
      exact ⟨rfl, h9⟩

end Go.Proofs.YtbjohedenfindaaGreatDoor

namespace Go.Proofs.YtbjohedenfindaaGreatDoor
open Go.RowKit
set_option linter.unusedVariables false
set_option maxRecDepth 100000

/-- the trees that the reader makes lie behind it -/
abbrev RT' (B : Nat) (w : World) (v : Value) (t : Re) : Prop := Tree (fun b => B ≤ b) w v t
/-- what a function of the reader gives: a tree, or something is wrong -/
def GotT (W0 w : World) (R : Nat) (s : ByteArray) (i o : Nat) (r : Option (Re × Nat)) (e : Ending) (w' : World) : Prop :=
  ∃ (p : Option Addr) (j : Nat), e = .returned (.pointer p) ∧ w.grownBy w' (some R) ∧ XR W0 w' R s j o ∧ (BR W0 w' R s ∨ (SR W0 w R s i o ∧ ∃ t, r = some (t, j) ∧ RT' w.heap.size w' (.pointer p) t))
def RUnitC (W0 : World) (R : Nat) (s : ByteArray) (o : Nat) (u : Nat → Option (Re × Nat)) : Prop := ∀ (w : World) (i : Nat), XR W0 w R s i o → Calls Tryz.prog 127 #[.pointer (some ⟨R, 0, none⟩)] w fun e w' => GotT W0 w R s i o (u i) e w'

theorem tree_grown {R B : Nat} {w w' : World} {v : Value} {t : Re} (h : RT' B w v t) (hRB : R < B) (hg : w.grownBy w' (some R)) : RT' B w' v t := Tree.grown h hg fun b hb e => by simp at e; omega
theorem rep_tree {B Q K : Nat} {w : World} {p : Value} {t : Re} {mn mx : Int} {ty : TypeId} (hq : QAt w Q (.slice none 0 0) (.slice (some ⟨K, 0, none⟩) 1 1) mn mx) (hQ : B ≤ Q) (hk : w.heap[K]? = some (.cells #[p] ty (0, 0))) (hK : B ≤ K) (hp : RT' B w p t) : RT' B w (.pointer (some ⟨Q, 0, none⟩)) (repRe mn mx t) := by
  obtain ⟨n, hn⟩ := hp
  refine ⟨n + 1, Q, _, _, rfl, hQ, hq, .inl ⟨rfl, none, 0, rfl⟩, .inr ⟨K, 0, 1, rfl, (Array.getElem?_eq_some_iff.1 hk).1, hK, fun j hj => ?_⟩⟩
  have hj0 : j = 0 := by simp [repRe] at hj; omega
  subst hj0
  exact ⟨p, by simp [World.cell?, hk], by simpa [repRe] using hn⟩

/-- how much is left to read; nothing where something is wrong -/
def mea (s : ByteArray) (R : Nat) (w : World) : Nat := match w.cell? ⟨R, 3, none⟩ with
  | some .nilIface => (match w.cell? ⟨R, 1, none⟩ with | some (.int _ z) => s.size - z.toNat + 1 | _ => 0)
  | _ => 0
theorem mea_sr {W0 w : World} {R i o : Nat} {s : ByteArray} (h : SR W0 w R s i o) : mea s R w = s.size - i + 1 := by
  unfold mea; rw [h.cell1.1, h.cell1.2]; simp
theorem mea_br {W0 w : World} {R : Nat} {s : ByteArray} (h : BR W0 w R s) : mea s R w = 0 := by
  obtain ⟨te, pe, h2⟩ := h.cell3
  unfold mea; rw [h2]
theorem mea_x {W0 w w' : World} {R i j o : Nat} {s : ByteArray} (h : SR W0 w R s i o) (hx : XR W0 w' R s j o) (hj : BR W0 w' R s ∨ i < j) : mea s R w' < mea s R w := by
  rw [mea_sr h]
  rcases hx with ⟨hx, _⟩ | hx
  · rcases hj with hj | hj
    · exact (hx.not_br hj).elim
    · rw [mea_sr hx]
      have := hx.inn
      omega
  · rw [mea_br hx]; omega

/-- the two new blocks of a repetition -/
theorem new_rep {W0 w : World} {R j o : Nat} {s : ByteArray} (p : Value) (hx : XR W0 w R s j o) : ∃ w3, (w.alloc (.cells #[p] 22)).alloc (.cells #[.int .i64 6, .slice none 0 0, .int .i64 0, .int .i64 0, .slice (some ⟨w.heap.size, 0, none⟩) 1 1] 48) = w3 ∧
    TmI W0 w3 w3 R (w.heap.size + 1) s o j (.slice none 0 0) (.slice (some ⟨w.heap.size, 0, none⟩) 1 1) 0 0 ∧ w3.heap[w.heap.size]? = some (.cells #[p] 22 (0, 0)) ∧ (∀ row, w.grownBy w3 row) := by
  have hb : Below w.heap.size w ((w.alloc (.cells #[p] 22)).alloc (.cells #[.int .i64 6, .slice none 0 0, .int .i64 0, .int .i64 0, .slice (some ⟨w.heap.size, 0, none⟩) 1 1] 48)) := ((Below.refl _ w).alloc (Nat.le_refl _) _).alloc (by simp) _
  refine ⟨_, rfl, ⟨hx.kept (grownBy_of_below hb none), ?_, .of (grown_self _ _)⟩, ?_, fun row => grownBy_of_below hb row⟩
  · have := heap_alloc_new (w.alloc (.cells #[p] 22)) (.cells #[.int .i64 6, .slice none 0 0, .int .i64 0, .int .i64 0, .slice (some ⟨w.heap.size, 0, none⟩) 1 1] 48)
    show _ = _
    simpa using this
  · rw [Below.heap_alloc _ _ _ (by simp)]
    exact heap_alloc_new w _
theorem gr2_grown {w w3 w' : World} {R Q : Nat} (h : w.grownBy w3 (some R)) (hQ : w.heap.size ≤ Q) (hg : Gr2 R Q w3 w') : w.grownBy w' (some R) :=
  ⟨hg.os.trans h.os, hg.tape.trans h.tape, hg.output.trans h.output, Nat.le_trans h.size hg.size, fun b hb hne => (hg.block b (Nat.lt_of_lt_of_le hb h.size) (by simpa using hne) (by omega)).trans (h.block b hb hne)⟩

/-- what part has read so far -/
def PaH (W0 w0 : World) (R : Nat) (s : ByteArray) (i o : Nat) (res : Option (Re × Nat)) (w : World) (p : Value) (j : Nat) : Prop := BR W0 w R s ∨ (SR W0 w0 R s i o ∧ ∃ t f, res = partS s f t j ∧ s.size + 1 ≤ f + j ∧ RT' w0.heap.size w p t)

/-- one round: from the place j with a tree to the place j' with a repetition of it -/
theorem PaH.next {W0 w0 w w' : World} {R i o j j' Q K : Nat} {s : ByteArray} {res : Option (Re × Nat)} {p : Value} {mn mx : Int} {ty : TypeId} (h : PaH W0 w0 R s i o res w p j) (hS : SR W0 w R s j o) (hj : j < s.size) (hg : w.grownBy w' (some R)) (hq : QAt w' Q (.slice none 0 0) (.slice (some ⟨K, 0, none⟩) 1 1) mn mx) (hQ : w0.heap.size ≤ Q) (hk : w'.heap[K]? = some (.cells #[p] ty (0, 0))) (hK : w0.heap.size ≤ K) (hRB : R < w0.heap.size)
    (hn : BR W0 w' R s ∨ (j < j' ∧ ∀ f t, partS s (f + 1) t j = partS s f (repRe mn mx t) j')) : PaH W0 w0 R s i o res w' (.pointer (some ⟨Q, 0, none⟩)) j' := by
  rcases hn with hB | ⟨hlt, hn⟩
  · exact .inl hB
  · rcases h with h | ⟨h1, t, f, h2, h3, h4⟩
    · exact (hS.not_br h).elim
    · obtain ⟨f', rfl⟩ : ∃ f', f = f' + 1 := ⟨f - 1, by omega⟩
      exact .inr ⟨h1, _, f', by rw [h2, hn], by omega, rep_tree hq hQ hk hK (tree_grown h4 hRB hg)⟩
theorem PaH.stop {W0 w0 w w' : World} {R i o j : Nat} {s : ByteArray} {res : Option (Re × Nat)} {p : Value} {c : Int} (h : PaH W0 w0 R s i o res w p j) (hRB : R < w0.heap.size) (hg : w.grownBy w' (some R)) (hc : (BR W0 w' R s) ∨ (SR W0 w R s j o ∧ cpAt s j ≠ 42 ∧ cpAt s j ≠ 43 ∧ cpAt s j ≠ 63 ∧ cpAt s j ≠ 123)) : BR W0 w' R s ∨ (SR W0 w0 R s i o ∧ ∃ t, res = some (t, j) ∧ RT' w0.heap.size w' p t) := by
  rcases hc with hB | ⟨hS, n1, n2, n3, n4⟩
  · exact .inl hB
  · rcases h with h | ⟨h1, t, f, h2, h3, h4⟩
    · exact (hS.not_br h).elim
    · have := hS.inn
      obtain ⟨f', rfl⟩ : ∃ f', f = f' + 1 := ⟨f - 1, by omega⟩
      exact .inr ⟨h1, t, by rw [h2, partS, if_neg n1, if_neg n2, if_neg n3, if_neg n4], tree_grown h4 hRB hg⟩

end Go.Proofs.YtbjohedenfindaaGreatDoor
