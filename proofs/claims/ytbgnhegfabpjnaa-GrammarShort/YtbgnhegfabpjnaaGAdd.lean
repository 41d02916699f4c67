/- The program: a link is added. -/
import Derived.Test.YtbgnhegfabpjnaaGLnk
namespace Go.Proofs.Ytbgnhegfabpjnaa
open Go.RowKit
open Go.Maps (Keyed)
set_option linter.unusedVariables false
set_option maxRecDepth 100000

theorem Try.lawIntG : Keyed Try.prog 3 := Maps.int_keyed Try.underlying3
theorem Try.zeroIntG (w : World) : (zeroValue 3).run Try.prog w = .ok (.int .i64 0) w := by kernel_rfl
/-- a map whose keys are these numbers -/
def KeysM (w : World) (M n : Nat) (r : Nat → Prop) : Prop := ∃ D : DataW Unit, w.ownsMap Try.prog 3 (plainElem Try.prog 3) M n D ∧ Maps.IsMap D ∧ ∀ kl, Maps.has D kl = true ↔ ∃ k : Nat, kl = .int .i64 k ∧ r k
theorem keyOf_nat (k : Nat) (hk : k ≤ 1000000) : keyOf Try.prog 3 (.int .i64 (k : Int)) = some (.int .i64 (k : Int)) := Maps.keyOf_int_mk Try.underlying3 (WalkArith.wf_i64 (by omega))
theorem wrap64_range (c : Int) : -9223372036854775808 ≤ wrap64 c ∧ wrap64 c ≤ 9223372036854775807 := by
  unfold wrap64
  omega
theorem KeysM.new {w : World} {M : Nat} (h : w.heap[M]? = some (.map #[] 0)) : KeysM w M 0 fun _ => False := by
  have hf : w.ownsMap (H := Unit) Try.prog 3 (plainElem Try.prog 3) M 0 (.map []) := by
    obtain ⟨es, cl, h1, h2⟩ := World.ownsMap_made (H := Unit) w Try.prog 3 (plainElem Try.prog 3)
    rw [heap_alloc_new] at h1
    simp at h1
    obtain ⟨rfl, rfl⟩ := h1
    exact ⟨_, _, h, h2⟩
  exact ⟨_, hf, ⟨[], rfl⟩, fun kl => ⟨fun e => (by cases e), fun ⟨_, _, e⟩ => e.elim⟩⟩

set_option maxHeartbeats 1000000 in
theorem add_walk (D N f t M : Nat) (hf : f < N) (c z : Int) (hz : wrap64 (c + 1) = z) (w w' : World) (hD : D < w.heap.size) (cD : w.cell? ⟨D, f, none⟩ = some (.map (some M)))
    (hlook : (Instr.lookup 62 (.map (some M)) (.int .i64 t) false).run Try.prog w = .ok (.int .i64 c) w)
    (hup : (Instr.mapUpdate 62 (.map (some M)) (.int .i64 t) (.int .i64 z)).run Try.prog w = .ok () w') :
    Calls Try.prog 42 #[.slice (some ⟨D, 0, none⟩) N N, .int .i64 f, .int .i64 t] w fun e w2 => e = .returned (.tuple #[]) ∧ w2 = w' := by
  go_enter Try.func42, Try.ntmps42
  go_wp2
  go_end0
  exact ⟨rfl, rfl⟩

/-- links in memory: the maps lie apart -/
structure LinksM (w : World) (D N : Nat) (mp cnt : Nat → Nat) (r : Nat → Nat → Prop) : Prop where
  lt : D < w.heap.size
  cell : ∀ n, n < N → w.cell? ⟨D, n, none⟩ = some (.map (some (mp n)))
  keys : ∀ n, n < N → KeysM w (mp n) (cnt n) (r n)
  inj : ∀ n m, n < N → m < N → mp n = mp m → n = m
  ne : ∀ n, n < N → mp n ≠ D
theorem KeysM.block {w w' : World} {M n : Nat} {r : Nat → Prop} (h : KeysM w M n r) (hb : w'.heap[M]? = w.heap[M]?) : KeysM w' M n r := by
  obtain ⟨D, ⟨es, cl, h1, h2⟩, h3, h4⟩ := h
  exact ⟨D, ⟨es, cl, hb.trans h1, h2⟩, h3, h4⟩
theorem KeysM.lt {w : World} {M n : Nat} {r : Nat → Prop} (h : KeysM w M n r) : M < w.heap.size := by
  obtain ⟨D, ⟨es, cl, h1, h2⟩, h3, h4⟩ := h
  exact (Array.getElem?_eq_some_iff.1 h1).1
theorem LinksM.new {w : World} {D N : Nat} {vs : List Value} (h : NewM w D N N vs) : LinksM w D N (fun n => D + 1 + n) (fun _ => 0) fun _ _ => False :=
  ⟨h.row.lt, fun n hn => (h.row.cell n).trans (h.at_ n hn).1, fun n hn => KeysM.new (h.at_ n hn).2, fun n m _ _ e => by have e2 : D + 1 + n = D + 1 + m := e; omega, fun n _ => by show D + 1 + n ≠ D; omega⟩
/-- .. with one more -/
def addR (r : Nat → Nat → Prop) (f t : Nat) : Nat → Nat → Prop := fun n k => r n k ∨ (n = f ∧ k = t)

theorem add_any {w : World} {D N : Nat} {mp cnt : Nat → Nat} {r : Nat → Nat → Prop} (h : LinksM w D N mp cnt r) (f t : Nat) (hf : f < N) (ht : t ≤ 1000000) (hc : cnt f ≤ 1000000000) :
    Calls Try.prog 42 #[.slice (some ⟨D, 0, none⟩) N N, .int .i64 f, .int .i64 t] w fun e w' => e = .returned (.tuple #[]) ∧ LinksM w' D N mp (fun n => if n = f then cnt n + 1 else cnt n) (addR r f t) ∧ w.grownBy w' (some (mp f)) := by
  obtain ⟨Dm, hown, him, hk⟩ := h.keys f hf
  obtain ⟨c, hrun, hat, hwc⟩ := hown.lookup_int Try.lawIntG Try.underlying62 Try.underlying3 (Try.zeroIntG _) (keyOf_nat t ht)
  have hr := wrap64_range (c + 1)
  obtain ⟨w', hup, hown', hturn⟩ := hown.store Try.lawIntG Try.underlying62 (by unfold maxLen; omega) (val := .int .i64 (wrap64 (c + 1))) (keyOf_nat t ht) (plainElem_int Try.underlying3 (WalkArith.wf_i64 (by omega)))
  have hg := hturn.grown
  have hblk : ∀ k, k < w.heap.size → k ≠ mp f → w'.heap[k]? = w.heap[k]? := fun k hk1 hk2 => hg.block k hk1 (fun e => hk2 (by simpa using e))
  refine (add_walk D N f t (mp f) hf c _ rfl w w' h.lt (h.cell f hf) hrun hup).mono ?_
  rintro e w2 ⟨rfl, rfl⟩
  refine ⟨rfl, ⟨Nat.lt_of_lt_of_le h.lt hg.size, fun n hn => ?_, fun n hn => ?_, h.inj, h.ne⟩, hg⟩
  · have hb := hblk D h.lt (Ne.symm (h.ne f hf))
    have := h.cell n hn
    simp only [World.cell?] at this ⊢
    rw [hb]; exact this
  · by_cases e : n = f
    · subst e
      simp only [if_true]
      refine ⟨_, hown', ?_, fun kl => ?_⟩
      · obtain ⟨es, rfl⟩ := him; exact ⟨_, rfl⟩
      · by_cases ek : kl = .int .i64 (t : Int)
        · subst ek
          rw [Maps.has_put_same him (show WideAt.IsKeyLit (.int .i64 (t : Int)) from trivial)]
          exact ⟨fun _ => ⟨t, rfl, .inr ⟨rfl, rfl⟩⟩, fun _ => rfl⟩
        · rw [Maps.has_put_other ek, hk kl]
          constructor
          · rintro ⟨k, e1, e2⟩; exact ⟨k, e1, .inl e2⟩
          · rintro ⟨k, e1, e2 | ⟨_, e2⟩⟩
            · exact ⟨k, e1, e2⟩
            · subst e2; exact absurd e1 ek
    · simp only [if_neg e]
      have h1 := (h.keys n hn).block (hblk (mp n) (h.keys n hn).lt fun e' => e (h.inj n f hn hf e'))
      obtain ⟨D1, a1, a2, a3⟩ := h1
      refine ⟨D1, a1, a2, fun kl => (a3 kl).trans ?_⟩
      constructor
      · rintro ⟨k, e1, e2⟩; exact ⟨k, e1, .inl e2⟩
      · rintro ⟨k, e1, e2 | ⟨e2, _⟩⟩
        · exact ⟨k, e1, e2⟩
        · exact absurd e2 e

end Go.Proofs.Ytbgnhegfabpjnaa
