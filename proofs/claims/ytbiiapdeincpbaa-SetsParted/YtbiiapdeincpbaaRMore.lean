import Derived.Test.YtbiiapdeincpbaaRBoth
namespace Go.Proofs.Ytbiiapdeincpbaa
open Go.RowKit
set_option linter.unusedVariables false
set_option maxRecDepth 100000

set_option maxHeartbeats 400000 in
theorem all_any (w : World) : Calls Try.prog 21 #[] w fun e w' => ∃ v, e = .returned v ∧ Rngs w' v [(0, 1114111)] ∧ Below w.heap.size w w' := by
  go_enter Try.func21, Try.ntmps21
  go_wp2
  go_ret
  refine ⟨_, rfl, Or.inr ⟨w.heap.size, 0, 1, rfl, by simp, fun j hj => ?_⟩, (Below.refl _ w).alloc (Nat.le_refl _) _⟩
  match j, hj with
  | 0, _ => exact ⟨by simp, by simp⟩

set_option maxHeartbeats 400000 in
theorem rcanon_any (va : Value) (a : List Rg) (w : World) (hla : a.length ≤ 1000) (ha : Rngs w va a) :
    Calls Try.prog 14 #[va] w fun e w' => ∃ v out, e = .returned v ∧ OwnR w' w.heap.size v out ∧ Upto out 1114112 (fun p => hasL a p) ∧ Below w.heap.size w w' ∧ out.length ≤ 5000 := by
  go_enter Try.func14, Try.ntmps14
  go_wp2_with fail
  refine (both_any 1 va (.slice none 0 0) a [] w hla (by simp) ha (Or.inl ⟨rfl, none, 0, rfl⟩) (fun p W h1 h2 => wanted_1 va _ a [] p W (by omega) (by simp) h1 h2)).mono ?_
  rintro e w1 ⟨v, out, rfl, ho, hU, hb, hl⟩
  go_wp2
  go_ret
  refine ⟨_, out, rfl, ho, ⟨hU.apart, hU.low, fun p h0 h1 => ?_⟩, hb, hl⟩
  rw [← hU.has p h0 h1]
  show hasL a p = wantR 1 (hasB a p) (hasB [] p)
  rw [hasB_in a p h0 (by omega)]
  simp [wantR, hasB, hasL]

set_option maxHeartbeats 1000000 in
theorem sameset_rows (b off c b' off' c' : Nat) (l : List Rg) (w : World) (hz : l.length ≤ 1000000) (hc : ∀ j, j < l.length → w.cell? ⟨b, off + j * 2, none⟩ = some (.int .i64 (l.getD j (0, 0)).1) ∧ w.cell? ⟨b, off + j * 2 + 1, none⟩ = some (.int .i64 (l.getD j (0, 0)).2))
    (hc' : ∀ j, j < l.length → w.cell? ⟨b', off' + j * 2, none⟩ = some (.int .i64 (l.getD j (0, 0)).1) ∧ w.cell? ⟨b', off' + j * 2 + 1, none⟩ = some (.int .i64 (l.getD j (0, 0)).2)) :
    Calls Try.prog 15 #[.slice (some ⟨b, off, none⟩) l.length c, .slice (some ⟨b', off', none⟩) l.length c'] w fun e w' => e = .returned (.bool true) ∧ ∃ n, w' = w.drewN n := by
  go_enter Try.func15, Try.ntmps15
  go_wp2
  go_loopw [5] (fun i wr => ∃ k nq : Nat, k ≤ l.length ∧ i = .int .i64 k ∧ wr = w.drewN nq) (fun i _ => l.length - (intOf i).toNat)
  case atStart => exact ⟨0, 0, Nat.zero_le _, rfl, rfl⟩
  case round =>
    obtain ⟨k, nq, hk, rfl, rfl⟩ := hrel
    by_cases hlt : k < l.length
    · obtain ⟨h1, h2⟩ := hc k hlt
      obtain ⟨h3, h4⟩ := hc' k hlt
      clear hc hc'
      generalize l.getD k (0, 0) = r at *
      go_wp2
      go_quiet (fail)
      go_wp2
      go_roundw
      case rel => exact ⟨k + 1, _, by omega, by go_num, rfl⟩
      case measure => simp [intOf]; omega
    · go_wp2
      go_ret
      exact ⟨rfl, _, rfl⟩

set_option maxHeartbeats 400000 in
theorem sameset_empty (a a' : Option Addr) (c c' : Nat) (w : World) :
    Calls Try.prog 15 #[.slice a 0 c, .slice a' 0 c'] w fun e w' => e = .returned (.bool true) ∧ ∃ n, w' = w.drewN n := by
  go_enter Try.func15, Try.ntmps15
  go_wp2
  refine wp_loop_rounds 1 ?_
  rw [rounds_succ]
  go_wp2
  go_ret
  exact ⟨rfl, 0, rfl⟩

theorem sameset_any (v v' : Value) (l : List Rg) (w : World) (hz : l.length ≤ 1000000) (hv : Rngs w v l) (hv' : Rngs w v' l) :
    Calls Try.prog 15 #[v, v'] w fun e w' => e = .returned (.bool true) ∧ ∃ n, w' = w.drewN n := by
  rcases hv with ⟨rfl, a, c, rfl⟩ | ⟨b, off, c, rfl, hb, hc⟩
  · rcases hv' with ⟨_, a', c', rfl⟩ | ⟨b', off', c', rfl, hb', hc'⟩
    · exact sameset_empty a a' c c' w
    · exact sameset_empty a _ c c' w
  · rcases hv' with ⟨rfl, a', c', rfl⟩ | ⟨b', off', c', rfl, hb', hc'⟩
    · exact sameset_empty _ a' c c' w
    · exact sameset_rows b off c b' off' c' l w hz hc hc'

def sizeL : List Rg → Int
  | [] => 0
  | r :: t => (r.2 - r.1 + 1) + sizeL t
theorem sizeL_append (a b : List Rg) : sizeL (a ++ b) = sizeL a + sizeL b := by
  induction a with
  | nil => simp [sizeL]
  | cons r t ih => simp only [List.cons_append, sizeL, ih]; omega
theorem sizeL_take (l : List Rg) (k : Nat) (h : k < l.length) : sizeL (l.take (k + 1)) = sizeL (l.take k) + ((l.getD k (0, 0)).2 - (l.getD k (0, 0)).1 + 1) := by
  rw [take_snoc_rg l k h, sizeL_append]; simp [sizeL]
theorem sizeL_bd : ∀ (l : List Rg), (∀ r ∈ l, 0 ≤ r.1 ∧ r.1 ≤ r.2 ∧ r.2 ≤ 1114111) → 0 ≤ sizeL l ∧ sizeL l ≤ l.length * 1114112
  | [], _ => by simp [sizeL]
  | r :: t, h => by
    have ih := sizeL_bd t (fun x hx => h x (by simp [hx]))
    have hr := h r (by simp)
    simp only [sizeL, List.length_cons]
    omega
theorem upto_all {l : List Rg} {f : Int → Bool} (h : Upto l 1114112 f) : ∀ r ∈ l, 0 ≤ r.1 ∧ r.1 ≤ r.2 ∧ r.2 ≤ 1114111 := fun r hr => by
  have h1 := h.low r hr
  have h2 := h.apart.2 r hr
  omega

set_option maxHeartbeats 1000000 in
theorem rsize_any (va : Value) (a : List Rg) (w : World) (hla : a.length ≤ 1000) (ha : Rngs w va a) :
    Calls Try.prog 25 #[va] w fun e w' => ∃ out, e = .returned (.int .i64 (sizeL out)) ∧ Upto out 1114112 (fun p => hasL a p) ∧ Below w.heap.size w w' := by
  go_enter Try.func25, Try.ntmps25
  go_wp2_with fail
  refine (rcanon_any va a w hla ha).mono ?_
  rintro e w1 ⟨v, out, rfl, ho, hU, hb, hl⟩
  have hbd : Hid (∀ r ∈ out, 0 ≤ r.1 ∧ r.1 ≤ r.2 ∧ r.2 ≤ 1114111) := upto_all hU
  have HU : Hid (Upto out 1114112 (fun p => hasL a p)) := hU
  clear hU
  have hR := ho.rngs
  clear ho
  rcases hR with ⟨rfl, a', c', rfl⟩ | ⟨rb, roff, rc, rfl, hrb, hrc⟩
  · go_wp2
    refine wp_loop_rounds 1 ?_
    rw [rounds_succ]
    go_wp2
    go_ret
    exact ⟨[], rfl, HU.out, hb⟩
  · go_wp2
    go_loopw [4, 5] (fun n i wr => ∃ k nq : Nat, k ≤ out.length ∧ i = .int .i64 k ∧ n = .int .i64 (sizeL (out.take k)) ∧ wr = w1.drewN nq) (fun _ i _ => out.length - (intOf i).toNat)
    case atStart => exact ⟨0, 0, Nat.zero_le _, rfl, rfl, rfl⟩
    case round =>
      obtain ⟨k, nq, hk, rfl, rfl, rfl⟩ := hrel
      by_cases hlt : k < out.length
      · obtain ⟨h1, h2⟩ := hrc k hlt
        have hst := sizeL_take out k hlt
        obtain ⟨s0, s1⟩ := sizeL_bd (out.take k) (fun r hr => hbd.out r (List.mem_of_mem_take hr))
        have htk : (out.take k).length ≤ k := List.length_take_le _ _
        have hmem : out.getD k (0, 0) ∈ out := by simp [hlt]
        obtain ⟨r0, r1, r2⟩ := hbd.out _ hmem
        clear hrc
        generalize out.getD k (0, 0) = r at *
        have HS : Hid (sizeL (out.take (k + 1)) = sizeL (out.take k) + (r.2 - r.1 + 1)) := hst
        clear hst
        generalize hz : sizeL (out.take k) = z at *
        have HZ : Hid (sizeL (out.take k) = z) := hz
        clear hz
        have z1 : z ≤ 6000000000000 := by
          have : ((out.take k).length : Int) * 1114112 ≤ 5000 * 1114112 := by omega
          omega
        clear s1
        have w1' : IntKind.i64.wrap (z + r.2) = z + r.2 := wrap_k64 _ (by omega) (by omega)
        have w2' : IntKind.i64.wrap (z + r.2 - r.1) = z + r.2 - r.1 := wrap_k64 _ (by omega) (by omega)
        have w3' : IntKind.i64.wrap (z + r.2 - r.1 + 1) = z + r.2 - r.1 + 1 := wrap_k64 _ (by omega) (by omega)
        go_wp2
        go_quiet (fail)
        go_wp2
        go_roundw
        case rel => exact ⟨k + 1, _, by omega, by go_num, by rw [HS.out]; go_num, rfl⟩
        case measure => simp [intOf]; omega
      · have HT : Hid (out.take k = out) := List.take_of_length_le (by omega)
        go_wp2
        go_ret
        exact ⟨out, by rw [HT.out]; rfl, HU.out, below_drewN hb nq⟩

end Go.Proofs.Ytbiiapdeincpbaa
