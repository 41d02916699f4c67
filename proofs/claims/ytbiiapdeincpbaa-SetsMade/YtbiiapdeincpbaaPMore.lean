import Derived.Test.YtbiiapdeincpbaaPSweep
import Derived.Test.YtbiiapdeincpbaaRMore
namespace Go.Proofs.Ytbiiapdeincpbaa
open Go.RowKit
set_option linter.unusedVariables false
set_option maxRecDepth 100000

set_option maxHeartbeats 400000 in
theorem phas_out (v : Value) (p : Int) (l : List Rg) (w : World) (h : p < 0 ∨ 1114111 < p) :
    Calls Try.prog 22 #[v, .int .i64 p] w fun e w' => e = .returned (.bool (hasB l p)) ∧ Below w.heap.size w w' := by
  have HB : Hid (hasB l p = false) := by
    show _ = _
    unfold hasB
    rcases h with h | h
    · have : decide (0 ≤ p) = false := by simp; omega
      simp [this]
    · have : decide (p ≤ 1114111) = false := by simp; omega
      simp [this]
  rcases h with h | h
  · go_enter Try.func22, Try.ntmps22
    go_wp2
    go_ret
    exact ⟨by rw [HB.out]; rfl, Below.refl _ _⟩
  · have h0 : ¬ p < 0 := by omega
    go_enter Try.func22, Try.ntmps22
    go_wp2
    go_ret
    exact ⟨by rw [HB.out]; rfl, Below.refl _ _⟩

set_option maxHeartbeats 1000000 in
theorem phas_row (b off c : Nat) (p : Int) (l : List Rg) (w : World) (hl : l.length ≤ 1000000) (h0 : 0 ≤ p) (h1 : p ≤ 1114111) (hb : b < w.heap.size) (hc : ∀ j, j < l.length → w.cell? ⟨b, off + j * 2, none⟩ = some (.int .i64 (l.getD j (0, 0)).1) ∧ w.cell? ⟨b, off + j * 2 + 1, none⟩ = some (.int .i64 (l.getD j (0, 0)).2)) :
    Calls Try.prog 22 #[.slice (some ⟨b, off, none⟩) l.length c, .int .i64 p] w fun e w' => e = .returned (.bool (hasB l p)) ∧ Below w.heap.size w w' := by
  have HB : Hid (hasB l p = hasL l p) := hasB_in l p h0 h1
  have hn0 : ¬ p < 0 := by omega
  have hn1 : ¬ 1114111 < p := by omega
  go_enter Try.func22, Try.ntmps22
  go_wp2
  go_loopw [15] (fun i wr => ∃ k : Nat, k ≤ l.length ∧ i = .int .i64 k ∧ hasL (l.take k) p = false ∧ Below w.heap.size w wr) (fun i _ => l.length - (intOf i).toNat)
  case atStart => exact ⟨0, Nat.zero_le _, rfl, rfl, Below.refl _ _⟩
  case round =>
    obtain ⟨k, hk, rfl, hno0, hbw⟩ := hrel
    have HN : Hid (hasL (l.take k) p = false) := hno0
    clear hno0
    by_cases hlt : k < l.length
    · obtain ⟨c0a, c1a⟩ := hc k hlt
      have c0 := (hbw.cell (p := ⟨b, off + k * 2, none⟩) hb).trans c0a
      have c1 := (hbw.cell (p := ⟨b, off + k * 2 + 1, none⟩) hb).trans c1a
      have hsz := hbw.size
      clear hc c0a c1a
      have ht := hasL_take l k p hlt
      generalize l.getD k (0, 0) = r at *
      by_cases g1 : r.1 ≤ p
      · by_cases g2 : p ≤ r.2
        · have HS : Hid (hasL l p = true) := by
            refine hasL_of_take l (k + 1) p ?_
            rw [ht]; simp [inR, g1, g2]
          clear ht
          go_wp2
          go_ret
          exact ⟨by rw [HB.out, HS.out]; rfl, hbw.alloc hsz _⟩
        · have HS : Hid (hasL (l.take (k + 1)) p = false) := by
            show _ = _
            rw [ht, HN.out]; simp [inR]; omega
          clear ht
          go_wp2
          go_roundw
          case rel => exact ⟨k + 1, by omega, by go_num, HS.out, hbw.alloc hsz _⟩
          case measure => simp [intOf]; omega
      · have HS : Hid (hasL (l.take (k + 1)) p = false) := by
          show _ = _
          rw [ht, HN.out]; simp [inR]; omega
        clear ht
        go_wp2
        go_roundw
        case rel => exact ⟨k + 1, by omega, by go_num, HS.out, hbw.alloc hsz _⟩
        case measure => simp [intOf]; omega
    · have HS : Hid (hasL l p = false) := by
        have := HN.out; rw [List.take_of_length_le (by omega)] at this; exact this
      go_wp2
      go_ret
      exact ⟨by rw [HB.out, HS.out]; rfl, hbw⟩

set_option maxHeartbeats 400000 in
theorem phas_empty (a : Option Addr) (c : Nat) (p : Int) (w : World) (h0 : 0 ≤ p) (h1 : p ≤ 1114111) :
    Calls Try.prog 22 #[.slice a 0 c, .int .i64 p] w fun e w' => e = .returned (.bool (hasB [] p)) ∧ Below w.heap.size w w' := by
  have HB : Hid (hasB [] p = false) := by show _ = _; simp [hasB, hasL]
  have hn0 : ¬ p < 0 := by omega
  have hn1 : ¬ 1114111 < p := by omega
  go_enter Try.func22, Try.ntmps22
  go_wp2
  refine wp_loop_rounds 1 ?_
  rw [rounds_succ]
  go_wp2
  go_ret
  exact ⟨by rw [HB.out]; rfl, Below.refl _ _⟩

theorem phas_any (v : Value) (p : Int) (l : List Rg) (w : World) (hl : l.length ≤ 1000000) (hv : Rngs w v l) :
    Calls Try.prog 22 #[v, .int .i64 p] w fun e w' => e = .returned (.bool (hasB l p)) ∧ Below w.heap.size w w' := by
  by_cases hp : p < 0 ∨ 1114111 < p
  · exact phas_out v p l w hp
  · rcases hv with ⟨rfl, a, c, rfl⟩ | ⟨b, off, c, rfl, hb, hc⟩
    · exact phas_empty a c p w (by omega) (by omega)
    · exact phas_row b off c p l w hl (by omega) (by omega) hb hc

set_option maxHeartbeats 1000000 in
theorem psize_any (va : Value) (a : List Rg) (w : World) (hla : a.length ≤ 1000) (ha : Rngs w va a) :
    Calls Try.prog 24 #[va] w fun e w' => ∃ out, e = .returned (.int .i64 (sizeL out)) ∧ Upto out 1114112 (fun p => hasL a p) ∧ Below w.heap.size w w' := by
  go_enter Try.func24, Try.ntmps24
  go_wp2_with fail
  refine (pcanon_any va a w hla ha).mono ?_
  rintro e w1 ⟨v, out, rfl, ho, hU, hb, hl⟩
  have hbd : Hid (∀ r ∈ out, 0 ≤ r.1 ∧ r.1 ≤ r.2 ∧ r.2 ≤ 1114111) := upto_all hU
  have HU : Hid (Upto out 1114112 (fun p => hasL a p)) := hU
  clear hU
  have hR := ho.rngs
  clear ho
  have hs1 := hb.size
  rcases hR with ⟨rfl, a', c', rfl⟩ | ⟨rb, roff, rc, rfl, hrb, hrc⟩
  · go_wp2
    refine wp_loop_rounds 1 ?_
    rw [rounds_succ]
    go_wp2
    go_ret
    exact ⟨[], rfl, HU.out, hb⟩
  · go_wp2
    go_loopw [3, 9] (fun n i wr => ∃ k : Nat, k ≤ out.length ∧ i = .int .i64 k ∧ n = .int .i64 (sizeL (out.take k)) ∧ Below w1.heap.size w1 wr) (fun _ i _ => out.length - (intOf i).toNat)
    case atStart => exact ⟨0, Nat.zero_le _, rfl, rfl, Below.refl _ _⟩
    case round =>
      obtain ⟨k, hk, rfl, rfl, hbw⟩ := hrel
      by_cases hlt : k < out.length
      · obtain ⟨h1a, h2a⟩ := hrc k hlt
        have h1 := (hbw.cell (p := ⟨rb, roff + k * 2, none⟩) hrb).trans h1a
        have h2 := (hbw.cell (p := ⟨rb, roff + k * 2 + 1, none⟩) hrb).trans h2a
        have hsz := hbw.size
        have hst := sizeL_take out k hlt
        obtain ⟨s0, s1⟩ := sizeL_bd (out.take k) (fun r hr => hbd.out r (List.mem_of_mem_take hr))
        have htk : (out.take k).length ≤ k := List.length_take_le _ _
        have hmem : out.getD k (0, 0) ∈ out := by simp [hlt]
        obtain ⟨r0, r1, r2⟩ := hbd.out _ hmem
        clear hrc h1a h2a
        generalize out.getD k (0, 0) = r at *
        have HS : Hid (sizeL (out.take (k + 1)) = sizeL (out.take k) + (r.2 - r.1 + 1)) := hst
        clear hst
        generalize hz : sizeL (out.take k) = z at *
        have HZ : Hid (sizeL (out.take k) = z) := hz
        clear hz
        have z1 : z ≤ 6000000000000 := by
          have : ((out.take k).length : Int) * 1114112 ≤ 1000000 * 1114112 := by omega
          omega
        clear s1
        go_wp2
        go_roundw
        case rel => exact ⟨k + 1, by omega, by go_num, by rw [HS.out], hbw.alloc hsz _⟩
        case measure => simp [intOf]; omega
      · have HT : Hid (out.take k = out) := List.take_of_length_le (by omega)
        go_wp2
        go_ret
        exact ⟨out, by rw [HT.out]; rfl, HU.out, hb.trans (hbw.mono hs1)⟩

end Go.Proofs.Ytbiiapdeincpbaa
