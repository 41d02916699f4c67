/- The program: links the other way round. -/
import Derived.Test.YtbgnhegfabpjnaaGWin
import Derived.Maps.RangeWalk
namespace Go.Proofs.Ytbgnhegfabpjnaa
open Go.RowKit
open Go.Maps (Keyed)
set_option linter.unusedVariables false
set_option maxRecDepth 100000

theorem LinksM.grown {w w' : World} {D N M : Nat} {mp cnt : Nat → Nat} {r : Nat → Nat → Prop} (h : LinksM w D N mp cnt r) (hg : w.grownBy w' (some M)) (h1 : M ≠ D) (h2 : ∀ n, n < N → mp n ≠ M) : LinksM w' D N mp cnt r := by
  have hb : ∀ k, k < w.heap.size → k ≠ M → w'.heap[k]? = w.heap[k]? := fun k hk hk2 => hg.block k hk (fun e => hk2 (by simpa using e))
  refine ⟨Nat.lt_of_lt_of_le h.lt hg.size, fun n hn => ?_, fun n hn => (h.keys n hn).block (hb _ (h.keys n hn).lt (h2 n hn)), h.inj, h.ne⟩
  have := h.cell n hn
  simp only [World.cell?] at this ⊢
  rw [hb D h.lt (Ne.symm h1)]
  exact this
/-- what is turned, while some keys are still to come -/
def trnR (r : Nat → Nat → Prop) (i : Nat) (left : Lit → Bool) : Nat → Nat → Prop := fun n k => (k < i ∧ r k n) ∨ (k = i ∧ r i n ∧ left (.int .i64 (n : Int)) = false)
theorem trnR_step (r : Nat → Nat → Prop) (i x : Nat) (left : Lit → Bool) (hx : r i x) (n k : Nat) : addR (trnR r i left) x i n k ↔ trnR r i (fun z => left z && !z.sameKey (.int .i64 (x : Int))) n k := by
  have hl : (left (.int .i64 (n : Int)) && !(Lit.int .i64 (n : Int)).sameKey (.int .i64 (x : Int))) = false ↔ left (.int .i64 (n : Int)) = false ∨ n = x := by
    by_cases h : n = x
    · subst h; simp [Lit.sameKey]
    · have : ¬ (n : Int) = (x : Int) := by omega
      simp [Lit.sameKey, h, this]
  unfold addR trnR
  simp only [hl]
  constructor
  · rintro ((h | ⟨rfl, h1, h2⟩) | ⟨rfl, rfl⟩)
    · exact .inl h
    · exact .inr ⟨rfl, h1, .inl h2⟩
    · exact .inr ⟨rfl, hx, .inr rfl⟩
  · rintro (h | ⟨rfl, h1, h2 | rfl⟩)
    · exact .inl (.inl h)
    · exact .inl (.inr ⟨rfl, h1, h2⟩)
    · exact .inr ⟨rfl, rfl⟩

set_option maxHeartbeats 8000000 in
theorem turned_any {w : World} {D N : Nat} {mp cnt : Nat → Nat} {r : Nat → Nat → Prop} (h : LinksM w D N mp cnt r) (hN : N ≤ 300) (hr : ∀ n k, n < N → r n k → k < N) (hc : ∀ n, n < N → cnt n ≤ 10000) :
    Calls Try.prog 36 #[.slice (some ⟨D, 0, none⟩) N N] w fun e w' => e = .returned (.slice (some ⟨w.heap.size, 0, none⟩) N N) ∧ (∃ cnt', LinksM w' w.heap.size N (fun n => w.heap.size + 1 + n) cnt' (fun n k => k < N ∧ r k n) ∧ ∀ n, cnt' n ≤ 3000000) ∧ Below w.heap.size w w' := by
  have HH : Hid (LinksM w D N mp cnt r) := h
  have HR : Hid (∀ n k, n < N → r n k → k < N) := hr
  have HCN : Hid (∀ n, n < N → cnt n ≤ 10000) := hc
  clear h hr hc
  have hNL := newLinks_any N hN w
  go_enter Try.func36, Try.ntmps36
  go_wp2_with fail
  refine hNL.mono ?_
  rintro e w1 ⟨rfl, ⟨vs, hnew⟩, hb1⟩
  have HL0 : Hid (LinksM w1 w.heap.size N (fun n => w.heap.size + 1 + n) (fun _ => 0) (fun n k => k < 0 ∧ r k n)) := (LinksM.new hnew).iff fun n k => ⟨fun e => e.elim, fun ⟨q, _⟩ => by omega⟩
  clear hnew hNL
  go_wp2
  go_loopw [12] (fun i wr => ∃ (k : Nat) (cn : Nat → Nat), k ≤ N ∧ i = .int .i64 k ∧ Hid (LinksM wr w.heap.size N (fun n => w.heap.size + 1 + n) cn (fun n k' => k' < k ∧ r k' n)) ∧ Hid (∀ n, cn n ≤ k * 10000) ∧ Below w.heap.size w wr) (fun i _ => N - (intOf i).toNat)
  case atStart => exact ⟨0, _, Nat.zero_le _, rfl, HL0, (fun n => Nat.zero_le _), hb1⟩
  case round =>
    obtain ⟨k, cn, hk, rfl, HL, HC, hbw⟩ := hrel
    by_cases hlt : k < N
    · have hO := HH.out.below hbw
      have hDl := hO.lt
      have cD := hO.cell k hlt
      obtain ⟨D0, hown, him, hkeys⟩ := hO.keys k hlt
      have HK : Hid (∀ kl, Maps.has D0 kl = true ↔ ∃ q : Nat, kl = .int .i64 q ∧ r k q) := hkeys
      have HS : Hid (Maps.size D0 ≤ 10000) := Nat.le_trans hown.size_le (HCN.out k hlt)
      have hMl : mp k < w.heap.size := (HH.out.keys k hlt).lt
      clear hO hkeys him
      rename World => wo
      go_wp2_with (first
        | (at_range; refine wpList_range_own _ rfl _ 62 rfl 3 3 Try.lawIntG Try.underlying62 _ (mp k) (cnt k) _ rfl hown ?_; intro w2 hrg0 hg0 hs0)
        | go_in)
      go_frame
      have hb2 : Below wo.heap.size wo w2 := ⟨hg0.os, hg0.tape, hg0.output, hg0.size, fun q hq => hg0.block q hq (by simp)⟩
      have HL2 : Hid (LinksM w2 w.heap.size N (fun n => w.heap.size + 1 + n) cn (trnR r k (Maps.has D0))) := (HL.out.below hb2).iff fun n k' => by
        unfold trnR
        constructor
        · exact .inl
        · rintro (h | ⟨rfl, h1, h2⟩)
          · exact h
          · have h3 := (HK.out (.int .i64 (n : Int))).2 ⟨n, rfl, h1⟩
            rw [h3] at h2; cases h2
      have hbw2 : Below w.heap.size w w2 := hbw.trans (hb2.mono hbw.size)
      have HMP : Hid (∀ n, n < N → w.heap.size + 1 + n < wo.heap.size) := fun n hn => (HL.out.keys n hn).lt
      have hwo : w.heap.size ≤ wo.heap.size := hbw.size
      have hDo : w.heap.size < wo.heap.size := HL.out.lt
      have HC2 : Hid (∀ n, cn n ≤ k * 10000 + (Maps.size D0 - Maps.size D0)) := fun n => by have := HC.out n; omega
      clear HL HC hb2 hown hg0 cD hDl
      generalize hrr : wo.heap.size = rr at *
      go_loopw [6] (fun _ wr => ∃ (left : Lit → Bool) (ct : Nat) (cn : Nat → Nat), wr.ranges Try.prog 3 (plainElem Try.prog 3) (mp k) rr (cnt k) D0 left ct ∧ ct ≤ Maps.size D0 ∧ Hid (LinksM wr w.heap.size N (fun n => w.heap.size + 1 + n) cn (trnR r k left)) ∧ Hid (∀ n, cn n ≤ k * 10000 + (Maps.size D0 - ct)) ∧ Hid (∀ kl, left kl = true → Maps.has D0 kl = true) ∧ Below w.heap.size w wr ∧ rr < wr.heap.size) (fun _ wr => wr.rangeLeft (mp k) rr)
      case atStart => exact ⟨_, _, cn, hrg0, Nat.le_refl _, HL2, HC2, (fun kl h => h), hbw2, by omega⟩
      case round =>
        clear HL2 HC2 hbw2 hrg0 hs0 cn
        obtain ⟨left, ct, cn, hrg, hcs, HL, HC, HF, hbr, hsz⟩ := hrel
        go_wp2_with (first
          | (at_next; refine wpList_next_ranges_ii _ rfl _ rfl 3 3 .i64 .i64 Try.lawIntG Try.underlying3 Try.underlying3 (mp k) rr (cnt k) _ _ _ rfl hrg ?_ ?_)
          | go_in)
        · intro hc0 hl0
          have HL5 : Hid (LinksM wr w.heap.size N (fun n => w.heap.size + 1 + n) cn (fun n k' => k' < k + 1 ∧ r k' n)) := HL.out.iff fun n k' => by
            unfold trnR
            constructor
            · rintro (⟨h1, h2⟩ | ⟨rfl, h1, _⟩)
              · exact ⟨by omega, h2⟩
              · exact ⟨by omega, h1⟩
            · rintro ⟨h1, h2⟩
              by_cases e : k' = k
              · subst e; exact .inr ⟨rfl, h2, hl0 _⟩
              · exact .inl ⟨by omega, h2⟩
          have HC5 : Hid (∀ n, cn n ≤ (k + 1) * 10000) := fun n => by have := HC.out n; have := HS.out; omega
          clear HL HC hl0
          go_wp2
          go_roundw
          case rel => exact ⟨k + 1, _, by omega, by go_num, HL5, HC5, hbr⟩
          case measure => simp [intOf]; omega
        · intro x p w3 ct1 hwx hwc hlx hat hrg1 hlt1 hg1 hs1 hen
          obtain ⟨q, hq, hrq⟩ := (HK.out _).1 (HF.out _ hlx)
          obtain rfl : x = (q : Int) := by simpa using hq
          have hqN := HR.out k q hlt hrq
          have hmq := HMP.out q hqN
          have hL3 : LinksM w3 w.heap.size N (fun n => w.heap.size + 1 + n) cn (trnR r k left) := HL.out.grown hg1 (by omega) (fun n hn => by have := HMP.out n hn; show w.heap.size + 1 + n ≠ rr; omega)
          have hcq := HC.out q
          have hS := HS.out
          have hAd := add_any hL3 q k hqN (by omega) (by have : k * 10000 ≤ 300 * 10000 := by omega
                                                         omega)
          have HST : Hid (∀ n k', addR (trnR r k left) q k n k' ↔ trnR r k (fun z => left z && !z.sameKey (.int .i64 (q : Int))) n k') := trnR_step r k q left hrq
          clear hq hrq hL3
          go_wp2_with fail
          refine hAd.mono ?_
          rintro e w4 ⟨rfl, hL4, hg4⟩
          have HL4 : Hid (LinksM w4 w.heap.size N (fun n => w.heap.size + 1 + n) (fun n => if n = q then cn n + 1 else cn n) (trnR r k (fun z => left z && !z.sameKey (.int .i64 (q : Int))))) := hL4.iff HST.out
          have hrg2 := hrg1.kept hg4 (fun e => by have := Option.some.inj e; omega) (fun e => by have := Option.some.inj e; omega)
          have HC4 : Hid (∀ n, (if n = q then cn n + 1 else cn n) ≤ k * 10000 + (Maps.size D0 - ct1)) := fun n => by
            have := HC.out n
            split <;> omega
          have hb3 : Below w.heap.size w w3 := hbr.trans (grown_below hg1 (by omega) hbr.size)
          have hb4 : Below w.heap.size w w4 := hb3.trans (grown_below hg4 (by show w.heap.size ≤ w.heap.size + 1 + q; omega) hb3.size)
          have hs4 : rr < w4.heap.size := by have := hg4.size; omega
          clear hL4 hAd HL HC
          go_wp2
          go_roundw
          case rel => exact ⟨_, ct1, _, hrg2, by omega, HL4, HC4, (fun kl hkl => HF.out kl (by simp only [Bool.and_eq_true] at hkl; exact hkl.1)), hb4, hs4⟩
          case measure => rw [hrg2.left_eq, hrg.left_eq]; exact hlt1
    · have HE : Hid (LinksM wr w.heap.size N (fun n => w.heap.size + 1 + n) cn (fun n k' => k' < N ∧ r k' n)) := by
        obtain rfl : k = N := by omega
        exact HL.out
      clear HL
      go_wp2
      go_ret
      exact ⟨rfl, ⟨cn, HE.out, fun n => by have := HC.out n; omega⟩, hbw⟩

end Go.Proofs.Ytbgnhegfabpjnaa
