/- Texts of the proof, put together: GTrn, GShf, GRepZ. -/
import Derived.Test.YtkdoghaoijdedaaGreatDoorGt08
import Derived.Maps.RangeWalk
import Derived.Shelf.Small.Bits
import Derived.Shelf.Small.Wraps
import Derived.Shelf.Strconv.Itoa0
import Derived.Shelf.Sort.Plain
import Derived.Shelf.Bits.Mul64
import Derived.Ground.Names2Prog
import Derived.Shelf.Slices.CompactI
import Derived.Shelf.Slices.Cells
import Derived.Shelf.Slices.In.SortNone
import Derived.Test.YtkdoghaoijdedaaGreatDoorProg
import Derived.Test.YtkdoghaoijdedaaGreatDoorGt07
import Derived.Laws.CopyOwn
import Derived.Deep.RegionLaw
namespace Go.Proofs.YtkdoghaoijdedaaGreatDoor
open Go.RowKit
open Go.Maps (Keyed)
set_option linter.unusedVariables false
set_option maxRecDepth 100000

theorem LinksM.grown {w w' : World} {D N M : Nat} {mp cnt : Nat → Nat} {r : Nat → Nat → Prop} (h : LinksM w D N mp cnt r) (hg : w.grownBy w' (some M)) (h1 : M ≠ D) (h2 : ∀ n, n < N → mp n ≠ M) : LinksM w' D N mp cnt r := by
  have hb : ∀ k, k < w.heap.size → k ≠ M → w'.heap[k]? = w.heap[k]? := fun k hk hk2 => hg.block k hk (fun e => hk2 (by simpa using e))
  refine ⟨Nat.lt_of_lt_of_le h.lt hg.size, fun n hn => ?_, fun n hn => (h.keys n hn).block (hb _ (h.keys n hn).lt (h2 n hn)), h.inj, h.ne⟩
  have := h.cell n hn
  simp only [World.cell?] at this ⊢
  rw [hb D h.lt (Ne.symm h1)]
  exact this
/-- what is turned, while some keys are still to come -/
def trnR (r : Nat → Nat → Prop) (i : Nat) (left : Lit → Bool) : Nat → Nat → Prop := fun n k => (k < i ∧ r k n) ∨ (k = i ∧ r i n ∧ left (.int .i64 (n : Int)) = false)
theorem trnR_step (r : Nat → Nat → Prop) (i x : Nat) (left : Lit → Bool) (hx : r i x) (n k : Nat) : addR (trnR r i left) x i n k ↔ trnR r i (fun z => left z && !z.sameKey (.int .i64 (x : Int))) n k := by
  have hl : (left (.int .i64 (n : Int)) && !(Lit.int .i64 (n : Int)).sameKey (.int .i64 (x : Int))) = false ↔ left (.int .i64 (n : Int)) = false ∨ n = x := by
    by_cases h : n = x
    · subst h; simp [Lit.sameKey]
    · have : ¬ (n : Int) = (x : Int) := by omega
      simp [Lit.sameKey, h, this]
  unfold addR trnR
  simp only [hl]
  constructor
  · rintro ((h | ⟨rfl, h1, h2⟩) | ⟨rfl, rfl⟩)
    · exact .inl h
    · exact .inr ⟨rfl, h1, .inl h2⟩
    · exact .inr ⟨rfl, hx, .inr rfl⟩
  · rintro (h | ⟨rfl, h1, h2 | rfl⟩)
    · exact .inl (.inl h)
    · exact .inl (.inr ⟨rfl, h1, h2⟩)
    · exact .inr ⟨rfl, rfl⟩

set_option maxHeartbeats 8000000 in
theorem turned_any {w : World} {D N : Nat} {mp cnt : Nat → Nat} {r : Nat → Nat → Prop} (h : LinksM w D N mp cnt r) (hN : N ≤ 300) (hr : ∀ n k, n < N → r n k → k < N) {K : Nat} (hK : K ≤ 3000000) (hc : ∀ n, n < N → cnt n ≤ K) :
    Calls Tryz.prog 67 #[.slice (some ⟨D, 0, none⟩) N N] w fun e w' => e = .returned (.slice (some ⟨w.heap.size, 0, none⟩) N N) ∧ (∃ cnt', LinksM w' w.heap.size N (fun n => w.heap.size + 1 + n) cnt' (fun n k => k < N ∧ r k n) ∧ ∀ n, cnt' n ≤ 300 * K) ∧ Below w.heap.size w w' := by
  have HH : Hid (LinksM w D N mp cnt r) := h
  have HR : Hid (∀ n k, n < N → r n k → k < N) := hr
  have HCN : Hid (∀ n, n < N → cnt n ≤ K) := hc
  clear h hr hc
  have hNL := newLinks_any N hN w
  go_enter Tryz.func67, Tryz.ntmps67
  go_wp2_with fail
  refine hNL.mono ?_
  rintro e w1 ⟨rfl, ⟨vs, hnew⟩, hb1⟩
  have HL0 : Hid (LinksM w1 w.heap.size N (fun n => w.heap.size + 1 + n) (fun _ => 0) (fun n k => k < 0 ∧ r k n)) := (LinksM.new hnew).iff fun n k => ⟨fun e => e.elim, fun ⟨q, _⟩ => by omega⟩
  clear hnew hNL
  go_wp2
  go_loopw [12] (fun i wr => ∃ (k : Nat) (cn : Nat → Nat), k ≤ N ∧ i = .int .i64 k ∧ Hid (LinksM wr w.heap.size N (fun n => w.heap.size + 1 + n) cn (fun n k' => k' < k ∧ r k' n)) ∧ Hid (∀ n, cn n ≤ k * K) ∧ Below w.heap.size w wr) (fun i _ => N - (intOf i).toNat)
  case atStart => exact ⟨0, _, Nat.zero_le _, rfl, HL0, (fun n => Nat.zero_le _), hb1⟩
  case round =>
    obtain ⟨k, cn, hk, rfl, HL, HC, hbw⟩ := hrel
    by_cases hlt : k < N
    · have hO := HH.out.below hbw
      have hDl := hO.lt
      have cD := hO.cell k hlt
      obtain ⟨D0, hown, him, hkeys⟩ := hO.keys k hlt
      have HK : Hid (∀ kl, Maps.has D0 kl = true ↔ ∃ q : Nat, kl = .int .i64 q ∧ r k q) := hkeys
      have HS : Hid (Maps.size D0 ≤ K) := Nat.le_trans hown.size_le (HCN.out k hlt)
      have hMl : mp k < w.heap.size := (HH.out.keys k hlt).lt
      clear hO hkeys him
      rename World => wo
      go_wp2_with (first
        | (at_range; refine wpList_range_own _ rfl _ 65 rfl 3 3 Tryz.lawIntG Tryz.underlying65 _ (mp k) (cnt k) _ rfl hown ?_; intro w2 hrg0 hg0 hs0)
        | go_in)
      go_frame
      have hb2 : Below wo.heap.size wo w2 := ⟨hg0.os, hg0.tape, hg0.output, hg0.size, fun q hq => hg0.block q hq (by simp)⟩
      have HL2 : Hid (LinksM w2 w.heap.size N (fun n => w.heap.size + 1 + n) cn (trnR r k (Maps.has D0))) := (HL.out.below hb2).iff fun n k' => by
        unfold trnR
        constructor
        · exact .inl
        · rintro (h | ⟨rfl, h1, h2⟩)
          · exact h
          · have h3 := (HK.out (.int .i64 (n : Int))).2 ⟨n, rfl, h1⟩
            rw [h3] at h2; cases h2
      have hbw2 : Below w.heap.size w w2 := hbw.trans (hb2.mono hbw.size)
      have HMP : Hid (∀ n, n < N → w.heap.size + 1 + n < wo.heap.size) := fun n hn => (HL.out.keys n hn).lt
      have hwo : w.heap.size ≤ wo.heap.size := hbw.size
      have hDo : w.heap.size < wo.heap.size := HL.out.lt
      have HC2 : Hid (∀ n, cn n ≤ k * K + (Maps.size D0 - Maps.size D0)) := fun n => by have := HC.out n; omega
      clear HL HC hb2 hown hg0 cD hDl
      generalize hrr : wo.heap.size = rr at *
      go_loopw [6] (fun _ wr => ∃ (left : Lit → Bool) (ct : Nat) (cn : Nat → Nat), wr.ranges Tryz.prog 3 (plainElem Tryz.prog 3) (mp k) rr (cnt k) D0 left ct ∧ ct ≤ Maps.size D0 ∧ Hid (LinksM wr w.heap.size N (fun n => w.heap.size + 1 + n) cn (trnR r k left)) ∧ Hid (∀ n, cn n ≤ k * K + (Maps.size D0 - ct)) ∧ Hid (∀ kl, left kl = true → Maps.has D0 kl = true) ∧ Below w.heap.size w wr ∧ rr < wr.heap.size) (fun _ wr => wr.rangeLeft (mp k) rr)
      case atStart => exact ⟨_, _, cn, hrg0, Nat.le_refl _, HL2, HC2, (fun kl h => h), hbw2, by omega⟩
      case round =>
        clear HL2 HC2 hbw2 hrg0 hs0 cn
        obtain ⟨left, ct, cn, hrg, hcs, HL, HC, HF, hbr, hsz⟩ := hrel
        go_wp2_with (first
          | (at_next; refine wpList_next_ranges_ii _ rfl _ rfl 3 3 .i64 .i64 Tryz.lawIntG Tryz.underlying3 Tryz.underlying3 (mp k) rr (cnt k) _ _ _ rfl hrg ?_ ?_)
          | go_in)
        · intro hc0 hl0
          have HL5 : Hid (LinksM wr w.heap.size N (fun n => w.heap.size + 1 + n) cn (fun n k' => k' < k + 1 ∧ r k' n)) := HL.out.iff fun n k' => by
            unfold trnR
            constructor
            · rintro (⟨h1, h2⟩ | ⟨rfl, h1, _⟩)
              · exact ⟨by omega, h2⟩
              · exact ⟨by omega, h1⟩
            · rintro ⟨h1, h2⟩
              by_cases e : k' = k
              · subst e; exact .inr ⟨rfl, h2, hl0 _⟩
              · exact .inl ⟨by omega, h2⟩
          have HC5 : Hid (∀ n, cn n ≤ (k + 1) * K) := fun n => by have := HC.out n; have := HS.out; rw [Nat.succ_mul]; omega
          clear HL HC hl0
          go_wp2
          go_roundw
          case rel => exact ⟨k + 1, _, by omega, by go_num, HL5, HC5, hbr⟩
          case measure => simp [intOf]; omega
        · intro x p w3 ct1 hwx hwc hlx hat hrg1 hlt1 hg1 hs1 hen
          obtain ⟨q, hq, hrq⟩ := (HK.out _).1 (HF.out _ hlx)
          obtain rfl : x = (q : Int) := by simpa using hq
          have hqN := HR.out k q hlt hrq
          have hmq := HMP.out q hqN
          have hL3 : LinksM w3 w.heap.size N (fun n => w.heap.size + 1 + n) cn (trnR r k left) := HL.out.grown hg1 (by omega) (fun n hn => by have := HMP.out n hn; show w.heap.size + 1 + n ≠ rr; omega)
          have hcq := HC.out q
          have hS := HS.out
          have hAd := add_any hL3 q k hqN (by omega) (by have : k * K ≤ 300 * K := Nat.mul_le_mul_right _ (by omega)
                                                         omega)
          have HST : Hid (∀ n k', addR (trnR r k left) q k n k' ↔ trnR r k (fun z => left z && !z.sameKey (.int .i64 (q : Int))) n k') := trnR_step r k q left hrq
          clear hq hrq hL3
          go_wp2_with fail
          refine hAd.mono ?_
          rintro e w4 ⟨rfl, hL4, hg4⟩
          have HL4 : Hid (LinksM w4 w.heap.size N (fun n => w.heap.size + 1 + n) (fun n => if n = q then cn n + 1 else cn n) (trnR r k (fun z => left z && !z.sameKey (.int .i64 (q : Int))))) := hL4.iff HST.out
          have hrg2 := hrg1.kept hg4 (fun e => by have := Option.some.inj e; omega) (fun e => by have := Option.some.inj e; omega)
          have HC4 : Hid (∀ n, (if n = q then cn n + 1 else cn n) ≤ k * K + (Maps.size D0 - ct1)) := fun n => by
            have := HC.out n
            split <;> omega
          have hb3 : Below w.heap.size w w3 := hbr.trans (grown_below hg1 (by omega) hbr.size)
          have hb4 : Below w.heap.size w w4 := hb3.trans (grown_below hg4 (by show w.heap.size ≤ w.heap.size + 1 + q; omega) hb3.size)
          have hs4 : rr < w4.heap.size := by have := hg4.size; omega
          clear hL4 hAd HL HC
          go_wp2
          go_roundw
          case rel => exact ⟨_, ct1, _, hrg2, by omega, HL4, HC4, (fun kl hkl => HF.out kl (by simp only [Bool.and_eq_true] at hkl; exact hkl.1)), hb4, hs4⟩
          case measure => rw [hrg2.left_eq, hrg.left_eq]; exact hlt1
    · have HE : Hid (LinksM wr w.heap.size N (fun n => w.heap.size + 1 + n) cn (fun n k' => k' < N ∧ r k' n)) := by
        obtain rfl : k = N := by omega
        exact HL.out
      clear HL
      go_wp2
      go_ret
      exact ⟨rfl, ⟨cn, HE.out, fun n => by have := HC.out n; have : k * K ≤ 300 * K := Nat.mul_le_mul_right _ (by omega); omega⟩, hbw⟩

end Go.Proofs.YtkdoghaoijdedaaGreatDoor

namespace Go.Proofs
open Go.Shelf
def Tryz.lays128_ren : Go.Shelf.Ren := ⟨fun | 128 => 96 | n => n, fun | 51 => 98 | 3 => 3 | 4 => 4 | 46 => 92 | 5 => 5 | 9 => 9 | n => n, fun | n => n⟩
theorem Tryz.lays128 : Go.Proofs.Lays.n128 Tryz.prog Tryz.lays128_ren := {
  mixed := by kernel_rfl
  f128 := Tryz.func96.trans (congrArg some (by kernel_rfl))
  t3 := Tryz.underlying3
  a3 := Tryz.isAgg3
  z3 := Tryz.sizeOf3
  v3 := Tryz.zeroValue3
  t4 := Tryz.underlying4
  a4 := Tryz.isAgg4
  z4 := Tryz.sizeOf4
  v4 := Tryz.zeroValue4
  t5 := Tryz.underlying5
  a5 := Tryz.isAgg5
  z5 := Tryz.sizeOf5
  v5 := Tryz.zeroValue5
  t9 := Tryz.underlying9
  a9 := Tryz.isAgg9
  z9 := Tryz.sizeOf9
  v9 := Tryz.zeroValue9
  t46 := Tryz.underlying92
  a46 := Tryz.isAgg92
  z46 := Tryz.sizeOf92
  v46 := Tryz.zeroValue92
  t51 := Tryz.underlying98
  a51 := Tryz.isAgg98
  z51 := Tryz.sizeOf98
  v51 := Tryz.zeroValue98 }
theorem Tryz.bits_Len32 (x : Int) (w : World) (h0 : 0 ≤ x) (h1 : x ≤ 4294967295) :
    Calls Tryz.prog 96 #[.int .u32 x] w fun e w' => e = .returned (.int .i64 (Lib.bitLen x.toNat)) ∧ w' = w := Any.bits_Len32 Tryz.lays128 x w h0 h1
def Tryz.lays125_ren : Go.Shelf.Ren := ⟨fun | 125 => 83 | 128 => 96 | 129 => 97 | n => n, fun | 46 => 92 | 3 => 3 | 51 => 98 | 53 => 62 | 4 => 4 | 5 => 5 | 9 => 9 | n => n, fun | n => n⟩
theorem Tryz.lays125 : Go.Proofs.Lays.n125 Tryz.prog Tryz.lays125_ren := {
  mixed := by kernel_rfl
  f125 := Tryz.func83.trans (congrArg some (by kernel_rfl))
  f128 := Tryz.func96.trans (congrArg some (by kernel_rfl))
  f129 := Tryz.func97.trans (congrArg some (by kernel_rfl))
  t3 := Tryz.underlying3
  a3 := Tryz.isAgg3
  z3 := Tryz.sizeOf3
  v3 := Tryz.zeroValue3
  t4 := Tryz.underlying4
  a4 := Tryz.isAgg4
  z4 := Tryz.sizeOf4
  v4 := Tryz.zeroValue4
  t5 := Tryz.underlying5
  a5 := Tryz.isAgg5
  z5 := Tryz.sizeOf5
  v5 := Tryz.zeroValue5
  t9 := Tryz.underlying9
  a9 := Tryz.isAgg9
  z9 := Tryz.sizeOf9
  v9 := Tryz.zeroValue9
  t46 := Tryz.underlying92
  a46 := Tryz.isAgg92
  z46 := Tryz.sizeOf92
  v46 := Tryz.zeroValue92
  t51 := Tryz.underlying98
  a51 := Tryz.isAgg98
  z51 := Tryz.sizeOf98
  v51 := Tryz.zeroValue98
  t53 := Tryz.underlying62
  a53 := Tryz.isAgg62
  z53 := Tryz.sizeOf62
  v53 := Tryz.zeroValue62 }
theorem Tryz.bits_Len (x : Int) (w : World) (h0 : 0 ≤ x) (h1 : x ≤ 18446744073709551615) :
    Calls Tryz.prog 83 #[.int .u64 x] w fun e w' => e = .returned (.int .i64 (Lib.bitLen x.toNat)) ∧ w' = w := Any.bits_Len Tryz.lays125 x w h0 h1
def Tryz.lays215_ren : Go.Shelf.Ren := ⟨fun | 215 => 103 | n => n, fun | 3 => 3 | 4 => 4 | n => n, fun | n => n⟩
theorem Tryz.lays215 : Go.Proofs.Lays.n215 Tryz.prog Tryz.lays215_ren := {
  mixed := by kernel_rfl
  f215 := Tryz.func103.trans (congrArg some (by kernel_rfl))
  t3 := Tryz.underlying3
  a3 := Tryz.isAgg3
  z3 := Tryz.sizeOf3
  v3 := Tryz.zeroValue3
  t4 := Tryz.underlying4
  a4 := Tryz.isAgg4
  z4 := Tryz.sizeOf4
  v4 := Tryz.zeroValue4 }
open Go.RowKit in
theorem Tryz.cmp_isNaN_int (x : Int) (w : World) :
    Calls Tryz.prog 103 #[.int .i64 x] w fun e w' => e = .returned (.bool false) ∧ w' = w := Any.cmp_isNaN_int Tryz.lays215 x w
def Tryz.lays129_ren : Go.Shelf.Ren := ⟨fun | 129 => 97 | n => n, fun | 53 => 62 | 3 => 3 | 4 => 4 | 46 => 92 | 5 => 5 | 9 => 9 | n => n, fun | n => n⟩
theorem Tryz.lays129 : Go.Proofs.Lays.n129 Tryz.prog Tryz.lays129_ren := {
  mixed := by kernel_rfl
  f129 := Tryz.func97.trans (congrArg some (by kernel_rfl))
  t3 := Tryz.underlying3
  a3 := Tryz.isAgg3
  z3 := Tryz.sizeOf3
  v3 := Tryz.zeroValue3
  t4 := Tryz.underlying4
  a4 := Tryz.isAgg4
  z4 := Tryz.sizeOf4
  v4 := Tryz.zeroValue4
  t5 := Tryz.underlying5
  a5 := Tryz.isAgg5
  z5 := Tryz.sizeOf5
  v5 := Tryz.zeroValue5
  t9 := Tryz.underlying9
  a9 := Tryz.isAgg9
  z9 := Tryz.sizeOf9
  v9 := Tryz.zeroValue9
  t46 := Tryz.underlying92
  a46 := Tryz.isAgg92
  z46 := Tryz.sizeOf92
  v46 := Tryz.zeroValue92
  t53 := Tryz.underlying62
  a53 := Tryz.isAgg62
  z53 := Tryz.sizeOf62
  v53 := Tryz.zeroValue62 }
theorem Tryz.bits_Len64 (x : Int) (w : World) (h0 : 0 ≤ x) (h1 : x ≤ 18446744073709551615) :
    Calls Tryz.prog 97 #[.int .u64 x] w fun e w' => e = .returned (.int .i64 (Lib.bitLen x.toNat)) ∧ w' = w := Any.bits_Len64 Tryz.lays129 x w h0 h1
def Tryz.lays189_ren : Go.Shelf.Ren := ⟨fun | 189 => 69 | 125 => 83 | 257 => 82 | 128 => 96 | 129 => 97 | 294 => 87 | 295 => 88 | 296 => 89 | 297 => 90 | 298 => 91 | 299 => 92 | 216 => 93 | 300 => 94 | 301 => 95 | 328 => 98 | 329 => 99 | 330 => 100 | 331 => 101 | 332 => 102 | 215 => 103 | 343 => 104 | n => n, fun | 28 => 23 | 3 => 3 | 46 => 92 | 0 => 0 | 51 => 98 | 53 => 62 | 4 => 4 | 183 => 105 | 182 => 104 | 131 => 84 | 5 => 5 | 9 => 9 | 218 => 112 | 222 => 116 | 228 => 118 | 229 => 119 | n => n, fun | n => n⟩
theorem Tryz.lays189 : Go.Proofs.Lays.n189 Tryz.prog Tryz.lays189_ren := {
  mixed := by kernel_rfl
  f125 := Tryz.func83.trans (congrArg some (by kernel_rfl))
  f128 := Tryz.func96.trans (congrArg some (by kernel_rfl))
  f129 := Tryz.func97.trans (congrArg some (by kernel_rfl))
  f189 := Tryz.func69.trans (congrArg some (by kernel_rfl))
  f215 := Tryz.func103.trans (congrArg some (by kernel_rfl))
  f216 := Tryz.func93.trans (congrArg some (by kernel_rfl))
  f257 := Tryz.func82.trans (congrArg some (by kernel_rfl))
  f294 := Tryz.func87.trans (congrArg some (by kernel_rfl))
  f295 := Tryz.func88.trans (congrArg some (by kernel_rfl))
  f296 := Tryz.func89.trans (congrArg some (by kernel_rfl))
  f297 := Tryz.func90.trans (congrArg some (by kernel_rfl))
  f298 := Tryz.func91.trans (congrArg some (by kernel_rfl))
  f299 := Tryz.func92.trans (congrArg some (by kernel_rfl))
  f300 := Tryz.func94.trans (congrArg some (by kernel_rfl))
  f301 := Tryz.func95.trans (congrArg some (by kernel_rfl))
  f328 := Tryz.func98.trans (congrArg some (by kernel_rfl))
  f329 := Tryz.func99.trans (congrArg some (by kernel_rfl))
  f330 := Tryz.func100.trans (congrArg some (by kernel_rfl))
  f331 := Tryz.func101.trans (congrArg some (by kernel_rfl))
  f332 := Tryz.func102.trans (congrArg some (by kernel_rfl))
  f343 := Tryz.func104.trans (congrArg some (by kernel_rfl))
  t0 := Tryz.underlying0
  a0 := Tryz.isAgg0
  z0 := Tryz.sizeOf0
  v0 := Tryz.zeroValue0
  t3 := Tryz.underlying3
  a3 := Tryz.isAgg3
  z3 := Tryz.sizeOf3
  v3 := Tryz.zeroValue3
  t4 := Tryz.underlying4
  a4 := Tryz.isAgg4
  z4 := Tryz.sizeOf4
  v4 := Tryz.zeroValue4
  t5 := Tryz.underlying5
  a5 := Tryz.isAgg5
  z5 := Tryz.sizeOf5
  v5 := Tryz.zeroValue5
  t9 := Tryz.underlying9
  a9 := Tryz.isAgg9
  z9 := Tryz.sizeOf9
  v9 := Tryz.zeroValue9
  t28 := Tryz.underlying23
  a28 := Tryz.isAgg23
  z28 := Tryz.sizeOf23
  v28 := Tryz.zeroValue23
  t46 := Tryz.underlying92
  a46 := Tryz.isAgg92
  z46 := Tryz.sizeOf92
  v46 := Tryz.zeroValue92
  t51 := Tryz.underlying98
  a51 := Tryz.isAgg98
  z51 := Tryz.sizeOf98
  v51 := Tryz.zeroValue98
  t53 := Tryz.underlying62
  a53 := Tryz.isAgg62
  z53 := Tryz.sizeOf62
  v53 := Tryz.zeroValue62
  t131 := Tryz.underlying84
  a131 := Tryz.isAgg84
  z131 := Tryz.sizeOf84
  v131 := Tryz.zeroValue84
  t182 := Tryz.underlying104
  a182 := Tryz.isAgg104
  z182 := Tryz.sizeOf104
  v182 := Tryz.zeroValue104
  t183 := Tryz.underlying105
  a183 := Tryz.isAgg105
  z183 := Tryz.sizeOf105
  v183 := Tryz.zeroValue105
  t218 := Tryz.underlying112
  a218 := Tryz.isAgg112
  z218 := Tryz.sizeOf112
  v218 := Tryz.zeroValue112
  t222 := Tryz.underlying116
  a222 := Tryz.isAgg116
  z222 := Tryz.sizeOf116
  v222 := Tryz.zeroValue116
  t228 := Tryz.underlying118
  a228 := Tryz.isAgg118
  z228 := Tryz.sizeOf118
  v228 := Tryz.zeroValue118
  t229 := Tryz.underlying119
  a229 := Tryz.isAgg119
  z229 := Tryz.sizeOf119
  v229 := Tryz.zeroValue119 }
open Go.Sort Go.RowKit in
theorem Tryz.slices_Sort_int (blk off cap : Nat) (zs : List Int) (w : World) (hH : Holds (Value.int .i64) w blk off zs.toArray) (hblk : blk < w.heap.size) (hsz : zs.length < 4611686018427387904) :
    Calls Tryz.prog 69 #[.slice (some ⟨blk, off, none⟩) zs.length cap] w fun e w' =>
      e = .returned (.tuple #[]) ∧ ∃ n os, w' = grow (putRow (Value.int .i64) (Sort.ahead w n) blk off (zs.mergeSort fun x y => decide (x ≤ y)).toArray) os := Any.slices_Sort_int Tryz.lays189 blk off cap zs w hH hblk hsz
def Tryz.lays264_ren : Go.Shelf.Ren := ⟨fun | 264 => 86 | n => n, fun | 53 => 62 | 46 => 92 | n => n, fun | n => n⟩
theorem Tryz.lays264 : Go.Proofs.Lays.n264 Tryz.prog Tryz.lays264_ren := {
  mixed := by kernel_rfl
  f264 := Tryz.func86.trans (congrArg some (by kernel_rfl))
  t46 := Tryz.underlying92
  a46 := Tryz.isAgg92
  z46 := Tryz.sizeOf92
  v46 := Tryz.zeroValue92
  t53 := Tryz.underlying62
  a53 := Tryz.isAgg62
  z53 := Tryz.sizeOf62
  v53 := Tryz.zeroValue62 }
open Go.RowKit Go.Lib in
theorem Tryz.bits_Mul64 (x y : Nat) (hx : x < 18446744073709551616) (hy : y < 18446744073709551616) (w : World) :
    Calls Tryz.prog 86 #[.int .u64 x, .int .u64 y] w fun e w' => e = .returned (.tuple #[.int .u64 ((x * y / 18446744073709551616 : Nat) : Int), .int .u64 ((x * y % 18446744073709551616 : Nat) : Int)]) ∧ w' = w := Any.bits_Mul64 Tryz.lays264 x y hx hy w
def Tryz.lays212_ren : Go.Shelf.Ren := ⟨fun | 212 => 81 | 263 => 85 | 264 => 86 | n => n, fun | 46 => 92 | 51 => 98 | 146 => 99 | 53 => 62 | 148 => 101 | n => n, fun | n => n⟩
theorem Tryz.lays212 : Go.Proofs.Lays.n212 Tryz.prog Tryz.lays212_ren := {
  mixed := by kernel_rfl
  f212 := Tryz.func81.trans (congrArg some (by kernel_rfl))
  f263 := Tryz.func85.trans (congrArg some (by kernel_rfl))
  f264 := Tryz.func86.trans (congrArg some (by kernel_rfl))
  t46 := Tryz.underlying92
  a46 := Tryz.isAgg92
  z46 := Tryz.sizeOf92
  v46 := Tryz.zeroValue92
  t51 := Tryz.underlying98
  a51 := Tryz.isAgg98
  z51 := Tryz.sizeOf98
  v51 := Tryz.zeroValue98
  t53 := Tryz.underlying62
  a53 := Tryz.isAgg62
  z53 := Tryz.sizeOf62
  v53 := Tryz.zeroValue62
  t146 := Tryz.underlying99
  a146 := Tryz.isAgg99
  z146 := Tryz.sizeOf99
  v146 := Tryz.zeroValue99
  t148 := Tryz.underlying101
  a148 := Tryz.isAgg101
  z148 := Tryz.sizeOf101
  v148 := Tryz.zeroValue101 }
open Go.RowKit Go.Lib in
theorem Tryz.bits_Mul (x y : Nat) (hx : x < 18446744073709551616) (hy : y < 18446744073709551616) (w : World) :
    Calls Tryz.prog 81 #[.int .u64 x, .int .u64 y] w fun e w' => e = .returned (.tuple #[.int .u64 ((x * y / 18446744073709551616 : Nat) : Int), .int .u64 ((x * y % 18446744073709551616 : Nat) : Int)]) ∧ w' = w := Any.bits_Mul Tryz.lays212 x y hx hy w
def Tryz.laysNm220_ren : Go.Shelf.Ren := ⟨fun | 20 => 70 | n => n, fun | 22 => 23 | 3 => 3 | 4 => 4 | 0 => 0 | n => n, fun | n => n⟩
theorem Tryz.laysNm220 : Go.Proofs.Lays2.n20 Tryz.prog Tryz.laysNm220_ren := {
  mixed := by kernel_rfl
  f20 := Tryz.func70.trans (congrArg some (by kernel_rfl))
  t0 := Tryz.underlying0
  a0 := Tryz.isAgg0
  z0 := Tryz.sizeOf0
  v0 := Tryz.zeroValue0
  t3 := Tryz.underlying3
  a3 := Tryz.isAgg3
  z3 := Tryz.sizeOf3
  v3 := Tryz.zeroValue3
  t4 := Tryz.underlying4
  a4 := Tryz.isAgg4
  z4 := Tryz.sizeOf4
  v4 := Tryz.zeroValue4
  t22 := Tryz.underlying23
  a22 := Tryz.isAgg23
  z22 := Tryz.sizeOf23
  v22 := Tryz.zeroValue23
  i3 := by kernel_rfl }
open Go.RowKit Go.Lib Go.Sort in
theorem Tryz.slices_Compact_int_arr (blk off cap : Nat) (d : Array Int) (w : World) (hH : Holds encI w blk off d) (hsz : d.size ≤ 9223372036854775807) (hcap : d.size ≤ cap) :
    Calls Tryz.prog 70 #[.slice (some ⟨blk, off, none⟩) d.size cap] w fun e w' => e = .returned (.slice (some ⟨blk, off, none⟩) (compactUpTo d d.size).length cap) ∧ ∃ q, w' = putRow encI (Sort.ahead w q) blk off (compactUpTo d d.size ++ List.replicate (d.size - (compactUpTo d d.size).length) 0).toArray := Any.slices_Compact_int_arr Tryz.laysNm220 blk off cap d w hH hsz hcap
open Go.RowKit Go.Lib Go.Sort in
theorem Tryz.slices_Compact_int (blk off cap : Nat) (zs : List Int) (w : World) (hH : Holds (Value.int .i64) w blk off zs.toArray) (hsz : zs.length ≤ 9223372036854775807) (hcap : zs.length ≤ cap) :
    Calls Tryz.prog 70 #[.slice (some ⟨blk, off, none⟩) zs.length cap] w fun e w' => e = .returned (.slice (some ⟨blk, off, none⟩) (Lib.compact zs).length cap) ∧ ∃ q, w' = putRow (Value.int .i64) (Sort.ahead w q) blk off (Lib.compact zs ++ List.replicate (zs.length - (Lib.compact zs).length) 0).toArray := Any.slices_Compact_int Tryz.laysNm220 blk off cap zs w hH hsz hcap
open Go.RowKit Go.Lib Go.Sort in
theorem Tryz.slices_Compact_int_empty (a : Option Addr) (cap : Nat) (w : World) :
    Calls Tryz.prog 70 #[.slice a 0 cap] w fun e w' => e = .returned (.slice a 0 cap) ∧ w' = w := Any.slices_Compact_int_empty Tryz.laysNm220 a cap w
open Go.RowKit Go.Lib Go.Sort in
theorem Tryz.slices_Compact_int_cells (b off n c : Nat) (zs : List Int) (w : World) (hz : n ≤ zs.length) (hbig : n ≤ 9223372036854775807) (hcap : n ≤ c) (hc : ∀ j, j < zs.length → w.cell? ⟨b, off + j, none⟩ = some (.int .i64 (zs.getD j 0))) (hf : ∀ j, j < n → w.frozen? ⟨b, off + j, none⟩ = false) :
    Calls Tryz.prog 70 #[.slice (some ⟨b, off, none⟩) n c] w fun e w' => e = .returned (.slice (some ⟨b, off, none⟩) (Lib.compact (zs.take n)).length c) ∧ ∃ q, w' = (w.drewN q).setCells b off ((Lib.compact (zs.take n) ++ List.replicate (n - (Lib.compact (zs.take n)).length) 0).map (Value.int .i64)) := Any.slices_Compact_int_cells Tryz.laysNm220 b off n c zs w hz hbig hcap hc hf
open Go.RowKit Go.Sort in
theorem Tryz.slices_Sort_int_none (p : Option Addr) (cap : Nat) (w : World) :
    Calls Tryz.prog 69 #[.slice p 0 cap] w fun e w' => e = .returned (.tuple #[]) ∧ w' = w := Any.slices_Sort_int_none Tryz.lays189 p cap w
end Go.Proofs

namespace Go.Proofs.YtkdoghaoijdedaaGreatDoor
open Go.RowKit
set_option linter.unusedVariables false
set_option maxRecDepth 100000

/-- the first n of N cells are these -/
def repZ (x z : Value) (n N : Nat) : List Value := List.replicate n x ++ List.replicate (N - n) z
theorem repZ_len (x z : Value) (n N : Nat) (h : n ≤ N) : (repZ x z n N).length = N := by simp [repZ]; omega
theorem repZ_splice (x z : Value) (n m N : Nat) (h : n + m ≤ N) : splice (repZ x z n N) n (List.replicate m x) = repZ x z (n + m) N := by
  unfold splice repZ
  rw [List.take_append_of_le_length (by simp), List.take_of_length_le (by simp), List.drop_append]
  simp only [List.length_replicate, List.drop_replicate]
  rw [show n - (n + m) = 0 by omega, show n + m - n = m by omega, show N - n - m = N - (n + m) by omega, List.replicate_zero, List.nil_append, ← List.append_assoc, List.replicate_append_replicate]
theorem repZ_get (x z : Value) (n N j : Nat) (h : j < n) : (repZ x z n N)[j]? = some x := by
  unfold repZ
  rw [List.getElem?_append_left (by simp; exact h)]
  simp [h]

end Go.Proofs.YtkdoghaoijdedaaGreatDoor
