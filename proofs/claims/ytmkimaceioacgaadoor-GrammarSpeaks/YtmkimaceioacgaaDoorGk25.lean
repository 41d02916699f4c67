/- Texts of the proof, put together: GSpP, GMkL, GSpQ, GTbD. -/
import Derived.Test.YtmkimaceioacgaaDoorGk21
import Derived.Test.YtmkimaceioacgaaDoorGk24
import Derived.Test.YtmkimaceioacgaaDoorGk13
import Derived.Test.YtmkimaceioacgaaDoorGk08
import Derived.Shelf.Spec.TrailingZeros
import Derived.Deep.AppendLies
import Derived.Test.YtmkimaceioacgaaDoorGk05
import Derived.Test.YtmkimaceioacgaaDoorGk01
namespace Go.Proofs.YtmkimaceioacgaaDoor
set_option linter.unusedVariables false

theorem cat_lenL {f : Nat → Option (List Int)} {g : Nat → Option Nat} (h : ∀ n l, f n = some l → ∃ k, g n = some k ∧ k ≤ l.length) : ∀ (r : List Int) (l : List Int), catS f r = some l → ∃ k, rowL g r = some k ∧ k ≤ l.length
  | [], l, _ => ⟨0, rfl, Nat.zero_le _⟩
  | s :: r, l, hc => by
    rw [catS] at hc
    cases h1 : (if s < 0 then f (-1 - s).toNat else some [s]) with
    | none => rw [h1] at hc; simp [catO] at hc
    | some x =>
      cases h2 : catS f r with
      | none => rw [h1, h2] at hc; simp [catO] at hc
      | some z =>
        rw [h1, h2] at hc
        have hxz : x ++ z = l := by simpa [catO] using hc
        obtain ⟨k2, e2, l2⟩ := cat_lenL h r z h2
        have h3 : ∃ k, (if s < 0 then g (-1 - s).toNat else some 1) = some k ∧ k ≤ x.length := by
          by_cases e : s < 0
          · rw [if_pos e] at h1 ⊢; exact h _ x h1
          · rw [if_neg e] at h1 ⊢
            have : x = [s] := by simpa using h1.symm
            exact ⟨1, rfl, by rw [this]; simp⟩
        obtain ⟨k1, e1, l1⟩ := h3
        refine ⟨k1 + k2, ?_, by rw [← hxz, List.length_append]; omega⟩
        rw [rowL, e1, e2]
theorem cat_ofL {f : Nat → Option (List Int)} {g : Nat → Option Nat} (h : ∀ n k, g n = some k → k ≤ 1000 → ∃ l, f n = some l ∧ l.length ≤ k) : ∀ (r : List Int) (k : Nat), rowL g r = some k → k ≤ 1000 → ∃ l, catS f r = some l ∧ l.length ≤ k
  | [], k, _, _ => ⟨[], rfl, Nat.zero_le _⟩
  | s :: r, k, hc, hk => by
    rw [rowL] at hc
    cases h1 : (if s < 0 then g (-1 - s).toNat else some 1) with
    | none => rw [h1] at hc; simp at hc
    | some x =>
      cases h2 : rowL g r with
      | none => rw [h1, h2] at hc; simp at hc
      | some z =>
        rw [h1, h2] at hc
        have hxz : x + z = k := by simpa using hc
        obtain ⟨l2, e2, b2⟩ := cat_ofL h r z h2 (by omega)
        have h3 : ∃ l, (if s < 0 then f (-1 - s).toNat else some [s]) = some l ∧ l.length ≤ x := by
          by_cases e : s < 0
          · rw [if_pos e] at h1 ⊢; exact h _ x h1 (by omega)
          · rw [if_neg e] at h1 ⊢
            have : x = 1 := by simpa using h1.symm
            exact ⟨[s], rfl, by rw [this]; simp⟩
        obtain ⟨l1, e1, b1⟩ := h3
        refine ⟨l1 ++ l2, ?_, by rw [List.length_append]; omega⟩
        rw [catS, e1, e2]
        rfl
theorem told_le {a : Option (List Int)} {l : List Int} (h : toldS a = some l) : l.length ≤ 1000 := by
  unfold toldS at h
  split at h
  · cases h
  · split at h
    · rename_i hx
      have : _ = l := Option.some.inj h
      rw [← this]; exact hx
    · cases h
theorem best_len {ps : List PrS} : ∀ (h n : Nat) (l : List Int), bestS ps h n = some l → l.length ≤ 1000 ∧ ∃ k, bestH ps h n = some k ∧ k ≤ l.length
  | 0, n, l, hb => by simp [bestS] at hb
  | h + 1, n, l, hb => by
    have hb' : saysS ps (bestS ps h) n = some l := hb
    rcases saysS_of ps (bestS ps h) n with e | ⟨p, hp, rfl, e⟩
    · rw [e] at hb'; cases hb'
    · rw [e] at hb'
      refine ⟨told_le hb', ?_⟩
      obtain ⟨k, hk, hkl⟩ := cat_lenL (g := bestH ps h) (fun m l' hm => (best_len h m l' hm).2) _ l (told_some hb')
      have hle := saysL_le (f := bestH ps h) hp
      rw [hk] at hle
      show ∃ k, saysL ps (bestH ps h) p.left = some k ∧ _
      cases hs : saysL ps (bestH ps h) p.left with
      | none => rw [hs] at hle; simp [capO, leO] at hle
      | some k' =>
        rw [hs] at hle
        refine ⟨k', rfl, ?_⟩
        simp [capO, leO] at hle
        omega
theorem closed_len {ps : List PrS} {f : Nat → Option (List Int)} (hc : ClosedS ps f) : ∀ (h n k : Nat), bestH ps h n = some k → k ≤ 1000 → ∃ l, f n = some l ∧ l.length ≤ k
  | 0, n, k, hb, _ => by simp [bestH] at hb
  | h + 1, n, k, hb, hk => by
    have hb' : saysL ps (bestH ps h) n = some k := hb
    rcases saysL_of ps (bestH ps h) n with e | ⟨p, hp, rfl, e⟩
    · rw [e] at hb'; cases hb'
    · rw [e] at hb'
      have h0 : rowL (bestH ps h) p.right = some k := by
        cases hr : rowL (bestH ps h) p.right with
        | none => rw [hr] at hb'; simp [capO] at hb'
        | some k0 =>
          rw [hr] at hb'
          simp [capO] at hb'
          rw [show k0 = k by omega]
      obtain ⟨l, hl, hll⟩ := cat_ofL (fun m k' hm hk' => closed_len hc h m k' hm hk') _ k h0 hk
      have hle := hc p hp
      rw [hl] at hle
      have ht : toldS (some l) = some l := by unfold toldS; simp; omega
      rw [ht] at hle
      cases hs : f p.left with
      | none => rw [hs] at hle; exact hle.elim
      | some x =>
        rw [hs] at hle
        exact ⟨x, rfl, Nat.le_trans (slx.len hle) hll⟩
theorem tree_len {ps : List PrS} : ∀ (h n : Nat), hgtB true ps h n = true → ∃ k, bestH ps h n = some k
  | 0, n, hb => by simp [hgtB] at hb
  | h + 1, n, hb => by
    obtain ⟨p, hp, rfl, hr⟩ := (saysB_iff _ _ _ _).1 (show saysB true ps (hgtB true ps h) n = true from hb)
    have hrow : ∀ r : List Int, hasB true (hgtB true ps h) r = true → ∃ k, rowL (bestH ps h) r = some k := by
      intro r
      induction r with
      | nil => intro _; exact ⟨0, rfl⟩
      | cons s r ih =>
        intro hh
        unfold hasB at hh
        rw [List.all_cons, Bool.and_eq_true] at hh
        obtain ⟨k2, e2⟩ := ih hh.2
        have h3 : ∃ k, (if s < 0 then bestH ps h (-1 - s).toNat else some 1) = some k := by
          by_cases e : s < 0
          · rw [if_pos e]
            have := hh.1
            rw [if_pos e] at this
            exact tree_len h _ this
          · rw [if_neg e]; exact ⟨1, rfl⟩
        obtain ⟨k1, e1⟩ := h3
        exact ⟨k1 + k2, by rw [rowL, e1, e2]⟩
    obtain ⟨k, hk⟩ := hrow _ hr
    have hle := saysL_le (f := bestH ps h) hp
    rw [hk] at hle
    show ∃ k, saysL ps (bestH ps h) p.left = some k
    cases hs : saysL ps (bestH ps h) p.left with
    | none => rw [hs] at hle; simp [capO, leO] at hle
    | some k' => exact ⟨k', rfl⟩
/-- a told sentence is as long as it is said -/
theorem speak_len {ps : List PrS} {N : Nat} (hN : ∀ p ∈ ps, p.left < N) {f : Nat → Option (List Int)} (hs : SoundS ps f) (hc : ClosedS ps f) {n : Nat} {l : List Int} (hf : f n = some l) : bestH ps N n = some l.length ∧ ∃ h, bestS ps h n = some l := by
  obtain ⟨h, hle⟩ := hs n
  have he : bestS ps h n = some l := by rw [← hf]; exact leS.antisymm hle (hc.le h n)
  obtain ⟨hl1, k, hk, hkl⟩ := best_len h n l he
  refine ⟨?_, h, he⟩
  have hN2 : ∃ k', bestH ps N n = some k' ∧ k' ≤ k := by
    rcases Nat.le_total h N with h1 | h1
    · have := bestH_le ps h1 n
      rw [hk] at this
      cases hb : bestH ps N n with
      | none => rw [hb] at this; simp [leO] at this
      | some k' => rw [hb] at this; exact ⟨k', rfl, by simpa [leO] using this⟩
    · exact ⟨k, by rw [← fin_all ps N hN n h h1]; exact hk, Nat.le_refl _⟩
  obtain ⟨k', hk', hkk⟩ := hN2
  obtain ⟨l2, h2, h3⟩ := closed_len hc N n k' hk' (by omega)
  rw [hf] at h2
  have : l = l2 := Option.some.inj h2
  subst this
  rw [hk']
  congr 1
  omega
theorem speak_none {ps : List PrS} {N : Nat} {f : Nat → Option (List Int)} (hc : ClosedS ps f) {n : Nat} (hf : f n = none) (hl : hgtB true ps N n = true) : ∃ k, bestH ps N n = some k ∧ 1000 < k := by
  obtain ⟨k, hk⟩ := tree_len N n hl
  refine ⟨k, hk, ?_⟩
  refine Classical.byContradiction fun h => ?_
  obtain ⟨l, h1, _⟩ := closed_len hc N n k hk (by omega)
  rw [hf] at h1
  cases h1

end Go.Proofs.YtmkimaceioacgaaDoor

namespace Go.Proofs.YtmkimaceioacgaaDoor
open Go.RowKit
set_option linter.unusedVariables false
set_option maxRecDepth 100000

def bitsN (m : Nat) : List Nat := (List.range 9).filter m.testBit
def bitsZ (m : Nat) : List Int := (bitsN m).map fun (n : Nat) => (n : Int)
theorem bitsN_step : ∀ m : Fin 512, m.val ≠ 0 → bitsN m.val = Lib.ctz 64 m.val :: bitsN (m.val &&& (m.val - 1)) ∧ m.val &&& (m.val - 1) < m.val ∧ Lib.ctz 64 m.val < 9 := by decide +kernel
theorem bitsZ_step {m : Nat} (hm : m < 512) (h0 : m ≠ 0) : bitsZ m = (Lib.ctz 64 m : Int) :: bitsZ (m &&& (m - 1)) := by
  have := (bitsN_step ⟨m, hm⟩ h0).1
  unfold bitsZ
  rw [this]
  rfl
theorem bitsZ_zero : bitsZ 0 = [] := by decide
theorem bitsZ_len (m : Nat) : (bitsZ m).length ≤ 9 := by
  unfold bitsZ bitsN
  rw [List.length_map]
  exact Nat.le_trans (List.length_filter_le _ _) (by simp)

set_option maxHeartbeats 1000000 in
theorem tz_core (x k idx : Nat) (w : World) (hx0 : ((x : Int) == 0) = false)
    (key : IntKind.u64.wrap (bits BinOp.and IntKind.u64 (x : Int) (IntKind.u64.wrap (-(x : Int))) * 285870213051353865) / 288230376151711744 = (idx : Int))
    (hi : idx < 64) (hk : k < 64) (hcell : w.cell? ⟨0, idx, none⟩ = some (.int .u8 k)) :
    Calls Tryd.prog 67 #[.int .u64 x] w fun e w' => e = .returned (.int .i64 k) ∧ w' = w := by
  go_enter Tryd.func67, Tryd.ntmps67
  go_wp2_with (simp only [key])
  go_ret
  exact ⟨rfl, rfl⟩
theorem tz_any (x : Nat) (hx : x < 512) (hx0 : x ≠ 0) (w : World) (hT : TabAt 0 Lib.deBruijn64tab w) :
    Calls Tryd.prog 67 #[.int .u64 x] w fun e w' => e = .returned (.int .i64 (Lib.ctz 64 x)) ∧ w' = w := by
  obtain ⟨hlow, hk⟩ := Lib.lowest_bit 64 x hx0 (by omega)
  obtain ⟨hi, htab⟩ := Lib.deBruijn64_at _ hk
  have hcell := hT _ hi
  rw [htab] at hcell
  exact tz_core x _ _ w (by simp; omega) (tz64_key x _ (by omega) hx0 hlow) hi hk hcell
theorem tab_below {g : Nat} {tab : List Nat} {w w' : World} (h : TabAt g tab w) {K : Nat} (hg : g < K) (hb : Below K w w') : TabAt g tab w' := fun j hj => (hb.cell (p := ⟨g, j, none⟩) hg).trans (h j hj)
set_option maxHeartbeats 4000000 in
theorem mlist_any (m : Nat) (hm : m < 512) (w : World) (hG : 0 < w.heap.size) (hT : TabAt 0 Lib.deBruijn64tab w) : Calls Tryd.prog 43 #[mkV m] w fun e w' => ∃ v, e = .returned v ∧ OwnI w' (w.heap.size + 1) v (bitsZ m) ∧ Below w.heap.size w w' := by
  have hA := alloc_at w (.cells (mkA m) 76)
  have hs := alloc_size w (.cells (mkA m) 76)
  have hB := alloc_below w (.cells (mkA m) 76)
  have HQ : Hid (BoxM (w.alloc (.cells (mkA m) 76)) w.heap.size m) := hA
  have HT : Hid (∀ wx, Below w.heap.size w wx → TabAt 0 Lib.deBruijn64tab wx) := fun wx hb => tab_below hT hG hb
  have HS : Hid ((w.alloc (.cells (mkA m) 76)).heap.size = w.heap.size + 1) := hs
  obtain ⟨i0, hi0, hz0, hz1, hz2⟩ := infoParts Tryd.infoInt
  clear hA hs hT hG
  unfold mkV
  unfold mkA at *
  have c0 := HQ.out.c0
  have c1 := HQ.out.c1
  have c2 := HQ.out.c2
  have c3 := HQ.out.c3
  have c4 := HQ.out.c4
  have lq := HQ.out.lt
  go_enter Tryd.func43, Tryd.ntmps43
  go_wp2
  clear c0 c1 c2 c3 c4 lq HQ
  generalize w.alloc (.cells #[.int .u64 m, .int .u64 0, .int .u64 0, .int .u64 0, .int .u64 0] 76) = W at *
  go_loopw [3, 7] (fun ov iv wr => ∃ z : Int, 0 ≤ z ∧ z ≤ 5 ∧ iv = .int .i64 z ∧ Hid (OwnI wr (w.heap.size + 1) ov (if z = 0 then [] else bitsZ m)) ∧ Below (w.heap.size + 1) W wr) (fun _ iv _ => 5 - (intOf iv).toNat)
  case atStart => exact ⟨0, by omega, by omega, rfl, ⟨rfl, .inl ⟨rfl, rfl⟩⟩, Below.refl _ _⟩
  case round =>
    obtain ⟨z, hz0', hz5, rfl, HO, hb⟩ := hrel
    have hbx : Below w.heap.size w wr := hB.trans (hb.mono (Nat.le_succ _))
    obtain ⟨oa, oc, hoe⟩ := HO.out.slice
    subst hoe
    by_cases hz : z < 5
    · obtain ⟨r0, hr0⟩ : ∃ r0, r0 = if z = 0 then m else 0 := ⟨_, rfl⟩
      have hx : ∀ w, (Instr.index 76 (.agg #[.int .u64 m, .int .u64 0, .int .u64 0, .int .u64 0, .int .u64 0]) (.int .i64 z)).run Tryd.prog w = .ok (.int .u64 r0) w := fun w => by
        have h9 := idxM m z.toNat (by omega) w
        rw [Int.toNat_of_nonneg hz0'] at h9
        unfold mkA at h9
        rw [h9, hr0]
        by_cases e : z = 0
        · rw [if_pos (by omega), if_pos e]
        · rw [if_neg (by omega), if_neg e]; rfl
      have hr5 : r0 < 512 := by rw [hr0]; split <;> omega
      have HZ : Hid (r0 ≠ 0 → z = 0) := fun h => by
        by_cases e : z = 0
        · exact e
        · rw [hr0, if_neg e] at h; exact absurd rfl h
      have HL0 : Hid ((if z = 0 then [] else bitsZ m) ++ bitsZ r0 = bitsZ m) := by
        show _ = _
        rw [hr0]
        by_cases e : z = 0
        · rw [if_pos e, if_pos e]; rfl
        · rw [if_neg e, if_neg e, bitsZ_zero, List.append_nil]
      clear hr0
      generalize (if z = 0 then [] else bitsZ m) = zs0 at *
      rename World => wo
      go_wp2
      clear hx
      go_loopw [3, 5] (fun ov wv wr => ∃ (r : Nat) (zs : List Int), r < 512 ∧ wv = .int .u64 r ∧ Hid (r ≠ 0 → z = 0) ∧ Hid (OwnI wr (w.heap.size + 1) ov zs) ∧ Hid (zs ++ bitsZ r = bitsZ m) ∧ Below (w.heap.size + 1) W wr) (fun _ wv _ => (intOf wv).toNat)
      case atStart => exact ⟨r0, zs0, hr5, rfl, HZ, HO, HL0, hb⟩
      case round =>
        clear HZ HO HL0 hb hbx
        obtain ⟨r, zs, hr, rfl, HZ, HO, HL, hb⟩ := hrel
        have hbx : Below w.heap.size w wr := hB.trans (hb.mono (Nat.le_succ _))
        obtain ⟨oa, oc, hoe⟩ := HO.out.slice
        subst hoe
        by_cases hr0 : r = 0
        · subst hr0
          have HE : Hid (OwnI wr (w.heap.size + 1) (.slice oa zs.length oc) (if z + 1 = 0 then [] else bitsZ m)) := by
            have h9 := HL.out
            rw [bitsZ_zero, List.append_nil] at h9
            rw [if_neg (by omega), ← h9]
            exact HO.out
          clear HO HL HZ
          go_wp2
          go_roundw
          case rel => exact ⟨z + 1, by omega, by omega, by go_num, HE, hb⟩
          case measure => simp [intOf]; omega
        · obtain rfl : z = 0 := HZ.out hr0
          obtain ⟨_, hlt, hc9⟩ := bitsN_step ⟨r, hr⟩ hr0
          simp only at hlt hc9
          have hC := tz_any r hr hr0 wr (HT.out wr hbx)
          have HN : Hid ((zs ++ [(Lib.ctz 64 r : Int)]) ++ bitsZ (r &&& (r - 1)) = bitsZ m) := by
            show _ = _
            rw [← HL.out, bitsZ_step hr hr0]
            simp
          have hzl : zs.length ≤ 9 := by
            have h8 := congrArg List.length HL.out
            rw [List.length_append] at h8
            have := bitsZ_len m
            omega
          have hsub : IntKind.u64.wrap ((r : Int) - 1) = ((r - 1 : Nat) : Int) := by rw [IntKind.wrap_u64]; omega
          have hand : bits BinOp.and IntKind.u64 (r : Int) ((r - 1 : Nat) : Int) = ((r &&& (r - 1) : Nat) : Int) := bits_and_u64_nat r (r - 1) (by omega) (by omega)
          have hr2 : r &&& (r - 1) < 512 := by omega
          have HZ2 : Hid (r &&& (r - 1) ≠ 0 → (0 : Int) = 0) := fun _ => rfl
          have HLT : Hid (r &&& (r - 1) < r) := hlt
          have hne : ((r : Int) == 0) = false := by rw [beq_eq_false_iff_ne]; omega
          generalize Lib.ctz 64 r = c at *
          generalize hrr : r &&& (r - 1) = r2 at *
          generalize hr1 : r - 1 = r1 at *
          clear hrr hr1 HZ HL hlt
          have hwc : IntKind.i64.wrap (c : Int) = (c : Int) := by rw [IntKind.wrap_i64]; omega
          have HOW : Hid (∀ o, (wr.alloc o).ownsRow (w.heap.size + 1) 3 1 (.slice oa zs.length oc) zs.length (zs.map (Value.int .i64))) := fun o => World.ownsRow.alloc HO.out o
          have HSTP : Hid (∀ o w9 g9 cap9, w9.ownsRow (w.heap.size + 1) 3 1 (.slice (some ⟨g9, 0, none⟩) (zs.length + 1) cap9) (zs.length + 1) (zs.map (Value.int .i64) ++ [.int .i64 (c : Int)]) → (wr.alloc o).grownBy w9 (Value.slice oa zs.length oc).ownBlock → OwnI w9 (w.heap.size + 1) (.slice (some ⟨g9, 0, none⟩) (zs.length + 1) cap9) (zs ++ [(c : Int)]) ∧ Below (w.heap.size + 1) W w9) := fun o w9 g9 cap9 h1 h2 => by
            have hol := (HOW.out o).lt
            have hs9 : wr.heap.size + 1 ≤ w9.heap.size := by have := h2.size; simpa using this
            have hwl : w.heap.size + 1 ≤ wr.heap.size := by rw [← HS.out]; exact hb.size
            refine ⟨?_, hb.trans ⟨h2.os, h2.tape, h2.output, by omega, fun q hq => (h2.block q (by simp; omega) (fun e => by have := hol q e.symm; omega)).trans (Below.heap_alloc wr o q (by omega))⟩⟩
            unfold OwnI
            rw [List.length_append, List.map_append]
            exact h1
          have hwl : w.heap.size + 1 ≤ wr.heap.size := by rw [← HS.out]; exact hb.size
          clear HO HT
          go_wp2_with fail
          refine hC.mono ?_
          rintro e w2 ⟨rfl, rfl⟩
          clear hC
          go_wp2_with (at_builtin; refine wpList_append_lies _ rfl _ _ 23 rfl (w.heap.size + 1) 3 i0 (.int .i64 0) 1 8 Tryd.underlying23 hi0 hz0 hz1 hz2 rfl (by decide) (.slice oa zs.length oc) zs.length (zs.map (Value.int .i64)) rfl (HOW.out _) ⟨w2.heap.size, 0, none⟩ 1 1 [.int .i64 (c : Int)] rfl rfl ?c1 ?c2 ?c3 ?c4 ?c5 ?c6 (w2.heap.size + 1) ?c7 ?_)
          case c1 => exact cell_one_new w2 _ _
          case c2 => intro x hx; simp at hx; subst hx; rfl
          case c3 => omega
          case c4 => unfold maxLen; omega
          case c5 => omega
          case c6 => simp; omega
          case c7 => simp
          intro g9 cap9 w9 hown9 hg9 hat9 hlt9
          obtain ⟨q1, q2⟩ := HSTP.out _ w9 g9 cap9 hown9 hg9
          have Q1 : Hid (OwnI w9 (w.heap.size + 1) (.slice (some ⟨g9, 0, none⟩) (zs.length + 1) cap9) (zs ++ [(c : Int)])) := q1
          clear q1 hown9 hg9 hat9 hlt9 HSTP HOW
          go_wp2
          go_roundw
          case rel => exact ⟨r2, _, hr2, rfl, HZ2, Q1, HN, q2⟩
          case measure => have := HLT.out; simp [intOf]; omega
    · obtain rfl : z = 5 := by omega
      rw [if_neg (by omega)] at HO
      go_wp2
      go_ret
      exact ⟨_, rfl, HO.out, hbx⟩

end Go.Proofs.YtmkimaceioacgaaDoor

namespace Go.Proofs.YtmkimaceioacgaaDoor
set_option linter.unusedVariables false

theorem sf_told2 (a : SF) : txF a = (toldF a).getD [] ∧ decide (knF a = 2) = (toldF a).isSome := by
  cases a using SF.cs with
  | non => exact ⟨rfl, rfl⟩
  | long => exact ⟨rfl, rfl⟩
  | told l => exact ⟨rfl, rfl⟩
theorem toP_lt {N T : Nat} {ps : List PdR} (hTr : TrmP T ps) : ∀ (u n t : Nat), toP (fsR N ps) (fsB N ps) u n t → t < T
  | 0, _, _, h => h.elim
  | u + 1, n, t, h => by
    rcases h with ⟨q, hq, _, _, k, hk, e⟩ | ⟨m, _, hm⟩
    · have := hTr q hq k hk.1
      omega
    · exact toP_lt hTr u m t hm
theorem optI_some {z : Int} {k : Nat} (h : optI z = some k) : z = (k : Int) := by
  unfold optI at h
  split at h
  · cases h
  · have := Option.some.inj h
    omega
/-- what is asked -/
structure SpkQ (N : Nat) (ps : List PdR) (s : Nat) (found : Bool) (sl : List Int) (ln : Int) (lv : Bool) : Prop where
  no : found = false → lv = false ∨ 1000 < ln
  len : found = true → (sl.length : Int) = ln
  live : found = true → lv = true
  fst : found = true → ∀ x r, sl = x :: r → ∃ t : Nat, x = (t : Int) ∧ t < 9 ∧ fstP N ps s t
  std : found = true → stdP ps sl s 0 sl.length
  max : sl.length ≤ 1000
theorem speak_all {N T : Nat} {ps : List PdR} (hG : GOkM N ps) (hTr : TrmP T ps) (hT8 : T ≤ 8) {L : List SF} {L' : List Int} (hW : WkT ps N L fun _ => False) (hW' : WkI (prsS ps) N L' fun _ => False) {s : Nat} (hs : s < N) : SpkQ N ps s (decide (knF (factF L s) = 2)) (txF (factF L s)) (L'.getD s 0) (hgtB true (prsS ps) N s) := by
  have hps0 : ∀ p ∈ ps, 0 ≤ p.left := fun p hp => (hG.mem hp).1.1
  have hpsN : ∀ p ∈ ps, p.left < N := fun p hp => (hG.mem hp).1.2.1
  have hprN : ∀ q ∈ prsS ps, q.left < N := fun q hq => by
    obtain ⟨p, hp, rfl⟩ := List.mem_map.1 hq
    have h1 := hps0 p hp
    have h2 := hpsN p hp
    show p.left.toNat < N
    omega
  have hC := hW.final hps0 hpsN
  have hS := hW.sound
  obtain ⟨e1, e2⟩ := sf_told2 (factF L s)
  have hO := hW'.final hprN s
  have hL' : L'.length = N := hW'.lens.len
  have hgd : L'.getD s (-1) = L'.getD s 0 := by simp [List.getD, show s < L'.length by omega]
  have hok := hW.ok s
  cases hf : toldF (factF L s) with
  | none =>
    rw [hf] at e1 e2
    have e3 : decide (knF (factF L s) = 2) = false := e2
    rw [e3, e1]
    refine ⟨fun _ => ?_, fun h => (by cases h), fun h => (by cases h), fun h => (by cases h), fun h => (by cases h), by simp⟩
    cases hl : hgtB true (prsS ps) N s with
    | false => exact .inl rfl
    | true =>
      obtain ⟨k, hk, hk2⟩ := speak_none (f := fun n => toldF (factF L n)) hC hf hl
      rw [hk] at hO
      have := optI_some hO
      rw [hgd] at this
      right
      omega
  | some l =>
    rw [hf] at e1 e2
    have e3 : decide (knF (factF L s) = 2) = true := e2
    have e4 : txF (factF L s) = l := e1
    obtain ⟨h1, h, h2⟩ := speak_len hprN (f := fun n => toldF (factF L n)) hS hC hf
    have hfl : factF L s = SF.told l := by
      generalize factF L s = a at hf
      cases a using SF.cs with
      | non => cases hf
      | long => cases hf
      | told x => exact congrArg SF.told (Option.some.inj hf)
    obtain ⟨hl1, hl2⟩ := hok l hfl
    rw [e3, e4]
    rw [h1] at hO
    have hlen := optI_some hO
    rw [hgd] at hlen
    refine ⟨fun h => (by cases h), fun _ => hlen.symm, fun _ => hgt_N hG true h s (best_tree h s l h2), fun _ x r hx => ?_, fun _ => sound_std hps0 hS hC hf, hl1⟩
    subst hx
    have hx0 := hl2 x List.mem_cons_self
    obtain ⟨t, rfl⟩ : ∃ t : Nat, x = (t : Int) := ⟨x.toNat, by omega⟩
    obtain ⟨u, hu⟩ := best_first hG h s t r h2
    have ht := toP_lt hTr u s t hu
    exact ⟨t, rfl, by omega, (fst_iff hG s t hs).2 ⟨u, hu⟩⟩
theorem bits_mem {m t : Nat} (ht : t < 9) (h : m.testBit t = true) : (t : Int) ∈ bitsZ m := by
  unfold bitsZ bitsN
  exact List.mem_map.2 ⟨t, List.mem_filter.2 ⟨List.mem_range.2 ht, h⟩, rfl⟩
/-- whether a number is among the first of a row -/
def inP (Z : List Int) (x : Int) (i : Nat) : Bool := (Z.take i).any (· == x)
theorem inP_zero (Z : List Int) (x : Int) : inP Z x 0 = false := by simp [inP]
theorem inP_step {Z : List Int} {x : Int} {i : Nat} (hi : i < Z.length) : inP Z x (i + 1) = (inP Z x i || (Z.getD i 0 == x)) := by
  unfold inP
  rw [List.take_succ_eq_append_getElem hi, List.any_append]
  simp [List.getD, hi]
theorem inP_all {Z : List Int} {x : Int} (h : x ∈ Z) : inP Z x Z.length = true := by
  unfold inP
  rw [List.take_length, List.any_eq_true]
  exact ⟨x, h, by simp⟩

end Go.Proofs.YtmkimaceioacgaaDoor

namespace Go.Proofs.YtmkimaceioacgaaDoor
open Go.RowKit
set_option linter.unusedVariables false

/-- a table in memory -/
structure TabM (w : World) (D n m : Nat) (bl : Nat → Nat) (LL : Nat → List Bool) : Prop where
  lt : D < w.heap.size
  at_ : ∀ j, j < n → w.cell? ⟨D, j, none⟩ = some (.slice (some ⟨bl j, 0, none⟩) m m)
  row : ∀ j, j < n → RowB w (bl j) (LL j)
  len : ∀ j, j < n → (LL j).length = m
  inj : ∀ j j', j < n → j' < n → bl j = bl j' → j = j'
  ne : ∀ j, j < n → bl j ≠ D
theorem RowB.other {w : World} {D : Nat} {L : List Bool} (h : RowB w D L) {B o : Nat} {v : Value} (hne : D ≠ B) : RowB (w.setCell ⟨B, o, none⟩ v) D L := by
  unfold RowB at *
  rw [Below.heap_setCell _ _ _ _ (by simpa using hne)]
  exact h
/-- a cell of a table written -/
theorem TabM.set {w : World} {D n m : Nat} {bl : Nat → Nat} {LL : Nat → List Bool} (h : TabM w D n m bl LL) {i k : Nat} (hi : i < n) (b : Bool) : TabM (w.setCell ⟨bl i, k, none⟩ (.bool b)) D n m bl (fun j => if j = i then (LL i).set k b else LL j) := by
  have hD : ∀ j, (w.setCell ⟨bl i, k, none⟩ (.bool b)).cell? ⟨D, j, none⟩ = w.cell? ⟨D, j, none⟩ := fun j => by
    simp only [World.cell?]
    rw [Below.heap_setCell _ _ _ _ (by have := h.ne i hi; simpa using fun e => this e.symm)]
  refine ⟨by simpa using h.lt, fun j hj => by rw [hD]; exact h.at_ j hj, fun j hj => ?_, fun j hj => ?_, h.inj, h.ne⟩
  · by_cases e : j = i
    · subst e
      simp only [if_true]
      exact (h.row j hj).set k b
    · simp only [if_neg e]
      exact (h.row j hj).other (fun e' => e (h.inj j i hj hi e'))
  · by_cases e : j = i
    · subst e
      simp only [if_true, List.length_set]
      exact h.len j hj
    · simp only [if_neg e]; exact h.len j hj
theorem TabM.drew {w : World} {D n m : Nat} {bl : Nat → Nat} {LL : Nat → List Bool} (h : TabM w D n m bl LL) : TabM w.drew D n m bl LL := ⟨h.lt, h.at_, h.row, h.len, h.inj, h.ne⟩
theorem TabM.below {w w' : World} {D n m : Nat} {bl : Nat → Nat} {LL : Nat → List Bool} (h : TabM w D n m bl LL) (hb : Below w.heap.size w w') : TabM w' D n m bl LL :=
  ⟨Nat.lt_of_lt_of_le h.lt hb.size, fun j hj => (hb.cell (p := ⟨D, j, none⟩) h.lt).trans (h.at_ j hj), fun j hj => (hb.block _ (h.row j hj).lt).trans (h.row j hj), h.len, h.inj, h.ne⟩
theorem TabM.cell {w : World} {D n m : Nat} {bl : Nat → Nat} {LL : Nat → List Bool} (h : TabM w D n m bl LL) {i k : Nat} (hi : i < n) (hk : k < m) : w.cell? ⟨bl i, k, none⟩ = some (.bool (factB (LL i) k)) := (h.row i hi).cell (by rw [h.len i hi]; exact hk)

end Go.Proofs.YtmkimaceioacgaaDoor
