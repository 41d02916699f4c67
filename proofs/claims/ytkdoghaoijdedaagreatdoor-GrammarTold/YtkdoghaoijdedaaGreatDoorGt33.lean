/- Texts of the proof, put together: GMkL, GLls. -/
import Derived.Test.YtkdoghaoijdedaaGreatDoorGt18
import Derived.Test.YtkdoghaoijdedaaGreatDoorGt10
import Derived.Shelf.Spec.TrailingZeros
import Derived.Deep.AppendLies
import Derived.Test.YtkdoghaoijdedaaGreatDoorGt25
import Derived.Test.YtkdoghaoijdedaaGreatDoorGt23
namespace Go.Proofs.YtkdoghaoijdedaaGreatDoor
open Go.RowKit
set_option linter.unusedVariables false
set_option maxRecDepth 100000

def bitsN (m : Nat) : List Nat := (List.range 9).filter m.testBit
def bitsZ (m : Nat) : List Int := (bitsN m).map fun (n : Nat) => (n : Int)
theorem bitsN_step : ∀ m : Fin 512, m.val ≠ 0 → bitsN m.val = Lib.ctz 64 m.val :: bitsN (m.val &&& (m.val - 1)) ∧ m.val &&& (m.val - 1) < m.val ∧ Lib.ctz 64 m.val < 9 := by decide +kernel
theorem bitsZ_step {m : Nat} (hm : m < 512) (h0 : m ≠ 0) : bitsZ m = (Lib.ctz 64 m : Int) :: bitsZ (m &&& (m - 1)) := by
  have := (bitsN_step ⟨m, hm⟩ h0).1
  unfold bitsZ
  rw [this]
  rfl
theorem bitsZ_zero : bitsZ 0 = [] := by decide
theorem bitsZ_len (m : Nat) : (bitsZ m).length ≤ 9 := by
  unfold bitsZ bitsN
  rw [List.length_map]
  exact Nat.le_trans (List.length_filter_le _ _) (by simp)

set_option maxHeartbeats 1000000 in
theorem tz_core (x k idx : Nat) (w : World) (hx0 : ((x : Int) == 0) = false)
    (key : IntKind.u64.wrap (bits BinOp.and IntKind.u64 (x : Int) (IntKind.u64.wrap (-(x : Int))) * 285870213051353865) / 288230376151711744 = (idx : Int))
    (hi : idx < 64) (hk : k < 64) (hcell : w.cell? ⟨0, idx, none⟩ = some (.int .u8 k)) :
    Calls Tryz.prog 77 #[.int .u64 x] w fun e w' => e = .returned (.int .i64 k) ∧ w' = w := by
  go_enter Tryz.func77, Tryz.ntmps77
  go_wp2_with (simp only [key])
  go_ret
  exact ⟨rfl, rfl⟩
theorem tz_any (x : Nat) (hx : x < 512) (hx0 : x ≠ 0) (w : World) (hT : TabAt 0 Lib.deBruijn64tab w) :
    Calls Tryz.prog 77 #[.int .u64 x] w fun e w' => e = .returned (.int .i64 (Lib.ctz 64 x)) ∧ w' = w := by
  obtain ⟨hlow, hk⟩ := Lib.lowest_bit 64 x hx0 (by omega)
  obtain ⟨hi, htab⟩ := Lib.deBruijn64_at _ hk
  have hcell := hT _ hi
  rw [htab] at hcell
  exact tz_core x _ _ w (by simp; omega) (tz64_key x _ (by omega) hx0 hlow) hi hk hcell
theorem tab_below {g : Nat} {tab : List Nat} {w w' : World} (h : TabAt g tab w) {K : Nat} (hg : g < K) (hb : Below K w w') : TabAt g tab w' := fun j hj => (hb.cell (p := ⟨g, j, none⟩) hg).trans (h j hj)
set_option maxHeartbeats 4000000 in
theorem mlist_any (m : Nat) (hm : m < 512) (w : World) (hG : 0 < w.heap.size) (hT : TabAt 0 Lib.deBruijn64tab w) : Calls Tryz.prog 57 #[mkV m] w fun e w' => ∃ v, e = .returned v ∧ OwnI w' (w.heap.size + 1) v (bitsZ m) ∧ Below w.heap.size w w' := by
  have hA := alloc_at w (.cells (mkA m) 64)
  have hs := alloc_size w (.cells (mkA m) 64)
  have hB := alloc_below w (.cells (mkA m) 64)
  have HQ : Hid (BoxM (w.alloc (.cells (mkA m) 64)) w.heap.size m) := hA
  have HT : Hid (∀ wx, Below w.heap.size w wx → TabAt 0 Lib.deBruijn64tab wx) := fun wx hb => tab_below hT hG hb
  have HS : Hid ((w.alloc (.cells (mkA m) 64)).heap.size = w.heap.size + 1) := hs
  obtain ⟨i0, hi0, hz0, hz1, hz2⟩ := infoParts Tryz.infoInt
  clear hA hs hT hG
  unfold mkV
  unfold mkA at *
  have c0 := HQ.out.c0
  have c1 := HQ.out.c1
  have c2 := HQ.out.c2
  have c3 := HQ.out.c3
  have c4 := HQ.out.c4
  have lq := HQ.out.lt
  go_enter Tryz.func57, Tryz.ntmps57
  go_wp2
  clear c0 c1 c2 c3 c4 lq HQ
  generalize w.alloc (.cells #[.int .u64 m, .int .u64 0, .int .u64 0, .int .u64 0, .int .u64 0] 64) = W at *
  go_loopw [3, 7] (fun ov iv wr => ∃ z : Int, 0 ≤ z ∧ z ≤ 5 ∧ iv = .int .i64 z ∧ Hid (OwnI wr (w.heap.size + 1) ov (if z = 0 then [] else bitsZ m)) ∧ Below (w.heap.size + 1) W wr) (fun _ iv _ => 5 - (intOf iv).toNat)
  case atStart => exact ⟨0, by omega, by omega, rfl, ⟨rfl, .inl ⟨rfl, rfl⟩⟩, Below.refl _ _⟩
  case round =>
    obtain ⟨z, hz0', hz5, rfl, HO, hb⟩ := hrel
    have hbx : Below w.heap.size w wr := hB.trans (hb.mono (Nat.le_succ _))
    obtain ⟨oa, oc, hoe⟩ := HO.out.slice
    subst hoe
    by_cases hz : z < 5
    · obtain ⟨r0, hr0⟩ : ∃ r0, r0 = if z = 0 then m else 0 := ⟨_, rfl⟩
      have hx : ∀ w, (Instr.index 64 (.agg #[.int .u64 m, .int .u64 0, .int .u64 0, .int .u64 0, .int .u64 0]) (.int .i64 z)).run Tryz.prog w = .ok (.int .u64 r0) w := fun w => by
        have h9 := idxM m z.toNat (by omega) w
        rw [Int.toNat_of_nonneg hz0'] at h9
        unfold mkA at h9
        rw [h9, hr0]
        by_cases e : z = 0
        · rw [if_pos (by omega), if_pos e]
        · rw [if_neg (by omega), if_neg e]; rfl
      have hr5 : r0 < 512 := by rw [hr0]; split <;> omega
      have HZ : Hid (r0 ≠ 0 → z = 0) := fun h => by
        by_cases e : z = 0
        · exact e
        · rw [hr0, if_neg e] at h; exact absurd rfl h
      have HL0 : Hid ((if z = 0 then [] else bitsZ m) ++ bitsZ r0 = bitsZ m) := by
        show _ = _
        rw [hr0]
        by_cases e : z = 0
        · rw [if_pos e, if_pos e]; rfl
        · rw [if_neg e, if_neg e, bitsZ_zero, List.append_nil]
      clear hr0
      generalize (if z = 0 then [] else bitsZ m) = zs0 at *
      rename World => wo
      go_wp2
      clear hx
      go_loopw [3, 5] (fun ov wv wr => ∃ (r : Nat) (zs : List Int), r < 512 ∧ wv = .int .u64 r ∧ Hid (r ≠ 0 → z = 0) ∧ Hid (OwnI wr (w.heap.size + 1) ov zs) ∧ Hid (zs ++ bitsZ r = bitsZ m) ∧ Below (w.heap.size + 1) W wr) (fun _ wv _ => (intOf wv).toNat)
      case atStart => exact ⟨r0, zs0, hr5, rfl, HZ, HO, HL0, hb⟩
      case round =>
        clear HZ HO HL0 hb hbx
        obtain ⟨r, zs, hr, rfl, HZ, HO, HL, hb⟩ := hrel
        have hbx : Below w.heap.size w wr := hB.trans (hb.mono (Nat.le_succ _))
        obtain ⟨oa, oc, hoe⟩ := HO.out.slice
        subst hoe
        by_cases hr0 : r = 0
        · subst hr0
          have HE : Hid (OwnI wr (w.heap.size + 1) (.slice oa zs.length oc) (if z + 1 = 0 then [] else bitsZ m)) := by
            have h9 := HL.out
            rw [bitsZ_zero, List.append_nil] at h9
            rw [if_neg (by omega), ← h9]
            exact HO.out
          clear HO HL HZ
          go_wp2
          go_roundw
          case rel => exact ⟨z + 1, by omega, by omega, by go_num, HE, hb⟩
          case measure => simp [intOf]; omega
        · obtain rfl : z = 0 := HZ.out hr0
          obtain ⟨_, hlt, hc9⟩ := bitsN_step ⟨r, hr⟩ hr0
          simp only at hlt hc9
          have hC := tz_any r hr hr0 wr (HT.out wr hbx)
          have HN : Hid ((zs ++ [(Lib.ctz 64 r : Int)]) ++ bitsZ (r &&& (r - 1)) = bitsZ m) := by
            show _ = _
            rw [← HL.out, bitsZ_step hr hr0]
            simp
          have hzl : zs.length ≤ 9 := by
            have h8 := congrArg List.length HL.out
            rw [List.length_append] at h8
            have := bitsZ_len m
            omega
          have hsub : IntKind.u64.wrap ((r : Int) - 1) = ((r - 1 : Nat) : Int) := by rw [IntKind.wrap_u64]; omega
          have hand : bits BinOp.and IntKind.u64 (r : Int) ((r - 1 : Nat) : Int) = ((r &&& (r - 1) : Nat) : Int) := bits_and_u64_nat r (r - 1) (by omega) (by omega)
          have hr2 : r &&& (r - 1) < 512 := by omega
          have HZ2 : Hid (r &&& (r - 1) ≠ 0 → (0 : Int) = 0) := fun _ => rfl
          have HLT : Hid (r &&& (r - 1) < r) := hlt
          have hne : ((r : Int) == 0) = false := by rw [beq_eq_false_iff_ne]; omega
          generalize Lib.ctz 64 r = c at *
          generalize hrr : r &&& (r - 1) = r2 at *
          generalize hr1 : r - 1 = r1 at *
          clear hrr hr1 HZ HL hlt
          have hwc : IntKind.i64.wrap (c : Int) = (c : Int) := by rw [IntKind.wrap_i64]; omega
          have HOW : Hid (∀ o, (wr.alloc o).ownsRow (w.heap.size + 1) 3 1 (.slice oa zs.length oc) zs.length (zs.map (Value.int .i64))) := fun o => World.ownsRow.alloc HO.out o
          have HSTP : Hid (∀ o w9 g9 cap9, w9.ownsRow (w.heap.size + 1) 3 1 (.slice (some ⟨g9, 0, none⟩) (zs.length + 1) cap9) (zs.length + 1) (zs.map (Value.int .i64) ++ [.int .i64 (c : Int)]) → (wr.alloc o).grownBy w9 (Value.slice oa zs.length oc).ownBlock → OwnI w9 (w.heap.size + 1) (.slice (some ⟨g9, 0, none⟩) (zs.length + 1) cap9) (zs ++ [(c : Int)]) ∧ Below (w.heap.size + 1) W w9) := fun o w9 g9 cap9 h1 h2 => by
            have hol := (HOW.out o).lt
            have hs9 : wr.heap.size + 1 ≤ w9.heap.size := by have := h2.size; simpa using this
            have hwl : w.heap.size + 1 ≤ wr.heap.size := by rw [← HS.out]; exact hb.size
            refine ⟨?_, hb.trans ⟨h2.os, h2.tape, h2.output, by omega, fun q hq => (h2.block q (by simp; omega) (fun e => by have := hol q e.symm; omega)).trans (Below.heap_alloc wr o q (by omega))⟩⟩
            unfold OwnI
            rw [List.length_append, List.map_append]
            exact h1
          have hwl : w.heap.size + 1 ≤ wr.heap.size := by rw [← HS.out]; exact hb.size
          clear HO HT
          go_wp2_with fail
          refine hC.mono ?_
          rintro e w2 ⟨rfl, rfl⟩
          clear hC
          go_wp2_with (at_builtin; refine wpList_append_lies _ rfl _ _ 23 rfl (w.heap.size + 1) 3 i0 (.int .i64 0) 1 8 Tryz.underlying23 hi0 hz0 hz1 hz2 rfl (by decide) (.slice oa zs.length oc) zs.length (zs.map (Value.int .i64)) rfl (HOW.out _) ⟨w2.heap.size, 0, none⟩ 1 1 [.int .i64 (c : Int)] rfl rfl ?c1 ?c2 ?c3 ?c4 ?c5 ?c6 (w2.heap.size + 1) ?c7 ?_)
          case c1 => exact cell_one_new w2 _ _
          case c2 => intro x hx; simp at hx; subst hx; rfl
          case c3 => omega
          case c4 => unfold maxLen; omega
          case c5 => omega
          case c6 => simp; omega
          case c7 => simp
          intro g9 cap9 w9 hown9 hg9 hat9 hlt9
          obtain ⟨q1, q2⟩ := HSTP.out _ w9 g9 cap9 hown9 hg9
          have Q1 : Hid (OwnI w9 (w.heap.size + 1) (.slice (some ⟨g9, 0, none⟩) (zs.length + 1) cap9) (zs ++ [(c : Int)])) := q1
          clear q1 hown9 hg9 hat9 hlt9 HSTP HOW
          go_wp2
          go_roundw
          case rel => exact ⟨r2, _, hr2, rfl, HZ2, Q1, HN, q2⟩
          case measure => have := HLT.out; simp [intOf]; omega
    · obtain rfl : z = 5 := by omega
      rw [if_neg (by omega)] at HO
      go_wp2
      go_ret
      exact ⟨_, rfl, HO.out, hbx⟩

end Go.Proofs.YtkdoghaoijdedaaGreatDoor

namespace Go.Proofs.YtkdoghaoijdedaaGreatDoor
open Go.RowKit
set_option linter.unusedVariables false
set_option maxRecDepth 100000

/-- rows of rows in memory -/
def LssM (w : World) (v : Value) (ll : List (List Int)) : Prop := ∃ a c, v = .slice a ll.length c ∧ (ll = [] ∨ ∃ b off, a = some ⟨b, off, none⟩ ∧ b < w.heap.size ∧ ∀ j, j < ll.length → ∃ rv, w.cell? ⟨b, off + j, none⟩ = some rv ∧ IntsR w rv (ll.getD j []))
theorem LssM.slice {w : World} {v : Value} {l : List (List Int)} (h : LssM w v l) : ∃ a c, v = .slice a l.length c := by
  obtain ⟨a, c, e, _⟩ := h; exact ⟨a, c, e⟩
theorem LssM.below {w w' : World} {v : Value} {l : List (List Int)} (h : LssM w v l) (hb : Below w.heap.size w w') : LssM w' v l := by
  obtain ⟨a, c, h1, h2⟩ := h
  refine ⟨a, c, h1, h2.imp id fun ⟨g, off, e, hg, hc⟩ => ⟨g, off, e, Nat.lt_of_lt_of_le hg hb.size, fun j hj => ?_⟩⟩
  obtain ⟨rv, h3, h4⟩ := hc j hj
  exact ⟨rv, (hb.cell (p := ⟨g, off + j, none⟩) hg).trans h3, h4.below hb⟩
theorem LssM.at {w : World} {a : Option Addr} {n c : Nat} {l : List (List Int)} (h : LssM w (.slice a n c) l) {k : Nat} (hk : k < l.length) : ∃ b off rv, a = some ⟨b, off, none⟩ ∧ b < w.heap.size ∧ w.cell? ⟨b, off + k, none⟩ = some rv ∧ IntsR w rv (l.getD k []) := by
  obtain ⟨a', c', e, h2⟩ := h
  obtain ⟨rfl, rfl, rfl⟩ : a = a' ∧ n = l.length ∧ c = c' := by simpa using e
  rcases h2 with rfl | ⟨b, off, rfl, hb, hc⟩
  · simp at hk
  · obtain ⟨rv, h3, h4⟩ := hc k hk
    exact ⟨b, off, rv, rfl, hb, h3, h4⟩
theorem OwnI.intsR {w : World} {B : Nat} {v : Value} {l : List Int} (h : OwnI w B v l) : IntsR w v l := by
  rcases h.2 with ⟨e, h0⟩ | ⟨g, cap, cur, e, hB, hg, hcap, _⟩
  · exact ⟨none, 0, by rw [e, h0], by omega, .inl (List.eq_nil_of_length_eq_zero h0)⟩
  · have hc := h.cells (g := g) (by rw [e]; rfl)
    refine ⟨_, _, e, hcap, .inr ⟨g, 0, rfl, (Array.getElem?_eq_some_iff.1 hg).1, fun j hj => ?_⟩⟩
    have := hc j (.int .i64 (l.getD j 0)) (by simp [List.getD, hj])
    rw [show (⟨g, 0, none⟩ : Addr).add j = ⟨g, 0 + j, none⟩ by unfold Addr.add; split <;> simp_all] at this
    exact this
/-- a row of numbers is no row of rows -/
theorem own_apartI {w : World} {B B' k : Nat} {v ov : Value} {l : List Int} {vs : List Value} (h : OwnI w B v l) (h' : w.ownsRow B' 23 1 ov k vs) : v.ownBlock = none ∨ v.ownBlock ≠ ov.ownBlock := by
  rcases h.2 with ⟨e, h0⟩ | ⟨g, cap, cur, e, hB, hg, hcap, _⟩
  · rw [e]; exact .inl rfl
  · refine .inr ?_
    rcases h'.2 with ⟨e', h0'⟩ | ⟨g', cap', cur', e', hB', hg', hcap', _⟩
    · rw [e, e']; simp [Value.ownBlock]
    · rw [e, e']
      intro he
      have : g = g' := by simpa [Value.ownBlock] using he
      rw [this, hg'] at hg
      simp at hg
theorem own_belowI {w w' : World} {B : Nat} {v : Value} {l : List Int} (h : OwnI w B v l) (hb : Below w.heap.size w w') : OwnI w' B v l := World.ownsRow.kept h (below_grownN hb) (by cases hq : v.ownBlock <;> simp)
theorem own_mono {w : World} {B B' : Nat} {v : Value} {l : List Int} (h : OwnI w B v l) (hb : B' ≤ B) : OwnI w B' v l := ⟨h.1, h.2.imp id fun ⟨g, cap, cur, e, hB, r⟩ => ⟨g, cap, cur, e, Nat.le_trans hb hB, r⟩⟩
/-- the places that hold -/
def numR (m : Nat) (L : List Bool) : List Int := ((List.range m).filter (factB L)).map fun (n : Nat) => (n : Int)
def numL (n m : Nat) (LL : Nat → List Bool) : List (List Int) := (List.range n).map fun i => numR m (LL i)
theorem numR_yes (m : Nat) (L : List Bool) (h : factB L m = true) : numR (m + 1) L = numR m L ++ [(m : Int)] := by
  unfold numR
  rw [List.range_succ, List.filter_append, List.map_append]
  simp [h]
theorem numR_no (m : Nat) (L : List Bool) (h : factB L m = false) : numR (m + 1) L = numR m L := by
  unfold numR
  rw [List.range_succ, List.filter_append, List.map_append]
  simp [h]
theorem numR_len (m : Nat) (L : List Bool) : (numR m L).length ≤ m := by
  unfold numR
  rw [List.length_map]
  exact Nat.le_trans (List.length_filter_le _ _) (by simp)
/-- rows of numbers on their way -/
structure LsO (w wr : World) (f : Nat → List Int) (v : Value) (vs : List Value) : Prop where
  own : wr.ownsRow w.heap.size 23 1 v vs.length vs
  row : ∀ j (h : j < vs.length), OwnI wr w.heap.size vs[j] (f j)
theorem LsO.slice {w wr : World} {f : Nat → List Int} {v : Value} {vs : List Value} (h : LsO w wr f v vs) : ∃ a c, v = .slice a vs.length c := by
  rcases h.own.2 with ⟨e, h0⟩ | ⟨g, cap, cur, e, _⟩
  · exact ⟨none, 0, by rw [e, h0]⟩
  · exact ⟨_, _, e⟩
theorem LsO.below {w wr w' : World} {f : Nat → List Int} {v : Value} {vs : List Value} (h : LsO w wr f v vs) (hb : Below wr.heap.size wr w') : LsO w w' f v vs :=
  ⟨World.ownsRow.kept h.own (below_grownN hb) (by cases hq : v.ownBlock <;> simp), fun j hj => own_belowI (h.row j hj) hb⟩
theorem LsO.step {w wr w9 : World} {f : Nat → List Int} {v rv : Value} {vs : List Value} {g cap : Nat} {o : Obj} (h : LsO w wr f v vs) (hr : OwnI wr w.heap.size rv (f vs.length))
    (hown : w9.ownsRow w.heap.size 23 1 (.slice (some ⟨g, 0, none⟩) (vs.length + 1) cap) (vs.length + 1) (vs ++ [rv])) (hg9 : (wr.alloc o).grownBy w9 v.ownBlock) :
    LsO w w9 f (.slice (some ⟨g, 0, none⟩) (vs.length + 1) cap) (vs ++ [rv]) := by
  have hk : ∀ u l, OwnI wr w.heap.size u l → OwnI w9 w.heap.size u l := fun u l hu => World.ownsRow.kept (World.ownsRow.alloc hu o) hg9 (own_apartI hu h.own)
  refine ⟨by rw [List.length_append]; exact hown, fun j hj => ?_⟩
  by_cases e : j < vs.length
  · rw [List.getElem_append_left e]; exact hk _ _ (h.row j e)
  · obtain rfl : j = vs.length := by rw [List.length_append] at hj; simp at hj; omega
    rw [List.getElem_append_right (Nat.le_refl _)]
    simp only [Nat.sub_self, List.getElem_cons_zero]
    exact hk _ _ hr
theorem LsO.done {w wr : World} {f : Nat → List Int} {v : Value} {vs : List Value} (h : LsO w wr f v vs) {n : Nat} (hn : vs.length = n) : LssM wr v ((List.range n).map f) := by
  subst hn
  obtain ⟨a, c, e⟩ := h.slice
  refine ⟨a, c, by rw [e]; simp, ?_⟩
  rcases h.own.2 with ⟨e', h0⟩ | ⟨g, cap, cur, e', hB, hg, _⟩
  · exact .inl (by simp [h0])
  · obtain ⟨rfl, _⟩ : a = some ⟨g, 0, none⟩ ∧ c = cap := by rw [e] at e'; simpa using e'
    have hc := h.own.cells (g := g) (by rw [e']; rfl)
    refine .inr ⟨g, 0, rfl, (Array.getElem?_eq_some_iff.1 hg).1, fun j hj => ?_⟩
    have hj' : j < vs.length := by simpa using hj
    refine ⟨vs[j], ?_, ?_⟩
    · have := hc j vs[j] (by simp [hj'])
      rw [show (⟨g, 0, none⟩ : Addr).add j = ⟨g, 0 + j, none⟩ by unfold Addr.add; split <;> simp_all] at this
      exact this
    · have := (h.row j hj').intsR
      rw [show ((List.range vs.length).map f).getD j [] = f j by simp [List.getD, hj']]
      exact this
theorem Tryz.infoInts : (Tryz.prog.info? 23).map (fun i => (i.zero, i.size, i.bytes)) = some (some (.slice none 0 0), 1, 24) := by kernel_rfl

set_option maxHeartbeats 8000000 in
theorem rnum_any (n m D c : Nat) (bl : Nat → Nat) (LL : Nat → List Bool) (hn : n ≤ 300) (hm : m ≤ 301) (w : World) (h : TabM w D n m bl LL) :
    Calls Tryz.prog 34 #[.slice (some ⟨D, 0, none⟩) n c] w fun e w' => ∃ v, e = .returned v ∧ LssM w' v (numL n m LL) ∧ Below w.heap.size w w' := by
  obtain ⟨i0, hi0, hz0, hz1, hz2⟩ := infoParts Tryz.infoInt
  obtain ⟨j0, hj0, hy0, hy1, hy2⟩ := infoParts Tryz.infoInts
  have HT : Hid (TabM w D n m bl LL) := h
  clear h
  go_enter Tryz.func34, Tryz.ntmps34
  go_wp2
  go_loopw [3, 4] (fun ov iv wr => ∃ (vs : List Value), vs.length ≤ n ∧ iv = .int .i64 vs.length ∧ Hid (LsO w wr (fun i => numR m (LL i)) ov vs) ∧ Below w.heap.size w wr) (fun _ iv _ => n - (intOf iv).toNat)
  case atStart => exact ⟨[], Nat.zero_le _, rfl, ⟨⟨rfl, .inl ⟨rfl, rfl⟩⟩, fun j hj => by simp at hj⟩, Below.refl _ _⟩
  case round =>
    obtain ⟨vs, hl, rfl, HO, hbw⟩ := hrel
    obtain ⟨oa, oc, hoe⟩ := HO.out.slice
    subst hoe
    by_cases hlt : vs.length < n
    · generalize hk : vs.length = k at *
      have HK : Hid (vs.length = k) := hk
      clear hk
      rename World => wo
      go_wp2
      go_loopw [5, 6] (fun rv kv wr => ∃ (q : Nat), q ≤ m ∧ kv = .int .i64 q ∧ Hid (OwnI wr wo.heap.size rv (numR q (LL k))) ∧ Below wo.heap.size wo wr) (fun _ kv _ => m - (intOf kv).toNat)
      case atStart => exact ⟨0, Nat.zero_le _, rfl, ⟨rfl, .inl ⟨rfl, rfl⟩⟩, Below.refl _ _⟩
      case round =>
        obtain ⟨q, hq, rfl, HR, hbr⟩ := hrel
        have hbx : Below w.heap.size w wr := hbw.trans (hbr.mono hbw.size)
        have hT := HT.out.below hbx
        have cD := hT.at_ k hlt
        have lD := hT.lt
        have lb := (hT.row k hlt).lt
        obtain ⟨zs, hzs⟩ : ∃ zs, zs = numR q (LL k) := ⟨_, rfl⟩
        have HZS : Hid (zs = numR q (LL k)) := hzs
        have hzl : zs.length ≤ 301 := by rw [hzs]; exact Nat.le_trans (numR_len _ _) (by omega)
        rw [← hzs] at HR
        clear hzs
        obtain ⟨ra, rc, hre⟩ := HR.out.slice
        subst hre
        by_cases hqm : q < m
        · have cb := hT.cell (k := q) hlt hqm
          clear hT
          cases hf : factB (LL k) q with
          | true =>
            rw [hf] at cb
            have HN : Hid (zs ++ [(q : Int)] = numR (q + 1) (LL k)) := by show _ = _; rw [numR_yes _ _ hf, ← HZS.out]
            clear hf HZS
            have HOW : Hid (∀ o, (wr.alloc o).ownsRow wo.heap.size 3 1 (.slice ra zs.length rc) zs.length (zs.map (Value.int .i64))) := fun o => World.ownsRow.alloc HR.out o
            have HSTP : Hid (∀ o w9 g9 cap9, w9.ownsRow wo.heap.size 3 1 (.slice (some ⟨g9, 0, none⟩) (zs.length + 1) cap9) (zs.length + 1) (zs.map (Value.int .i64) ++ [.int .i64 (q : Int)]) → (wr.alloc o).grownBy w9 (Value.slice ra zs.length rc).ownBlock → OwnI w9 wo.heap.size (.slice (some ⟨g9, 0, none⟩) (zs.length + 1) cap9) (zs ++ [(q : Int)]) ∧ Below wo.heap.size wo w9) := fun o w9 g9 cap9 h1 h2 => by
              have hol := (HOW.out o).lt
              have hs9 : wr.heap.size + 1 ≤ w9.heap.size := by have := h2.size; simpa using this
              have hwl := hbr.size
              refine ⟨?_, hbr.trans ⟨h2.os, h2.tape, h2.output, by omega, fun q hq => (h2.block q (by simp; omega) (fun e => by have := hol q e.symm; omega)).trans (Below.heap_alloc wr o q (by omega))⟩⟩
              unfold OwnI
              rw [List.length_append, List.map_append]
              exact h1
            have hwl := hbr.size
            clear HR
            go_wp2_with (at_builtin; refine wpList_append_lies _ rfl _ _ 23 rfl wo.heap.size 3 i0 (.int .i64 0) 1 8 Tryz.underlying23 hi0 hz0 hz1 hz2 rfl (by decide) (.slice ra zs.length rc) zs.length (zs.map (Value.int .i64)) rfl (HOW.out _) ⟨wr.heap.size, 0, none⟩ 1 1 [.int .i64 (q : Int)] rfl rfl ?c1 ?c2 ?c3 ?c4 ?c5 ?c6 (wr.heap.size + 1) ?c7 ?_)
            case c1 => exact cell_one_new wr _ _
            case c2 => intro x hx; simp at hx; subst hx; rfl
            case c3 => omega
            case c4 => unfold maxLen; omega
            case c5 => omega
            case c6 => simp; omega
            case c7 => simp
            intro g9 cap9 w9 hown9 hg9 hat9 hlt9
            obtain ⟨q1, q2⟩ := HSTP.out _ w9 g9 cap9 hown9 hg9
            rw [HN.out] at q1
            have Q1 : Hid (OwnI w9 wo.heap.size (.slice (some ⟨g9, 0, none⟩) (zs.length + 1) cap9) (numR (q + 1) (LL k))) := q1
            clear q1 hown9 hg9 hat9 hlt9 HSTP HOW
            go_wp2
            go_roundw
            case rel => exact ⟨q + 1, by omega, by go_num, Q1, q2⟩
            case measure => simp [intOf]; omega
          | false =>
            rw [hf] at cb
            have HN : Hid (OwnI wr wo.heap.size (.slice ra zs.length rc) (numR (q + 1) (LL k))) := by
              rw [numR_no _ _ hf, ← HZS.out]
              exact HR.out
            clear hf HZS HR
            go_wp2
            go_roundw
            case rel => exact ⟨q + 1, by omega, by go_num, HN, hbr⟩
            case measure => simp [intOf]; omega
        · obtain rfl : q = m := by omega
          clear hT
          have HO2 : Hid (LsO w wr (fun i => numR q (LL i)) (.slice oa k oc) vs) := HO.out.below hbr
          have HR2 : Hid (OwnI wr w.heap.size (.slice ra zs.length rc) (numR q (LL k))) := by rw [← HZS.out]; exact own_mono HR.out hbw.size
          have HOW : Hid (∀ o, (wr.alloc o).ownsRow w.heap.size 23 1 (.slice oa k oc) k vs) := fun o => by
            have := World.ownsRow.alloc HO2.out.own o
            rw [HK.out] at this
            exact this
          have HSTP : Hid (∀ o w9 g9 cap9, w9.ownsRow w.heap.size 23 1 (.slice (some ⟨g9, 0, none⟩) (k + 1) cap9) (k + 1) (vs ++ [.slice ra zs.length rc]) → (wr.alloc o).grownBy w9 (Value.slice oa k oc).ownBlock → LsO w w9 (fun i => numR q (LL i)) (.slice (some ⟨g9, 0, none⟩) (k + 1) cap9) (vs ++ [.slice ra zs.length rc]) ∧ Below w.heap.size w w9) := fun o w9 g9 cap9 h1 h2 => by
            have hol := (HOW.out o).lt
            have hs9 : wr.heap.size + 1 ≤ w9.heap.size := by have := h2.size; simpa using this
            have hwl := hbx.size
            refine ⟨?_, hbx.trans ⟨h2.os, h2.tape, h2.output, by omega, fun q hq => (h2.block q (by simp; omega) (fun e => by have := hol q e.symm; omega)).trans (Below.heap_alloc wr o q (by omega))⟩⟩
            have h3 := HR2.out
            have h4 := HO2.out
            rw [← HK.out] at h1 h2 h3 h4 ⊢
            exact h4.step h3 h1 h2
          have hwl := hbx.size
          clear HO HR HO2 HR2 HZS
          have HLN : Hid ((vs ++ [Value.slice ra zs.length rc]).length = k + 1) := by show _ = _; rw [List.length_append, HK.out]; rfl
          go_wp2_with (at_builtin; refine wpList_append_lies _ rfl _ _ 29 rfl w.heap.size 23 j0 (.slice none 0 0) 1 24 Tryz.underlying29 hj0 hy0 hy1 hy2 rfl (by decide) (.slice oa k oc) k vs rfl (HOW.out _) ⟨wr.heap.size, 0, none⟩ 1 1 [.slice ra zs.length rc] rfl rfl ?d1 ?d2 ?d3 ?d4 ?d5 ?d6 (wr.heap.size + 1) ?d7 ?_)
          case d1 => exact cell_one_new wr _ _
          case d2 => intro x hx; simp at hx; subst hx; rfl
          case d3 => omega
          case d4 => unfold maxLen; omega
          case d5 => omega
          case d6 => simp; omega
          case d7 => simp
          intro g9 cap9 w9 hown9 hg9 hat9 hlt9
          obtain ⟨q1, q2⟩ := HSTP.out _ w9 g9 cap9 hown9 hg9
          have Q1 : Hid (LsO w w9 (fun i => numR q (LL i)) (.slice (some ⟨g9, 0, none⟩) (k + 1) cap9) (vs ++ [.slice ra zs.length rc])) := q1
          clear q1 hown9 hg9 hat9 hlt9 HSTP HOW
          go_wp2
          go_roundw
          case rel => exact ⟨_, by rw [HLN.out]; omega, by rw [HLN.out]; go_num, Q1, q2⟩
          case measure => simp [intOf]; omega
    · have hln : vs.length = n := by omega
      have HE : Hid (LssM wr (.slice oa vs.length oc) (numL n m LL)) := HO.out.done hln
      clear HO
      go_wp2
      go_ret
      exact ⟨_, rfl, HE.out, hbw⟩

end Go.Proofs.YtkdoghaoijdedaaGreatDoor
