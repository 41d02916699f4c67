/- Texts of the proof, put together: RTL, MNew, MMat. -/
import Derived.Test.YtbjohedenfindaaGreatDoorMg45
import Derived.Test.YtbjohedenfindaaGreatDoorMg39
import Derived.Deep.RegionHeld3
import Derived.Deep.RegionLaw
import Derived.Deep.AppendLies
import Derived.Lib.SmallJoins
import Derived.Test.YtbjohedenfindaaGreatDoorMg30
namespace Go.Proofs.YtbjohedenfindaaGreatDoor
open Go.RowKit
set_option linter.unusedVariables false
set_option maxRecDepth 100000

theorem ints_cell {w : World} {B : Nat} {v : Value} {zs : List Int} (h : w.ownsRow B 3 1 v zs.length (zs.map (Value.int .i64))) : ∃ a c, v = .slice a zs.length c ∧ ∀ j, j < zs.length → ∃ g, a = some ⟨g, 0, none⟩ ∧ g < w.heap.size ∧ w.cell? ⟨g, j, none⟩ = some (.int .i64 (zs.getD j 0)) := by
  have hlt := h.lt
  rcases h.2 with ⟨rfl, h0⟩ | ⟨g, cap, cur, rfl, _⟩
  · exact ⟨none, 0, by rw [h0], fun j hj => by omega⟩
  · refine ⟨_, _, rfl, fun j hj => ⟨g, rfl, (hlt g rfl).2, ?_⟩⟩
    have := h.cellAt j (by omega)
    rw [this]; simp [hj]
theorem dvs_take (zs : List Int) (p : Tm) (i : Nat) (h : i < zs.length) : dvs (zs.take (i + 1)).reverse p = dv (zs.getD i 0) (dvs (zs.take i).reverse p) := by
  rw [List.take_succ_eq_append_getElem h, List.reverse_append]; simp [h, dvs]
theorem fold3 : 43 * 3 ^ 24 ≤ 17592186000000 := by decide
theorem sml_dvs {p : Tm} (hp : Nf p) (hs : Sml p) (hg : gT p + 1 ≤ 3 ^ 24) (ha : aT p ≤ 24) : ∀ r : List Int, r.length ≤ 40 → Sml (dvs r p)
  | [], _ => hs
  | c :: r, hr => by
    have hr' : r.length ≤ 40 := by simp at hr; omega
    refine sml_dv (N := 17592186000000) (N1 := 24) (Nat.le_refl _) (by omega) c _ (dvs_nf hp r) (sml_dvs hp hs hg ha r hr') ?_
    refine fine_dvs (n := 40) (by omega) c hp ?_ ha r hr'
    have := fold3
    omega

set_option maxHeartbeats 4000000 in
theorem rmatches_any {ok : Nat → Prop} {w : World} {v : Value} {t : Tm} {s : ByteArray} (hv : TT ok w v t) (hO : Org t) (hs : Sml t) (hw : wT t ≤ 24) (hp : ∀ c ∈ pts s, 0 ≤ c ∧ c ≤ 1114111) (hpl : (pts s).length ≤ 40) (hsz : s.size ≤ 40) :
    Calls Tryz.prog 18 #[v, .string s] w fun e w' => ∃ z : Bool, e = .returned (.bool z) ∧ (z = true ↔ M t (pts s)) ∧ Below w.heap.size w w' := by
  have hsm := plain_small t hO
  have hnf := nf_plain t hO
  have hsp := sml_plain t hO hs hw
  have h24 : 3 ^ wT t ≤ 3 ^ 24 := Nat.pow_le_pow_right (by omega) hw
  have hgT : gT (plainS t) + 1 ≤ 3 ^ 24 := by omega
  have haT : aT (plainS t) ≤ 24 := by omega
  have HPts : Hid (Calls Tryz.prog 36 #[.string s] w fun e w' => ∃ v, e = .returned v ∧ w'.ownsRow w.heap.size 3 1 v (pts s).length ((pts s).map (Value.int .i64)) ∧ Below w.heap.size w w') := rpoints_any s w (by omega)
  have HPl : Hid (∀ w', Below w.heap.size w w' → Calls Tryz.prog 37 #[v] w' fun e w'' => Makes ok w' (plainS t) e w'') := fun w' hb => plain_any t hO hw hs ok w' v (hv.below hb)
  have HBe : Hid (∀ i, i < (pts s).length → ∀ (ok' : Nat → Prop) w' v', TT ok' w' v' (dvs ((pts s).take i).reverse (plainS t)) → Calls Tryz.prog 38 #[v', .int .i64 ((pts s).getD i 0)] w' fun e w'' => Makes ok' w' (dvs ((pts s).take (i + 1)).reverse (plainS t)) e w'') := fun i hi ok' w' v' h => by
    rw [dvs_take _ _ i hi]
    have hl : (((pts s).take i).reverse).length ≤ 40 := by simp; omega
    refine behind_any (N := 17592186000000) (N1 := 24) (Nat.le_refl _) (by omega) _ _ ok' w' v' h (dvs_nf hnf _) (sml_dvs hnf hsp hgT haT _ hl) ?_
    refine fine_dvs (n := 40) (by omega) _ hnf ?_ haT _ hl
    have := fold3
    omega
  have HTe : Hid (∀ (ok' : Nat → Prop) w' v', TT ok' w' v' (dvs (pts s).reverse (plainS t)) → Calls Tryz.prog 39 #[v'] w' fun e w'' => e = .returned (.bool (nul (dvs (pts s).reverse (plainS t)))) ∧ Below w'.heap.size w' w'') := fun ok' w' v' h => takesEmpty_any _ ok' w' v' h (dvs_nf hnf _) (sml_dvs hnf hsp hgT haT _ (by simp; omega))
  have HM : Hid (nul (dvs (pts s).reverse (plainS t)) = true ↔ M t (pts s)) := by
    show _ ↔ _
    rw [nul_M _ (dvs_nf hnf _), dvs_M hnf _ _ (fun c hc => hp c (by simpa using hc)), M_plain t hO]
    simp
  obtain ⟨bv, rfl⟩ := hv.ptr
  generalize nul (dvs (pts s).reverse (plainS t)) = z at *
  clear hsm hnf hsp h24 hgT haT hv hO hs hw hp
  go_enter Tryz.func18, Tryz.ntmps18
  go_wp2_with fail
  refine HPts.out.mono ?_
  rintro e w1 ⟨v1, rfl, hown1, hb1⟩
  obtain ⟨pa, pc, rfl, hcell⟩ := ints_cell hown1
  have HCell : Hid (∀ j, j < (pts s).length → ∃ g, pa = some ⟨g, 0, none⟩ ∧ g < w1.heap.size ∧ w1.cell? ⟨g, j, none⟩ = some (.int .i64 ((pts s).getD j 0))) := hcell
  have HP1 := HPl.out w1 hb1
  clear hcell hown1 HPts HPl
  go_wp2_with fail
  refine HP1.mono ?_
  rintro e w2 ⟨v2, rfl, h2, hb2⟩
  obtain ⟨b2, rfl⟩ := h2.ptr
  have HT2 : Hid (TT (orNew ok w1) w2 (.pointer (some ⟨b2, 0, none⟩)) (plainS t)) := h2
  have hb12 := hb1.trans (hb2.mono hb1.size)
  clear h2 HP1
  go_wp2
  go_loopw [6, 7] (fun qv iv wr => ∃ i : Nat, i ≤ (pts s).length ∧ iv = .int .i64 i ∧ TT (fun _ => True) wr qv (dvs ((pts s).take i).reverse (plainS t)) ∧ Below w1.heap.size w1 wr) (fun _ iv _ => (pts s).length - (intOf iv).toNat)
  case atStart => exact ⟨0, Nat.zero_le _, rfl, by simpa [dvs] using HT2.out.imp fun _ _ => trivial, hb2⟩
  case round =>
    obtain ⟨i, hi, rfl, hT, hbw⟩ := hrel
    obtain ⟨b3, rfl⟩ := hT.ptr
    clear HT2
    by_cases hlt : i < (pts s).length
    · obtain ⟨g, rfl, hg, hu⟩ := HCell.out i hlt
      have hu' := (hbw.cell (p := ⟨g, i, none⟩) hg).trans hu
      have HC : Hid (Calls Tryz.prog 38 #[.pointer (some ⟨b3, 0, none⟩), .int .i64 ((pts s).getD i 0)] wr fun e w'' => Makes (fun _ => True) wr (dvs ((pts s).take (i + 1)).reverse (plainS t)) e w'') := HBe.out i hlt _ wr _ hT
      generalize (pts s).getD i 0 = c at *
      clear hT hu
      go_wp2_with fail
      refine HC.out.mono ?_
      rintro e w3 ⟨v3, rfl, h3, hb3⟩
      have HT3 : Hid (TT (fun _ => True) w3 v3 (dvs ((pts s).take (i + 1)).reverse (plainS t))) := h3.imp fun _ _ => trivial
      have hbw3 := hbw.trans (hb3.mono hbw.size)
      clear h3 HC
      go_wp2
      go_roundw
      case rel => exact ⟨i + 1, by omega, by go_num, HT3.out, hbw3⟩
      case measure => simp [intOf]; omega
    · have hi2 : (pts s).take i = pts s := List.take_of_length_le (by omega)
      rw [hi2] at hT
      have HC := HTe.out _ wr _ hT
      clear hT hi2 HBe HTe
      go_wp2_with fail
      refine HC.mono ?_
      rintro e w3 ⟨rfl, hb3⟩
      go_wp2
      go_ret
      exact ⟨_, rfl, HM.out, hb1.trans ((hbw.trans (hb3.mono hbw.size)).mono hb1.size)⟩

end Go.Proofs.YtbjohedenfindaaGreatDoor

namespace Go.Proofs.YtbjohedenfindaaGreatDoor
open Go.RowKit
set_option linter.unusedVariables false
set_option maxRecDepth 100000

/-- a place in a pattern, by the blocks that it lies in (P), those of the tree (ok) and those of its maps -/
def SPg (ok P : Nat → Prop) (Φ : Nat → Option Tm) : Nat → World → Value → Tm → Prop
  | 0, _, _, _ => False
  | n + 1, w, v, t => ∃ sb re ka kc mb, v = .pointer (some ⟨sb, 0, none⟩) ∧ sb < w.heap.size ∧ P sb ∧ w.heap[sb]? = some (.cells #[re, .slice ka t.kids.length kc, .map (some mb)] 118 (0, 0)) ∧ (mb < w.heap.size ∧ Φ mb = some t) ∧ TT ok w re t ∧ t.kids.length ≤ kc ∧
      ∀ j, j < t.kids.length → ∃ g off u, ka = some ⟨g, off, none⟩ ∧ g < w.heap.size ∧ P g ∧ w.cell? ⟨g, off + j, none⟩ = some u ∧ SPg ok P Φ n w u (t.kids.getD j nothT)

theorem SPg.moved {ok P P' : Nat → Prop} {Φ Φ' : Nat → Option Tm} {w w' : World} (hs : w.heap.size ≤ w'.heap.size) (hP : ∀ b, b < w.heap.size → P b → P' b ∧ w'.heap[b]? = w.heap[b]?) (hok : ∀ b, b < w.heap.size → ok b → w'.heap[b]? = w.heap[b]?) (hΦ : ∀ b t, b < w.heap.size → Φ b = some t → Φ' b = some t) :
    ∀ (n : Nat) {v : Value} {t : Tm}, SPg ok P Φ n w v t → SPg ok P' Φ' n w' v t
  | 0, _, _, hh => hh.elim
  | n + 1, v, t, ⟨sb, re, ka, kc, mb, h1, h2, h3, h4, h5, h6, h7, h8⟩ => by
    refine ⟨sb, re, ka, kc, mb, h1, Nat.lt_of_lt_of_le h2 hs, (hP sb h2 h3).1, (hP sb h2 h3).2.trans h4, ⟨Nat.lt_of_lt_of_le h5.1 hs, hΦ mb t h5.1 h5.2⟩, Tree.moved h6 hs fun b hb hh => ⟨hh, hok b hb hh⟩, h7, fun j hj => ?_⟩
    obtain ⟨g, off, u, k1, k2, k3, k4, k5⟩ := h8 j hj
    exact ⟨g, off, u, k1, Nat.lt_of_lt_of_le k2 hs, (hP g k2 k3).1, (World.cell?_of_block (a := ⟨g, off + j, none⟩) (hP g k2 k3).2).trans k4, SPg.moved hs hP hok hΦ n k5⟩
theorem SPg.more {ok P : Nat → Prop} {Φ : Nat → Option Tm} {w : World} : ∀ (n m : Nat) {v : Value} {t : Tm}, n ≤ m → SPg ok P Φ n w v t → SPg ok P Φ m w v t
  | 0, _, _, _, _, hh => hh.elim
  | n + 1, 0, _, _, hle, _ => by omega
  | n + 1, m + 1, v, t, hle, ⟨sb, re, ka, kc, mb, h1, h2, h3, h4, h5, h6, h7, h8⟩ => by
    refine ⟨sb, re, ka, kc, mb, h1, h2, h3, h4, h5, h6, h7, fun j hj => ?_⟩
    obtain ⟨g, off, u, k1, k2, k3, k4, k5⟩ := h8 j hj
    exact ⟨g, off, u, k1, k2, k3, k4, SPg.more n m (by omega) k5⟩
theorem SPg.spn {ok P : Nat → Prop} {Φ : Nat → Option Tm} {m : Nat} {w : World} (hP : ∀ b, b < w.heap.size → P b → Still Φ m b) (hok : ∀ b, b < w.heap.size → ok b → Still Φ m b) : ∀ (n : Nat) {v : Value} {t : Tm}, SPg ok P Φ n w v t → SPn Φ m n w v t
  | 0, _, _, hh => hh.elim
  | n + 1, v, t, ⟨sb, re, ka, kc, mb, h1, h2, h3, h4, h5, h6, h7, h8⟩ => by
    refine ⟨sb, re, ka, kc, mb, h1, h2, hP sb h2 h3, h4, h5.2, Tree.imp h6 hok, h7, fun j hj => ?_⟩
    obtain ⟨g, off, u, k1, k2, k3, k4, k5⟩ := h8 j hj
    exact ⟨g, off, u, k1, k2, hP g k2 k3, k4, SPg.spn hP hok n k5⟩

/-- what newSpot makes -/
structure Made (ok : Nat → Prop) (B : Nat) (w : World) (Φ : Nat → Option Tm) (v : Value) (t : Tm) : Prop where
  sup : ∀ b u, Φ b = some u → B ≤ b ∧ b < w.heap.size ∧ w.heap[b]? = some (.map #[] 0)
  sp : ∃ n, SPg ok (fun b => B ≤ b ∧ Φ b = none) Φ n w v t

theorem Made.ptr {ok : Nat → Prop} {B : Nat} {w : World} {Φ : Nat → Option Tm} {v : Value} {t : Tm} (h : Made ok B w Φ v t) : ∃ sb, v = .pointer (some ⟨sb, 0, none⟩) := by
  obtain ⟨n, hn⟩ := h.sp
  cases n with
  | zero => exact hn.elim
  | succ n => obtain ⟨sb, _, _, _, _, e, _⟩ := hn; exact ⟨sb, e⟩

/-- half way -/
structure SpI (ok : Nat → Prop) (t : Tm) (re : Value) (B : Nat) (w : World) (k : Nat) (v : Value) (us : List Value) (n : Nat) (Φ : Nat → Option Tm) : Prop where
  blk : w.heap[B + 1]? = some (.cells #[re, v, .map (some B)] 118 (0, 0))
  mp : w.heap[B]? = some (.map #[] 0)
  low : B + 2 ≤ w.heap.size
  len : us.length = k
  own : w.ownsRow (B + 2) 82 1 v k us
  kids : ∀ j, j < k → SPg ok (fun b => B + 2 ≤ b ∧ Φ b = none ∧ v.ownBlock ≠ some b) Φ n w (us.getD j .nilFunc) (t.kids.getD j nothT)
  sup : ∀ b u, Φ b = some u → B + 2 ≤ b ∧ b < w.heap.size ∧ w.heap[b]? = some (.map #[] 0) ∧ v.ownBlock ≠ some b

theorem SpI.step {ok : Nat → Prop} {t : Tm} {re : Value} {B k n : Nat} {wr w4 w5 : World} {v u : Value} {us : List Value} {Φ Φ1 : Nat → Option Tm} {o : Obj} {g cap : Nat}
    (hok : ∀ b, ok b → b < B) (h : SpI ok t re B wr k v us n Φ) (hb : Below wr.heap.size wr w4) (hm : Made ok wr.heap.size w4 Φ1 u (t.kids.getD k nothT))
    (hown : w5.ownsRow (B + 2) 82 1 (.slice (some ⟨g, 0, none⟩) (k + 1) cap) (k + 1) (us ++ [u])) (hg : (w4.alloc o).grownBy w5 v.ownBlock) (hat : v.ownBlock = some g ∨ g = w4.heap.size + 1) (hlt : g < w5.heap.size) :
    ∃ n' Φ', SpI ok t re B (w5.setCell ⟨B + 1, 1, none⟩ (.slice (some ⟨g, 0, none⟩) (k + 1) cap)) (k + 1) (.slice (some ⟨g, 0, none⟩) (k + 1) cap) (us ++ [u]) n' Φ' := by
  have hol : ∀ b, v.ownBlock = some b → B + 2 ≤ b ∧ b < wr.heap.size := fun b hb => h.own.lt b hb
  have hlow := h.low
  have hs4 := hb.size
  have hs5 : w4.heap.size + 1 ≤ w5.heap.size := by have := hg.size; simpa using this
  have hset : ∀ b, b ≠ B + 1 → (w5.setCell ⟨B + 1, 1, none⟩ (.slice (some ⟨g, 0, none⟩) (k + 1) cap)).heap[b]? = w5.heap[b]? := fun b hb => Below.heap_setCell _ _ _ _ (by simpa using hb)
  have hsz : (w5.setCell ⟨B + 1, 1, none⟩ (.slice (some ⟨g, 0, none⟩) (k + 1) cap)).heap.size = w5.heap.size := by simp
  have h45 : ∀ b, b < w4.heap.size → v.ownBlock ≠ some b → w5.heap[b]? = w4.heap[b]? := fun b hb hne => (hg.block b (by simp; omega) (fun e => hne e.symm)).trans (Below.heap_alloc w4 o b hb)
  have key1 : ∀ b, b < wr.heap.size → b ≠ B + 1 → v.ownBlock ≠ some b → (w5.setCell ⟨B + 1, 1, none⟩ (.slice (some ⟨g, 0, none⟩) (k + 1) cap)).heap[b]? = wr.heap[b]? := fun b h1 h2 h3 => (hset b h2).trans ((h45 b (by omega) h3).trans (hb.block b h1))
  have key2 : ∀ b, wr.heap.size ≤ b → b < w4.heap.size → (w5.setCell ⟨B + 1, 1, none⟩ (.slice (some ⟨g, 0, none⟩) (k + 1) cap)).heap[b]? = w4.heap[b]? := fun b h1 h2 => (hset b (by omega)).trans (h45 b h2 (fun e => by have := hol b e; omega))
  have hne : ∀ b, b < B + 2 → v.ownBlock ≠ some b := fun b hb e => by have := hol b e; omega
  have hnew : ∀ b, b < w4.heap.size → v.ownBlock ≠ some b → (Value.slice (some ⟨g, 0, none⟩) (k + 1) cap).ownBlock ≠ some b := fun b hb hn e => by
    have : g = b := by simpa [Value.ownBlock] using e
    rcases hat with h' | h'
    · exact hn (by rw [h', this])
    · omega
  obtain ⟨n1, hn1⟩ := hm.sp
  refine ⟨max n n1, fun b => if b < wr.heap.size then Φ b else Φ1 b, ⟨?_, ?_, by rw [hsz]; omega, by simp [h.len], ?_, fun j hj => ?_, fun b u' hb' => ?_⟩⟩
  · have h5 : w5.heap[B + 1]? = some (.cells #[re, v, .map (some B)] 118 (0, 0)) := (h45 (B + 1) (by omega) (hne _ (by omega))).trans ((hb.block (B + 1) (by omega)).trans h.blk)
    have := heap_setCell_same w5 (B + 1) 1 _ 118 (.slice (some ⟨g, 0, none⟩) (k + 1) cap) h5
    simpa using this
  · rw [key1 B (by omega) (by omega) (hne _ (by omega))]; exact h.mp
  · have hgb : g ≠ B + 1 := by
      rcases hat with h' | h'
      · have := hol g h'; omega
      · omega
    refine ⟨hown.1, ?_⟩
    rcases hown.2 with ⟨e, _⟩ | ⟨g', cap', cur, e, k1, k2, k3⟩
    · simp at e
    · simp only [Value.slice.injEq, Option.some.injEq, Addr.mk.injEq, and_true, true_and] at e
      obtain ⟨rfl, rfl⟩ := e
      exact .inr ⟨g, cap, cur, rfl, k1, (hset g hgb).trans k2, k3⟩
  · by_cases hjk : j < k
    · have e : (us ++ [u]).getD j .nilFunc = us.getD j .nilFunc := by
        simp [List.getD_eq_getElem?_getD, List.getElem?_append_left (show j < us.length by rw [h.len]; exact hjk)]
      rw [e]
      refine SPg.more n _ (Nat.le_max_left _ _) (SPg.moved (by rw [hsz]; omega) (fun b hlt' hp => ⟨⟨hp.1, by simp only [hlt', if_true]; exact hp.2.1, hnew b (by omega) hp.2.2⟩, key1 b hlt' (by omega) hp.2.2⟩) (fun b hlt' hp => key1 b hlt' (by have := hok b hp; omega) (hne _ (by have := hok b hp; omega))) (fun b t' hlt' hp => by simp only [hlt', if_true]; exact hp) n (h.kids j hjk))
    · obtain rfl : j = k := by omega
      have e : (us ++ [u]).getD j .nilFunc = u := by
        have := h.len
        simp [List.getD_eq_getElem?_getD, ← this]
      rw [e]
      refine SPg.more n1 _ (Nat.le_max_right _ _) (SPg.moved (by rw [hsz]; omega) (fun b hlt' hp => ⟨⟨by omega, by simp only [show ¬ b < wr.heap.size by omega, if_false]; exact hp.2, hnew b hlt' (fun e => by have := hol b e; omega)⟩, key2 b hp.1 hlt'⟩) (fun b hlt' hp => by
        have := hok b hp
        rw [key1 b (by omega) (by omega) (hne _ (by omega)), hb.block b (by omega)]) (fun b t' hlt' hp => by
        have := (hm.sup b t' hp).1
        simp only [show ¬ b < wr.heap.size by omega, if_false]; exact hp) n1 hn1)
  · by_cases hbl : b < wr.heap.size
    · simp only [hbl, if_true] at hb'
      obtain ⟨p1, p2, p3, p4⟩ := h.sup b u' hb'
      exact ⟨p1, by rw [hsz]; omega, (key1 b hbl (by omega) p4).trans p3, hnew b (by omega) p4⟩
    · simp only [hbl, if_false] at hb'
      obtain ⟨p1, p2, p3⟩ := hm.sup b u' hb'
      exact ⟨by omega, by rw [hsz]; omega, (key2 b p1 p2).trans p3, hnew b p2 (fun e => by have := hol b e; omega)⟩

theorem SpI.done {ok : Nat → Prop} {t : Tm} {re : Value} {B n : Nat} {w : World} {v : Value} {us : List Value} {Φ : Nat → Option Tm} (h : SpI ok t re B w t.kids.length v us n Φ) (ht : TT ok w re t) : ∃ Φ', Made ok B w Φ' (.pointer (some ⟨B + 1, 0, none⟩)) t := by
  have hlow := h.low
  have hn : ∀ b, b < B + 2 → Φ b = none := fun b hb => by
    cases hp : Φ b with
    | none => rfl
    | some u => have := (h.sup b u hp).1; omega
  refine ⟨fun b => if b = B then some t else Φ b, ⟨fun b u hb => ?_, n + 1, ?_⟩⟩
  · by_cases e : b = B
    · subst e; exact ⟨Nat.le_refl _, by omega, h.mp⟩
    · simp only [e, if_false] at hb
      obtain ⟨p1, p2, p3, _⟩ := h.sup b u hb
      exact ⟨by omega, p2, p3⟩
  · have hP : ∀ b, B + 2 ≤ b ∧ Φ b = none → B ≤ b ∧ (if b = B then some t else Φ b) = none := fun b hb => ⟨by omega, by rw [if_neg (by omega)]; exact hb.2⟩
    obtain ⟨ka, kc, hv, hle, hrow⟩ : ∃ ka kc, v = .slice ka t.kids.length kc ∧ t.kids.length ≤ kc ∧ ∀ j, j < t.kids.length → ∃ g, ka = some ⟨g, 0, none⟩ ∧ g < w.heap.size ∧ B + 2 ≤ g ∧ Φ g = none ∧ w.cell? ⟨g, 0 + j, none⟩ = some (us.getD j .nilFunc) := by
      have hl := h.own.lt
      have hsup := h.sup
      have hcl := fun (g cap : Nat) (e : v = .slice (some ⟨g, 0, none⟩) t.kids.length cap) (j : Nat) (hj : j < t.kids.length) => World.ownsRow.cellAt (e ▸ h.own) j (by omega)
      rcases h.own.2 with ⟨e, h0⟩ | ⟨g, cap, cur, e, hB, hg, hcap, _⟩
      · exact ⟨none, 0, by rw [e, h0], by omega, fun j hj => by omega⟩
      · refine ⟨_, cap, e, hcap, fun j hj => ⟨g, rfl, (hl g (by rw [e]; rfl)).2, hB, ?_, ?_⟩⟩
        · cases hp : Φ g with
          | none => rfl
          | some u => exact absurd (by rw [e]; rfl) (hsup g u hp).2.2.2
        · rw [Nat.zero_add, hcl g cap e j hj]
          have := h.len
          simp [List.getD_eq_getElem?_getD, List.getElem?_eq_getElem (show j < us.length by omega)]
    have hblk := h.blk
    rw [hv] at hblk
    refine ⟨B + 1, re, ka, kc, B, rfl, by omega, ⟨by omega, by rw [if_neg (by omega)]; exact hn _ (by omega)⟩, hblk, ⟨by omega, by simp⟩, ht, hle, fun j hj => ?_⟩
    obtain ⟨g, k1, k2, k3, k4, k5⟩ := hrow j hj
    refine ⟨g, 0, _, k1, k2, hP g ⟨k3, k4⟩, k5, SPg.moved (Nat.le_refl _) (fun b _ hp => ⟨hP b ⟨hp.1, hp.2.1⟩, rfl⟩) (fun b _ _ => rfl) (fun b t' _ hp => ?_) n (h.kids j hj)⟩
    have := (h.sup b t' hp).1
    rw [if_neg (by omega)]; exact hp

theorem Tryz.infoPSpot : (Tryz.prog.info? 82).map (fun i => (i.zero, i.size, i.bytes)) = some (some (.pointer none), 1, 8) := by kernel_rfl
/-- newSpot, of one tree -/
def NewC (t : Tm) : Prop := ∀ (ok : Nat → Prop) (w : World) (v : Value), (∀ b, ok b → b < w.heap.size) → TT ok w v t → Calls Tryz.prog 34 #[v] w fun e w' => ∃ sv Φ, e = .returned sv ∧ Made ok w.heap.size w' Φ sv t ∧ Below w.heap.size w w'

set_option maxHeartbeats 4000000 in
theorem newspot_raw {w : World} {b kc : Nat} {t : Tm} {ka : Option Addr} {ok : Nat → Prop} (hl : t.kids.length ≤ 10000000) (hok : ∀ b, ok b → b < w.heap.size) (hT : TT ok w (.pointer (some ⟨b, 0, none⟩)) t) (hlt : b < w.heap.size) (c4 : w.cell? ⟨b, 4, none⟩ = some (.slice ka t.kids.length kc))
    (HK : Hid (∀ j, j < t.kids.length → ∃ g off b1, ka = some ⟨g, off, none⟩ ∧ g < w.heap.size ∧ w.cell? ⟨g, off + j, none⟩ = some (.pointer (some ⟨b1, 0, none⟩)) ∧ ∀ w', Below w.heap.size w w' → Calls Tryz.prog 34 #[.pointer (some ⟨b1, 0, none⟩)] w' fun e w'' => ∃ sv Φ, e = .returned sv ∧ Made ok w'.heap.size w'' Φ sv (t.kids.getD j nothT) ∧ Below w'.heap.size w' w'')) :
    Calls Tryz.prog 34 #[.pointer (some ⟨b, 0, none⟩)] w fun e w' => ∃ sv Φ, e = .returned sv ∧ Made ok w.heap.size w' Φ sv t ∧ Below w.heap.size w w' := by
  obtain ⟨i0, hi0, hz0, hz1, hz2⟩ := info_parts Tryz.infoPSpot
  have hmm := @run_makeMap Tryz.prog
  have HT : Hid (TT ok w (.pointer (some ⟨b, 0, none⟩)) t) := hT
  have HOK : Hid (∀ b, ok b → b < w.heap.size) := hok
  clear hT hok
  go_enter Tryz.func34, Tryz.ntmps34
  go_wp2
  clear hmm
  go_loopw [15] (fun i wr => ∃ (k : Nat) (v : Value) (us : List Value) (n : Nat) (Φ : Nat → Option Tm), k ≤ t.kids.length ∧ i = .int .i64 k ∧ SpI ok t (.pointer (some ⟨b, 0, none⟩)) w.heap.size wr k v us n Φ ∧ Below w.heap.size w wr) (fun i _ => t.kids.length - (intOf i).toNat)
  case atStart =>
    refine ⟨0, .slice none 0 0, [], 0, fun _ => none, Nat.zero_le _, rfl, ⟨?_, ?_, by simp, rfl, ⟨rfl, .inl ⟨rfl, rfl⟩⟩, fun j hj => by omega, fun b u hb => by simp at hb⟩, ((Below.refl _ w).alloc (Nat.le_refl _) _).alloc (by simp) _⟩
    · have := heap_alloc_new (w.alloc (.map #[] 0)) (.cells #[.pointer (some ⟨b, 0, none⟩), .slice none 0 0, .map (some w.heap.size)] 118)
      simpa using this
    · rw [Below.heap_alloc _ _ _ (by simp)]
      exact heap_alloc_new w _
  case round =>
    obtain ⟨k, v, us, n, Φ, hk, rfl, hI, hbw⟩ := hrel
    have hsz := hbw.size
    have hlow := hI.low
    by_cases hkt : k < t.kids.length
    · obtain ⟨g, off, b1, rfl, hg, cg, HC0⟩ := HK.out k hkt
      have cg2 := (hbw.cell (p := ⟨g, off + k, none⟩) hg).trans cg
      obtain ⟨va, vc, rfl⟩ : ∃ va vc, v = .slice va k vc := by
        rcases hI.own.2 with ⟨rfl, h0⟩ | ⟨g, cap, cur, rfl, _⟩
        · exact ⟨none, 0, by rw [h0]⟩
        · exact ⟨_, _, rfl⟩
      have cs : wr.cell? ⟨w.heap.size + 1, 1, none⟩ = some (.slice va k vc) := by simp [World.cell?, hI.blk]
      have hs1 : w.heap.size + 1 < wr.heap.size := by omega
      have HI : Hid (SpI ok t (.pointer (some ⟨b, 0, none⟩)) w.heap.size wr k (.slice va k vc) us n Φ) := hI
      have HC : Hid (Calls Tryz.prog 34 #[.pointer (some ⟨b1, 0, none⟩)] wr.drew fun e w'' => ∃ s1 Φ1, e = .returned (.pointer (some ⟨s1, 0, none⟩)) ∧ Made ok wr.heap.size w'' Φ1 (.pointer (some ⟨s1, 0, none⟩)) (t.kids.getD k nothT) ∧ Below wr.heap.size wr w'') := (HC0 wr.drew (below_drew1 hbw)).mono fun e w'' h => by
        obtain ⟨sv, Φ1, h1, h2, h3⟩ := h
        obtain ⟨s1, rfl⟩ := h2.ptr
        exact ⟨s1, Φ1, h1, h2, ⟨h3.os, h3.tape, h3.output, h3.size, h3.block⟩⟩
      have HA : Hid (∀ w4, Below wr.heap.size wr w4 → w4.cell? ⟨w.heap.size + 1, 1, none⟩ = some (.slice va k vc) ∧ w.heap.size + 1 < w4.heap.size ∧ ∀ o, (w4.alloc o).ownsRow (w.heap.size + 2) 82 1 (.slice va k vc) k us) := fun w4 h4 => ⟨(h4.cell (p := ⟨w.heap.size + 1, 1, none⟩) hs1).trans cs, Nat.lt_of_lt_of_le hs1 h4.size, fun o => World.ownsRow.alloc (HI.out.own.kept (row := none) ⟨h4.os, h4.tape, h4.output, h4.size, fun k hk _ => h4.block k hk⟩ (by cases hq : (Value.slice va k vc).ownBlock <;> simp)) _⟩
      have HF : Hid (∀ w4 u Φ1 o w5 g cap, Below wr.heap.size wr w4 → Made ok wr.heap.size w4 Φ1 u (t.kids.getD k nothT) → w5.ownsRow (w.heap.size + 2) 82 1 (.slice (some ⟨g, 0, none⟩) (k + 1) cap) (k + 1) (us ++ [u]) → (w4.alloc o).grownBy w5 (Value.slice va k vc).ownBlock → ((Value.slice va k vc).ownBlock = some g ∨ g = w4.heap.size + 1) → g < w5.heap.size →
          w5.cell? ⟨w.heap.size + 1, 1, none⟩ = some (.slice va k vc) ∧ w5.frozen? ⟨w.heap.size + 1, 1, none⟩ = false ∧ w.heap.size + 1 < w5.heap.size ∧ (∃ n' Φ', SpI ok t (.pointer (some ⟨b, 0, none⟩)) w.heap.size (w5.setCell ⟨w.heap.size + 1, 1, none⟩ (.slice (some ⟨g, 0, none⟩) (k + 1) cap)) (k + 1) (.slice (some ⟨g, 0, none⟩) (k + 1) cap) (us ++ [u]) n' Φ') ∧ Below w.heap.size w (w5.setCell ⟨w.heap.size + 1, 1, none⟩ (.slice (some ⟨g, 0, none⟩) (k + 1) cap))) := by
        intro w4 u Φ1 o w5 g5 cap5 h4 hm h5 hg5 hat hlt5
        have hol : ∀ b, (Value.slice va k vc).ownBlock = some b → w.heap.size + 2 ≤ b ∧ b < wr.heap.size := fun b hb => HI.out.own.lt b hb
        have hs5 : w4.heap.size + 1 ≤ w5.heap.size := by have := hg5.size; simpa using this
        have hs4 := h4.size
        have hb5 : w5.heap[w.heap.size + 1]? = some (.cells #[.pointer (some ⟨b, 0, none⟩), .slice va k vc, .map (some w.heap.size)] 118 (0, 0)) := by
          rw [hg5.block (w.heap.size + 1) (by simp; omega) (fun e => by have := hol _ e.symm; omega), Below.heap_alloc w4 o _ (by omega), h4.block _ (by omega)]
          exact HI.out.blk
        refine ⟨by simp [World.cell?, hb5], by simp [World.frozen?, hb5], by omega, SpI.step HOK.out HI.out h4 hm h5 hg5 hat hlt5, ?_⟩
        refine ⟨?_, ?_, ?_, by simp; omega, fun c hc => ?_⟩
        · exact hg5.os.trans (h4.os.trans hbw.os)
        · simpa using hg5.tape.trans (h4.tape.trans hbw.tape)
        · exact hg5.output.trans (h4.output.trans hbw.output)
        · rw [Below.heap_setCell _ _ _ _ (by simp; omega), hg5.block c (by simp; omega) (fun e => by have := hol _ e.symm; omega), Below.heap_alloc w4 o _ (by omega), h4.block _ (by omega)]
          exact hbw.block c hc
      clear hI HK HC0 cg
      go_wp2
      go_region_law (first | (refine step_append_lies _ rfl _ _ 115 rfl (w.heap.size + 2) 82 i0 (.pointer none) 1 8 Tryz.underlying115 hi0 hz0 hz1 hz2 rfl (by decide) (.slice va k vc) k us rfl (f3 _) ⟨w4.heap.size, 0, none⟩ 1 1 [.pointer (some ⟨s1, 0, none⟩)] rfl rfl (cell_one_new w4 _ _) (by intro x hx; simp at hx; subst hx; rfl) (by omega) (by unfold maxLen; omega) (by omega) (by simp; omega) (w4.heap.size + 1) (by simp) ?_; intro g5 cap5 w5 hown5 hg5 hat5 hlt5; have q1 := HF.out w4 _ Φ1 _ w5 g5 cap5 hb4 hm4 hown5 hg5 hat5 hlt5; obtain ⟨q1, q2, q3, q4, q5⟩ := q1) | (go_simp; go_at_call 34; refine HC.out.mono ?_; rintro e w4 ⟨s1, Φ1, rfl, hm4, hb4⟩; have f1 := HA.out w4 hb4; obtain ⟨f1, f2, f3⟩ := f1))
      all_goals
        obtain ⟨n', Φ', q4⟩ := q4
        have Q4 : Hid (SpI ok t (.pointer (some ⟨b, 0, none⟩)) w.heap.size (w5.setCell ⟨w.heap.size + 1, 1, none⟩ (.slice (some ⟨g5, 0, none⟩) (k + 1) cap5)) (k + 1) (.slice (some ⟨g5, 0, none⟩) (k + 1) cap5) (us ++ [.pointer (some ⟨s1, 0, none⟩)]) n' Φ') := q4
        clear q4 hown5 hg5 hat5 hlt5 hm4 hb4 f1 f2 f3 HF HA HC HI q1 q2 q3
        go_wp2
        go_roundw
        case rel => exact ⟨k + 1, _, _, n', Φ', by omega, by go_num, Q4.out, q5⟩
        case measure => simp [intOf]; omega
    · obtain rfl : k = t.kids.length := by omega
      have HD : Hid (∃ Φ', Made ok w.heap.size wr Φ' (.pointer (some ⟨w.heap.size + 1, 0, none⟩)) t) := hI.done (HT.out.below hbw)
      clear hI HK
      go_wp2
      go_ret
      obtain ⟨Φ', hD⟩ := HD.out
      exact ⟨_, Φ', rfl, hD, hbw⟩

theorem newspot_all : ∀ (t : Tm), Two t → NewC t := by
  refine Tm.ind ?_
  intro t ih h2 ok w v hok hT
  obtain ⟨b, sv, ka, kc, hN⟩ := hT.node
  have e := hN.v_eq; subst e
  refine newspot_raw (two_iff.1 h2).1.2 hok hT hN.lt hN.c4 (fun j hj => ?_)
  obtain ⟨g, off, u, k1, k2, k3, k4, k5⟩ := hN.kid j hj
  obtain ⟨b1, hb1⟩ := k5.ptr
  rw [hb1] at k4 k5
  refine ⟨g, off, b1, k1, k2, k4, fun w' hw' => ih (t.kids.getD j nothT) (by simp [hj]) ((two_iff.1 h2).2 _ (by simp [hj])) ok w' _ (fun b hb => Nat.lt_of_lt_of_le (hok b hb) hw'.size) (k5.below hw')⟩

end Go.Proofs.YtbjohedenfindaaGreatDoor

namespace Go.Proofs.YtbjohedenfindaaGreatDoor
open Go.RowKit
set_option linter.unusedVariables false
set_option maxRecDepth 100000

/-- the matcher's state as it begins -/
theorem start_ms {zs : List Int} {w2 w4 : World} {B1 : Nat} {ta : Option Addr} {tc : Nat} {Φ : Nat → Option Tm} {sv : Value} {t : Tm} {ok : Nat → Prop}
    (hrow : w2.ownsRow B1 3 1 (.slice ta zs.length tc) zs.length (zs.map (Value.int .i64)))
    (hok : ∀ b, ok b → b < w2.heap.size) (hb : Below (w2.heap.size + 1) (w2.alloc (.cells #[.slice ta zs.length tc, .int .i64 0] 78)) w4) (hm : Made ok (w2.heap.size + 1) w4 Φ sv t) :
    MS zs Φ w2.heap.size (fun b => b < w2.heap.size) w4 0 ∧ SP Φ w2.heap.size w4 sv t := by
  have hs4 : w2.heap.size + 1 ≤ w4.heap.size := by have := hb.size; simpa using this
  have hn : ∀ b, b < w2.heap.size + 1 → Φ b = none := fun b hb => by
    cases hp : Φ b with
    | none => rfl
    | some u => have := (hm.sup b u hp).1; omega
  have h4 : ∀ b, b < w2.heap.size → w4.heap[b]? = w2.heap[b]? := fun b h => (hb.block b (by omega)).trans (Below.heap_alloc w2 _ b h)
  refine ⟨⟨by omega, hn _ (by omega), ⟨ta, tc, ?_, fun j hj => ?_⟩, by omega, fun b u hu => ?_, fun b hb' => ⟨by omega, hn b (by omega)⟩⟩, ?_⟩
  · rw [hb.block _ (by omega)]
    exact heap_alloc_new w2 _
  · rcases hrow.2 with ⟨e, h0⟩ | ⟨g, cap, cur, e, hB, hg, hr⟩
    · omega
    · have hgl : g < w2.heap.size := (Array.getElem?_eq_some_iff.1 hg).1
      simp only [Value.slice.injEq] at e
      obtain ⟨rfl, _, rfl⟩ := e
      refine ⟨g, rfl, by omega, hgl, ?_⟩
      rw [World.cell?_of_block (a := ⟨g, j, none⟩) (h4 g hgl), hrow.cellAt j (by omega)]
      simp [List.getD_eq_getElem?_getD, List.getElem?_eq_getElem hj]
  · obtain ⟨p1, p2, p3⟩ := hm.sup b u hu
    exact ⟨0, .map [], Go.Joins.ownsMap_empty p3, Nat.le_refl _, fun a _ hh => by simp [Maps.has] at hh⟩
  · obtain ⟨n, hn'⟩ := hm.sp
    exact ⟨n, SPg.spn (fun b _ hp => ⟨by omega, hp.2⟩) (fun b _ hp => ⟨by have := hok b hp; omega, hn b (by have := hok b hp; omega)⟩) n hn'⟩

set_option maxHeartbeats 4000000 in
theorem pmatches_any {ok : Nat → Prop} {w : World} {b0 : Nat} {t : Tm} {s : ByteArray} (hw : weighS 31 (reOf t) ≤ 60) (hA : AllOk 31 (reOf t)) (hT : TT ok w (.pointer (some ⟨b0, 0, none⟩)) t) (hO : Org t) (hS : Sml t) (h2 : Two t) (hs : s.size ≤ 40) (hp : ∀ c ∈ pts s, 0 ≤ c ∧ c ≤ 1114111) :
    Calls Tryz.prog 17 #[.pointer (some ⟨b0, 0, none⟩), .string s] w fun e w' => ∃ bb, e = .returned (.bool bb) ∧ (bb = true ↔ M t (pts s)) ∧ Below w.heap.size w w' := by
  have hpl := (len_back s).1
  have hT2 : TT (fun b => ok b ∧ b < w.heap.size) w (.pointer (some ⟨b0, 0, none⟩)) t := Tree.imp hT fun b hb h => ⟨h, hb⟩
  have HT : Hid (TT (fun b => ok b ∧ b < w.heap.size) w (.pointer (some ⟨b0, 0, none⟩)) t) := hT2
  have HOk : Hid (Calls Tryz.prog 14 #[.pointer (some ⟨b0, 0, none⟩)] w fun e w' => e = .returned (.bool true) ∧ Below w.heap.size w w') := by
    have := pok_any hT hA
    rw [decide_eq_true hw] at this
    exact this
  have HN : Hid (NewC t) := newspot_all t h2
  have HF : Hid (∀ Φ m, FromC (pts s) Φ m t) := fun Φ m => from_all (by omega) hp t hO hS h2
  clear hw hA hT hT2 hO hS h2 hp
  go_enter Tryz.func17, Tryz.ntmps17
  go_wp2_with fail
  refine HOk.out.mono ?_
  rintro e w1 ⟨rfl, hb1⟩
  have hs1 := hb1.size
  clear HOk
  go_wp2_with fail
  refine (ppoints_any s _ (by omega)).mono ?_
  rintro e w2 ⟨v, rfl, hown, hb2, _⟩
  have hbw2 := hb1.trans (hb2.mono hs1)
  have hs2 := hbw2.size
  obtain ⟨ta, tc, rfl⟩ : ∃ a c, v = .slice a (pts s).length c := by
    rcases hown.2 with ⟨rfl, h0⟩ | ⟨g, cap, cur, rfl, _⟩
    · exact ⟨none, 0, by rw [h0]⟩
    · exact ⟨_, _, rfl⟩
  have HOwn : Hid (w2.ownsRow (w1.heap.size + 1) 3 1 (.slice ta (pts s).length tc) (pts s).length ((pts s).map (Value.int .i64))) := hown
  clear hown hb1 hb2 hs1
  generalize hzs : pts s = zs at *
  have HZ : Hid (pts s = zs) := hzs
  clear hzs
  have HC1 : Hid (Calls Tryz.prog 34 #[.pointer (some ⟨b0, 0, none⟩)] (w2.alloc (.cells #[.slice ta zs.length tc, .int .i64 0] 78)).drew fun e w4 => ∃ sb Φ, e = .returned (.pointer (some ⟨sb, 0, none⟩)) ∧ (MS zs Φ w2.heap.size (fun b => b < w2.heap.size) w4 0 ∧ SP Φ w2.heap.size w4 (.pointer (some ⟨sb, 0, none⟩)) t) ∧ w4.cell? ⟨w2.heap.size, 0, none⟩ = some (.slice ta zs.length tc) ∧ w2.heap.size < w4.heap.size ∧ ∀ w5, Fr Φ w2.heap.size w4 w5 → Below w.heap.size w w5) := by
    have hbx := below_drew1 (hbw2.trans ((below_alloc w2 (.cells #[.slice ta zs.length tc, .int .i64 0] 78)).mono hs2))
    refine (HN.out _ _ _ (fun b hb => ?_) (HT.out.below hbx)).mono ?_
    · have := hbx.size
      exact Nat.lt_of_lt_of_le hb.2 this
    · rintro e w4 ⟨sv, Φ, rfl, hm, hb4⟩
      obtain ⟨sb, rfl⟩ := hm.ptr
      have hsz : (w2.alloc (.cells #[.slice ta zs.length tc, .int .i64 0] 78)).drew.heap.size = w2.heap.size + 1 := by
        show (w2.alloc _).heap.size = _
        simp
      rw [hsz] at hm hb4
      have hb5 : Below (w2.heap.size + 1) (w2.alloc (.cells #[.slice ta zs.length tc, .int .i64 0] 78)) w4 := ⟨hb4.os, hb4.tape, hb4.output, hb4.size, hb4.block⟩
      have hMS := start_ms HOwn.out (fun b hb => Nat.lt_of_lt_of_le hb.2 hs2) hb5 hm
      have hs4 : w2.heap.size + 1 ≤ w4.heap.size := by have := hb5.size; simpa using this
      refine ⟨sb, Φ, rfl, hMS, ?_, by omega, fun w5 hf => ?_⟩
      · have : w4.heap[w2.heap.size]? = some (.cells #[.slice ta zs.length tc, .int .i64 0] 78) := by
          rw [hb5.block _ (by omega)]
          exact heap_alloc_new w2 _
        simp [World.cell?, this]
      · have hbx4 : Below w.heap.size w w4 := hbw2.trans (((below_alloc w2 _).trans (hb5.mono (by omega))).mono hs2)
        refine ⟨hf.os.trans hbx4.os, hf.tape.trans hbx4.tape, hf.output.trans hbx4.output, Nat.le_trans hbx4.size hf.size, fun c hc => ?_⟩
        rw [hf.block c (by omega) ⟨by omega, ?_⟩]
        · exact hbx4.block c hc
        · exact (hMS.1.still c (by omega)).2
  have HC2 : Hid (∀ sb Φ w4, MS zs Φ w2.heap.size (fun b => b < w2.heap.size) w4 0 ∧ SP Φ w2.heap.size w4 (.pointer (some ⟨sb, 0, none⟩)) t → Hid (Calls Tryz.prog 33 #[.pointer (some ⟨w2.heap.size, 0, none⟩), .pointer (some ⟨sb, 0, none⟩), .int .i64 0] w4 fun e w5 => ∃ la ln lc ta2 tc2 bb, e = .returned (.slice la ln lc) ∧ w5.cell? ⟨w2.heap.size, 0, none⟩ = some (.slice ta2 zs.length tc2) ∧ w2.heap.size < w5.heap.size ∧ Fr Φ w2.heap.size w4 w5 ∧ Hid (bb = true ↔ M t zs) ∧ Hid (Calls Tryz.prog 35 #[.slice la ln lc, .int .i64 zs.length] w5 fun e w6 => e = .returned (.bool bb) ∧ w6 = w5))) := by
    intro sb Φ w4 hMS
    show Calls _ _ _ _ _
    refine (HF.out Φ w2.heap.size _ w4 _ 0 0 hMS.2 hMS.1 (Nat.zero_le _)).mono ?_
    intro e w5 hG
    obtain ⟨v5, N, kept, rfl, hL, hB, hM5, hf⟩ := hG.all
    obtain ⟨ta2, tc2, ht, _⟩ := hM5.text
    obtain ⟨la, ln, lc, rfl⟩ : ∃ a n c, v5 = .slice a n c := by
      rcases hL with ⟨_, a, c, rfl⟩ | ⟨g, off, c, rfl, _⟩ <;> exact ⟨_, _, _, rfl⟩
    refine ⟨la, ln, lc, ta2, tc2, N.testBit zs.length, rfl, by simp [World.cell?, ht], hM5.mlt, hf, ?_, lhas_any hL (Nat.lt_trans (hB.lt fun n hn => by have := hn.1; omega) (by decide)) (by omega)⟩
    show _ ↔ _
    rw [hB zs.length]
    simp [InL]
  clear HN HF HT HOwn
  go_wp2
  go_region_law (first | (go_simp; go_at_call 34; refine HC1.out.mono ?_; rintro e w4 ⟨sb, Φ, rfl, hMS, q1, q2, q3⟩; have HC4 := HC2.out sb Φ w4 hMS; clear hMS) | (go_simp; go_at_call 33; refine HC4.out.mono ?_; rintro e w5 ⟨la, ln, lc, ta2, tc2, bb, rfl, q4, q5, q6, HQ, HH⟩) | (go_simp; go_at_call 35; refine HH.out.mono ?_; rintro e w6 ⟨rfl, rfl⟩))
  all_goals
    have hfin := q3 _ q6
    clear q3 q6 HC1 HC2
    go_wp2
    go_ret
    exact ⟨bb, rfl, by rw [HZ.out]; exact HQ.out, hfin⟩

end Go.Proofs.YtbjohedenfindaaGreatDoor
