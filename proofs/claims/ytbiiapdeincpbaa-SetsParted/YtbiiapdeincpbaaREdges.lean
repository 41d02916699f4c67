import Derived.Test.YtbiiapdeincpbaaRIns
import Derived.Test.YtbiiapdeincpbaaRWant
namespace Go.Proofs.Ytbiiapdeincpbaa
open Go.RowKit
set_option linter.unusedVariables false
set_option maxRecDepth 100000

theorem take_snoc_rg (l : List Rg) (k : Nat) (h : k < l.length) : l.take (k + 1) = l.take k ++ [l.getD k (0, 0)] := by
  rw [List.take_succ_eq_append_getElem h]
  simp [h]

theorem insert_cuts (B : Nat) (v : Value) (zs : List Int) (n : Int) (w : World) (hz : zs.length ≤ 999999) (hBw : B ≤ w.heap.size) (hv : IntsC w B v zs) (hc : Cuts zs) (hn : n ≤ 1114112) :
    Calls Try.prog 55 #[v, .int .i64 n] w fun e w' => ∃ v', e = .returned v' ∧ IntsC w' B v' (insL zs n) ∧ Below w.heap.size w w' :=
  insert_any B v zs n w hz hBw hv ⟨1114112, hc.top, hn⟩

set_option maxHeartbeats 2000000 in
theorem edges_row (B b off c : Nat) (v : Value) (zs : List Int) (l : List Rg) (w : World) (hl : l.length ≤ 100000) (hz : zs.length ≤ 500000) (hBw : B ≤ w.heap.size) (hv : IntsC w B v zs) (hcut : Cuts zs) (hb : b < w.heap.size) (hc : ∀ j, j < l.length → w.cell? ⟨b, off + j * 2, none⟩ = some (.int .i64 (l.getD j (0, 0)).1) ∧ w.cell? ⟨b, off + j * 2 + 1, none⟩ = some (.int .i64 (l.getD j (0, 0)).2)) :
    Calls Try.prog 37 #[v, .slice (some ⟨b, off, none⟩) l.length c] w fun e w' => ∃ v', e = .returned v' ∧ IntsC w' B v' (edgesL zs l) ∧ Below w.heap.size w w' := by
  go_enter Try.func37, Try.ntmps37
  go_wp2
  go_loopw [0, 5] (fun x i wr => ∃ k : Nat, k ≤ l.length ∧ i = .int .i64 k ∧ IntsC wr B x (edgesL zs (l.take k)) ∧ Below w.heap.size w wr) (fun _ i _ => l.length - (intOf i).toNat)
  case atStart => exact ⟨0, Nat.zero_le _, rfl, hv, Below.refl _ _⟩
  case round =>
    obtain ⟨k, hk, rfl, hI, hbw⟩ := hrel
    by_cases hlt : k < l.length
    · have hsz := hbw.size
      obtain ⟨d0, d1⟩ := hc k hlt
      have c0 := (hbw.cell (p := ⟨b, off + k * 2, none⟩) hb).trans d0
      have c1 := (hbw.cell (p := ⟨b, off + k * 2 + 1, none⟩) hb).trans d1
      have hT := take_snoc_rg l k hlt
      have hE : edgesL zs (l.take (k + 1)) = edgeHi (edgeLo (edgesL zs (l.take k)) (l.getD k (0, 0))) (l.getD k (0, 0)) := by rw [hT, edgesL_snoc]
      have hcu := edgesL_cuts (l.take k) hcut
      have hln := edgesL_len (l.take k) zs
      have htk : (l.take k).length ≤ k := List.length_take_le _ _
      clear hc hT
      generalize hr : l.getD k (0, 0) = r at *
      have HR : Hid (l.getD k (0, 0) = r) := hr
      clear hr
      generalize edgesL zs (l.take k) = zk at *
      obtain ⟨lo, hi⟩ := r
      simp only at c0 c1 d0 d1
      have HE : Hid (edgesL zs (l.take (k + 1)) = edgeHi (edgeLo zk (lo, hi)) (lo, hi)) := hE
      clear hE
      have hzk : zk.length ≤ 999998 := by omega
      by_cases a1 : 0 < lo
      · by_cases a2 : lo ≤ 1114111
        · by_cases b1 : 0 ≤ hi
          · by_cases b2 : hi < 1114111
            · have HL : Hid (edgeLo zk (lo, hi) = insL zk lo) := by show _ = _; unfold edgeLo; rw [if_pos ⟨by simpa using a1, by simpa using a2⟩]
              have HH : Hid (edgeHi (edgeLo zk (lo, hi)) (lo, hi) = insL (edgeLo zk (lo, hi)) (hi + 1)) := by show _ = _; unfold edgeHi; rw [if_pos ⟨by simpa using b1, by simpa using b2⟩]
              have hin := insL_len zk lo
              have hcu2 := hcu.ins lo (by omega) (by omega)
              go_wp2_with fail
              refine (insert_cuts B _ zk lo _ (by omega) (by omega) hI hcu (by omega)).mono ?_
              rintro e w1 ⟨v1, rfl, hI1, hb1⟩
              have hbw1 := hbw.trans (hb1.mono hsz)
              have hsz1 := hbw1.size
              have c0' := (hbw1.cell (p := ⟨b, off + k * 2, none⟩) hb).trans d0
              have c1' := (hbw1.cell (p := ⟨b, off + k * 2 + 1, none⟩) hb).trans d1
              clear c0 c1 hI hb1 hbw
              go_wp2_with fail
              refine (insert_cuts B _ (insL zk lo) (hi + 1) _ (by omega) (by omega) hI1 hcu2 (by omega)).mono ?_
              rintro e w2 ⟨v2, rfl, hI2, hb2⟩
              have hbw2 := hbw1.trans (hb2.mono hsz1)
              go_wp2
              go_roundw
              case rel => exact ⟨k + 1, by omega, by go_num, by rw [HE.out, HH.out, HL.out]; exact hI2, hbw2⟩
              case measure => simp [intOf]; omega
            · have HL : Hid (edgeLo zk (lo, hi) = insL zk lo) := by show _ = _; unfold edgeLo; rw [if_pos ⟨by simpa using a1, by simpa using a2⟩]
              have HH : Hid (edgeHi (edgeLo zk (lo, hi)) (lo, hi) = (edgeLo zk (lo, hi))) := by show _ = _; unfold edgeHi; rw [if_neg (by simp; omega)]
              have hin := insL_len zk lo
              have hcu2 := hcu.ins lo (by omega) (by omega)
              go_wp2_with fail
              refine (insert_cuts B _ zk lo _ (by omega) (by omega) hI hcu (by omega)).mono ?_
              rintro e w1 ⟨v1, rfl, hI1, hb1⟩
              have hbw1 := hbw.trans (hb1.mono hsz)
              have hsz1 := hbw1.size
              have c0' := (hbw1.cell (p := ⟨b, off + k * 2, none⟩) hb).trans d0
              have c1' := (hbw1.cell (p := ⟨b, off + k * 2 + 1, none⟩) hb).trans d1
              clear c0 c1 hI hb1 hbw
              go_wp2_with fail
              go_roundw
              case rel => exact ⟨k + 1, by omega, by go_num, by rw [HE.out, HH.out, HL.out]; exact hI1, hbw1⟩
              case measure => simp [intOf]; omega
          · have HL : Hid (edgeLo zk (lo, hi) = insL zk lo) := by show _ = _; unfold edgeLo; rw [if_pos ⟨by simpa using a1, by simpa using a2⟩]
            have HH : Hid (edgeHi (edgeLo zk (lo, hi)) (lo, hi) = (edgeLo zk (lo, hi))) := by show _ = _; unfold edgeHi; rw [if_neg (by simp; omega)]
            have hin := insL_len zk lo
            have hcu2 := hcu.ins lo (by omega) (by omega)
            go_wp2_with fail
            refine (insert_cuts B _ zk lo _ (by omega) (by omega) hI hcu (by omega)).mono ?_
            rintro e w1 ⟨v1, rfl, hI1, hb1⟩
            have hbw1 := hbw.trans (hb1.mono hsz)
            have hsz1 := hbw1.size
            have c0' := (hbw1.cell (p := ⟨b, off + k * 2, none⟩) hb).trans d0
            have c1' := (hbw1.cell (p := ⟨b, off + k * 2 + 1, none⟩) hb).trans d1
            clear c0 c1 hI hb1 hbw
            go_wp2_with fail
            go_roundw
            case rel => exact ⟨k + 1, by omega, by go_num, by rw [HE.out, HH.out, HL.out]; exact hI1, hbw1⟩
            case measure => simp [intOf]; omega
        · by_cases b1 : 0 ≤ hi
          · by_cases b2 : hi < 1114111
            · have HL : Hid (edgeLo zk (lo, hi) = zk) := by show _ = _; unfold edgeLo; rw [if_neg (by simp; omega)]
              have HH : Hid (edgeHi (edgeLo zk (lo, hi)) (lo, hi) = insL (edgeLo zk (lo, hi)) (hi + 1)) := by show _ = _; unfold edgeHi; rw [if_pos ⟨by simpa using b1, by simpa using b2⟩]
              go_wp2_with fail
              refine (insert_cuts B _ (zk) (hi + 1) _ (by omega) (by omega) hI hcu (by omega)).mono ?_
              rintro e w2 ⟨v2, rfl, hI2, hb2⟩
              have hbw2 := hbw.trans (hb2.mono hsz)
              go_wp2
              go_roundw
              case rel => exact ⟨k + 1, by omega, by go_num, by rw [HE.out, HH.out, HL.out]; exact hI2, hbw2⟩
              case measure => simp [intOf]; omega
            · have HL : Hid (edgeLo zk (lo, hi) = zk) := by show _ = _; unfold edgeLo; rw [if_neg (by simp; omega)]
              have HH : Hid (edgeHi (edgeLo zk (lo, hi)) (lo, hi) = (edgeLo zk (lo, hi))) := by show _ = _; unfold edgeHi; rw [if_neg (by simp; omega)]
              go_wp2_with fail
              go_roundw
              case rel => exact ⟨k + 1, by omega, by go_num, by rw [HE.out, HH.out, HL.out]; exact hI, hbw⟩
              case measure => simp [intOf]; omega
          · have HL : Hid (edgeLo zk (lo, hi) = zk) := by show _ = _; unfold edgeLo; rw [if_neg (by simp; omega)]
            have HH : Hid (edgeHi (edgeLo zk (lo, hi)) (lo, hi) = (edgeLo zk (lo, hi))) := by show _ = _; unfold edgeHi; rw [if_neg (by simp; omega)]
            go_wp2_with fail
            go_roundw
            case rel => exact ⟨k + 1, by omega, by go_num, by rw [HE.out, HH.out, HL.out]; exact hI, hbw⟩
            case measure => simp [intOf]; omega
      · by_cases b1 : 0 ≤ hi
        · by_cases b2 : hi < 1114111
          · have HL : Hid (edgeLo zk (lo, hi) = zk) := by show _ = _; unfold edgeLo; rw [if_neg (by simp; omega)]
            have HH : Hid (edgeHi (edgeLo zk (lo, hi)) (lo, hi) = insL (edgeLo zk (lo, hi)) (hi + 1)) := by show _ = _; unfold edgeHi; rw [if_pos ⟨by simpa using b1, by simpa using b2⟩]
            go_wp2_with fail
            refine (insert_cuts B _ (zk) (hi + 1) _ (by omega) (by omega) hI hcu (by omega)).mono ?_
            rintro e w2 ⟨v2, rfl, hI2, hb2⟩
            have hbw2 := hbw.trans (hb2.mono hsz)
            go_wp2
            go_roundw
            case rel => exact ⟨k + 1, by omega, by go_num, by rw [HE.out, HH.out, HL.out]; exact hI2, hbw2⟩
            case measure => simp [intOf]; omega
          · have HL : Hid (edgeLo zk (lo, hi) = zk) := by show _ = _; unfold edgeLo; rw [if_neg (by simp; omega)]
            have HH : Hid (edgeHi (edgeLo zk (lo, hi)) (lo, hi) = (edgeLo zk (lo, hi))) := by show _ = _; unfold edgeHi; rw [if_neg (by simp; omega)]
            go_wp2_with fail
            go_roundw
            case rel => exact ⟨k + 1, by omega, by go_num, by rw [HE.out, HH.out, HL.out]; exact hI, hbw⟩
            case measure => simp [intOf]; omega
        · have HL : Hid (edgeLo zk (lo, hi) = zk) := by show _ = _; unfold edgeLo; rw [if_neg (by simp; omega)]
          have HH : Hid (edgeHi (edgeLo zk (lo, hi)) (lo, hi) = (edgeLo zk (lo, hi))) := by show _ = _; unfold edgeHi; rw [if_neg (by simp; omega)]
          go_wp2_with fail
          go_roundw
          case rel => exact ⟨k + 1, by omega, by go_num, by rw [HE.out, HH.out, HL.out]; exact hI, hbw⟩
          case measure => simp [intOf]; omega
    · have HT : Hid (l.take k = l) := List.take_of_length_le (by omega)
      go_wp2
      go_ret
      exact ⟨_, rfl, by rw [← HT.out]; exact hI, hbw⟩

set_option maxHeartbeats 400000 in
theorem edges_empty (B : Nat) (a : Option Addr) (c : Nat) (v : Value) (zs : List Int) (w : World) (hv : IntsC w B v zs) :
    Calls Try.prog 37 #[v, .slice a 0 c] w fun e w' => ∃ v', e = .returned v' ∧ IntsC w' B v' (edgesL zs []) ∧ Below w.heap.size w w' := by
  go_enter Try.func37, Try.ntmps37
  go_wp2
  refine wp_loop_rounds 1 ?_
  rw [rounds_succ]
  go_wp2
  go_ret
  exact ⟨_, rfl, hv, Below.refl _ _⟩

theorem edges_any (B : Nat) (v vs : Value) (zs : List Int) (l : List Rg) (w : World) (hl : l.length ≤ 100000) (hz : zs.length ≤ 500000) (hBw : B ≤ w.heap.size) (hv : IntsC w B v zs) (hcut : Cuts zs) (hs : Rngs w vs l) :
    Calls Try.prog 37 #[v, vs] w fun e w' => ∃ v', e = .returned v' ∧ IntsC w' B v' (edgesL zs l) ∧ Below w.heap.size w w' := by
  rcases hs with ⟨rfl, a, c, rfl⟩ | ⟨b, off, c, rfl, hb, hc⟩
  · exact edges_empty B a c v zs w hv
  · exact edges_row B b off c v zs l w hl hz hBw hv hcut hb hc

end Go.Proofs.Ytbiiapdeincpbaa
