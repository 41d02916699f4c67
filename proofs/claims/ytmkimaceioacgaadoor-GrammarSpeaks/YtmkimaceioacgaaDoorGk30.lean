/- Texts of the proof, put together: GRsn. -/
import Derived.Test.YtmkimaceioacgaaDoorGk28
import Derived.Test.YtmkimaceioacgaaDoorGk29
import Derived.Lib.AppendStr
import Derived.Laws.IdiomStrings
import Derived.Laws.BytesArg
import Derived.Deep.AppendLies
namespace Go.Proofs.YtmkimaceioacgaaDoor
open Go.RowKit
set_option linter.unusedVariables false
set_option maxRecDepth 100000

/-- bytes that a slice owns -/
def OwnY (w : World) (B : Nat) (v : Value) (bs : List UInt8) : Prop := w.ownsRow B 5 1 v bs.length (bs.map fun b => Value.int .u8 (b.toNat : Int))
theorem OwnY.slice {w : World} {B : Nat} {v : Value} {bs : List UInt8} (h : OwnY w B v bs) : ∃ a c, v = .slice a bs.length c := by
  rcases h.2 with ⟨e, h0⟩ | ⟨g, cap, cur, e, _⟩
  · exact ⟨none, 0, by rw [e, h0]⟩
  · exact ⟨_, _, e⟩
theorem OwnY.nil (w : World) (B : Nat) : OwnY w B (.slice none 0 0) [] := ⟨rfl, .inl ⟨rfl, rfl⟩⟩
theorem OwnY.str {w : World} {B : Nat} {v : Value} {bs : List UInt8} (h : OwnY w B v bs) : (convert 99 9 v).run Tryd.prog w = .ok (.string ⟨bs.toArray⟩) w := by
  rcases h.2 with ⟨e, h0⟩ | ⟨g, cap, cur, e, _⟩
  · obtain rfl : bs = [] := List.eq_nil_of_length_eq_zero h0
    rw [e]
    exact run_convert_bytes_nil w 99 5 Tryd.underlying99 Tryd.underlying5 0 0 9 Tryd.underlying9
  · unfold OwnY at h
    subst e
    refine run_convert_bytes_back w 99 9 5 ⟨g, 0, none⟩ cap bs Tryd.underlying99 Tryd.underlying5 Tryd.underlying9 fun j hj => ?_
    have hadd : (⟨g, 0, none⟩ : Addr).add j = ⟨g, j, none⟩ := by unfold Addr.add; split <;> simp_all
    rw [hadd, h.cellAt j (by omega)]
    simp [hj]
theorem Tryd.infoU8 : (Tryd.prog.info? 5).map (fun i => (i.zero, i.size, i.bytes)) = some (some (.int .u8 0), 1, 1) := by kernel_rfl
theorem addF_calc (a b : SF) (ha : (txF a).length ≤ 1000) (hb : (txF b).length ≤ 1000) :
    (addF a b = .told (txF a ++ txF b) ∧ knF a = 2 ∧ knF b = 2 ∧ (txF a ++ txF b).length ≤ 1000) ∨ (addF a b = .long ∧ knF a = 2 ∧ knF b = 2 ∧ 1000 < (txF a ++ txF b).length) ∨
    ((addF a b = .long ∧ (txF a ++ txF b).length ≤ 1000) ∧ ((knF a = 1 ∧ knF b = 1) ∨ (knF a = 1 ∧ knF b = 2) ∨ (knF a = 2 ∧ knF b = 1))) ∨
    ((addF a b = .non ∧ (txF a ++ txF b).length ≤ 1000) ∧ ((knF a = 0 ∧ knF b = 0) ∨ (knF a = 0 ∧ knF b = 1) ∨ (knF a = 0 ∧ knF b = 2) ∨ (knF a = 1 ∧ knF b = 0) ∨ (knF a = 2 ∧ knF b = 0))) := by
  cases a using SF.cs with
  | non => cases b using SF.cs <;> simp [addF, knF, txF] at * <;> omega
  | long => cases b using SF.cs <;> simp [addF, knF, txF] at * <;> omega
  | told x =>
    cases b using SF.cs with
    | non => simp [addF, knF, txF] at *; omega
    | long => simp [addF, knF, txF] at *; omega
    | told y =>
      by_cases e : (x ++ y).length ≤ 1000
      · left
        refine ⟨?_, rfl, rfl, e⟩
        show (if (x ++ y).length ≤ 1000 then SF.told (x ++ y) else .long) = _
        rw [if_pos e]; rfl
      · right; left
        refine ⟨?_, rfl, rfl, by show 1000 < (x ++ y).length; omega⟩
        show (if (x ++ y).length ≤ 1000 then SF.told (x ++ y) else .long) = _
        rw [if_neg e]
theorem rowF_take (f : Nat → SF) (r : List Int) (k : Nat) (hk : k < r.length) : rowF f (r.take (k + 1)) = addF (rowF f (r.take k)) (symF f (r.getD k 0)) := by
  unfold rowF
  rw [List.take_succ_eq_append_getElem hk, List.foldl_append]
  simp [List.getD, hk]
theorem encL_append (a b : List Int) : encL (a ++ b) = encL a ++ encL b := by simp [encL]
theorem encB_cells (b : SF) : Lib.strCells (encB b) = (encL (txF b)).map fun x => Value.int .u8 (x.toNat : Int) := by
  simp [Lib.strCells, encB]
theorem encB_size (b : SF) : (encB b).size = (encL (txF b)).length := by
  show (encL (txF b)).toArray.size = _
  simp

set_option maxHeartbeats 8000000 in
theorem rowSentence_any (N : Nat) (hN : N ≤ 300) (L : List SF) (r : List Int) (rv bv : Value) (w : World) (hr : SymsL N r) (h3 : ∀ s ∈ r, s ≤ 300) (hL : L.length = N) (hok : ∀ n, OkS (factF L n)) (hrv : IntsR w rv r) (hbv : SntR w bv L) :
    Calls Tryd.prog 34 #[rv, bv] w fun e w' => e = .returned (sfV (rowF (factF L) r)) ∧ Below w.heap.size w w' := by
  obtain ⟨i0, hi0, hz0, hz1, hz2⟩ := infoParts Tryd.infoU8
  obtain ⟨ra, rc, rfl⟩ := hrv.slice
  have HRV : Hid (IntsR w (.slice ra r.length rc) r) := hrv
  obtain ⟨D, bc, rfl, hD, hbc⟩ := hbv
  have HBC : Hid (∀ j, j < L.length → w.cell? ⟨D, j * 2, none⟩ = some (.int .i64 (knF (factF L j))) ∧ w.cell? ⟨D, j * 2 + 1, none⟩ = some (.string (encB (factF L j)))) := hbc
  rw [hL] at HBC ⊢
  obtain ⟨hr1, hr2⟩ := hr
  have HR2 : Hid (∀ j, j < r.length → -(N : Int) ≤ r.getD j 0 ∧ I64 (r.getD j 0)) := hr2
  have HR3 : Hid (∀ s ∈ r, s ≤ 300) := h3
  have HOK : Hid (∀ n, OkS (factF L n)) := hok
  clear hrv hbc hr2 h3 hok hL
  go_enter Tryd.func34, Tryd.ntmps34
  go_wp2
  have hA := alloc_below w (.cells #[.int .i64 0, .string ByteArray.empty] 40)
  have hAn : ∀ W : World, (W.alloc (.cells #[.int .i64 0, .string ByteArray.empty] 40)).heap[W.heap.size]? = some (.cells #[.int .i64 0, .string ByteArray.empty] 40 (0, 0)) := fun W => by
    show (W.heap.push _)[W.heap.size]? = _
    exact Array.getElem?_push_size
  have HA0 : Hid ((w.alloc (.cells #[.int .i64 0, .string ByteArray.empty] 40)).heap[w.heap.size]? = some (.cells #[.int .i64 0, .string ByteArray.empty] 40 (0, 0))) := hAn w
  clear hAn
  go_loopw [5, 6, 13] (fun kv tv jv wr => ∃ (k : Nat) (ka : Int) (acc : SF), k ≤ r.length ∧ kv = .int .i64 ka ∧ jv = .int .i64 k ∧ Hid (ka = knF acc) ∧ Hid (rowF (factF L) (r.take k) = acc) ∧ Hid (OwnY wr (w.heap.size + 1) tv (encL (txF acc))) ∧ Hid (OkS acc) ∧ Hid (wr.heap[w.heap.size]? = some (.cells #[.int .i64 0, .string ByteArray.empty] 40 (0, 0))) ∧ Below w.heap.size w wr) (fun _ _ jv _ => r.length - (intOf jv).toNat)
  case atStart => exact ⟨0, 2, .told [], Nat.zero_le _, rfl, rfl, rfl, rfl, OwnY.nil _ _, (fun l hl => by have hl := Option.some.inj (Option.some.inj hl); subst hl; simp), HA0, hA⟩
  case round =>
    clear HA0 hA
    obtain ⟨k, ka, acc, hk, rfl, rfl, HKA, HRW, HOY, HOA, HRB, hbw⟩ := hrel
    have hRl : w.heap.size < wr.heap.size := (Array.getElem?_eq_some_iff.1 HRB.out).1
    obtain ⟨ta, tc, rfl⟩ := HOY.out.slice
    by_cases hlt : k < r.length
    · obtain ⟨b, off, rfl, hb, hc⟩ := (HRV.out.below hbw).at hlt
      obtain ⟨hs1, hs2⟩ := HR2.out k hlt
      have hs3 := HR3.out (r.getD k 0) (getD_memI r k hlt)
      have HT : Hid (rowF (factF L) (r.take (k + 1)) = addF acc (symF (factF L) (r.getD k 0))) := by
        show _ = _
        rw [rowF_take _ _ _ hlt, HRW.out]
      generalize r.getD k 0 = sy at *
      have hNm := nameOf_any sy hs2
      have hKeep : Hid (∀ w2 ob, (wr.grownBy w2 ob) → (∀ g, ob = some g → w.heap.size + 1 ≤ g) → w2.heap[w.heap.size]? = some (.cells #[.int .i64 0, .string ByteArray.empty] 40 (0, 0)) ∧ Below w.heap.size w w2) := fun w2 ob hg hob => by
        refine ⟨(hg.block w.heap.size hRl (fun e => by have := hob _ e.symm; omega)).trans HRB.out, hbw.trans ⟨hg.os, hg.tape, hg.output, hg.size, fun c hc => hg.block c (by omega) (fun e => by have := hob _ e.symm; omega)⟩⟩
      have hown0 : wr.ownsRow (w.heap.size + 1) 5 1 (.slice ta (encL (txF acc)).length tc) (encL (txF acc)).length ((encL (txF acc)).map fun x => Value.int .u8 (x.toNat : Int)) := HOY.out
      have hol : Hid (∀ g, (Value.slice ta (encL (txF acc)).length tc).ownBlock = some g → w.heap.size + 1 ≤ g) := fun g hg => (HOY.out.lt g hg).1
      have hal := okS_len HOA.out
      by_cases hs : sy < 0
      · obtain ⟨q, hq⟩ : ∃ q : Nat, -1 - sy = (q : Int) := ⟨(-1 - sy).toNat, by omega⟩
        have d1 : decide (sy < 0) = true := decide_eq_true hs
        rw [d1, hq] at hNm
        have hqN : q < N := by omega
        obtain ⟨b0, b1⟩ := HBC.out q hqN
        have b0' := (hbw.cell (p := ⟨D, q * 2, none⟩) hD).trans b0
        have b1' := (hbw.cell (p := ⟨D, q * 2 + 1, none⟩) hD).trans b1
        have hDr : D < wr.heap.size := Nat.lt_of_lt_of_le hD hbw.size
        have hsym : symF (factF L) sy = factF L q := by
          unfold symF
          rw [if_pos hs, hq, Int.toNat_natCast]
        rw [hsym] at HT
        have HOB : Hid (OkS (factF L q)) := HOK.out q
        generalize factF L q = fb at *
        have hbl := okS_len HOB.out
        have HADD : Hid (OkS (addF acc fb)) := addF_ok HOA.out HOB.out
        have hcs := addF_calc acc fb hal hbl
        have hka := HKA.out
        have HEA : Hid (encL (txF acc ++ txF fb) = encL (txF acc) ++ encL (txF fb)) := encL_append _ _
        have hsz := encB_size fb
        have hce := encB_cells fb
        have hl1 := encL_len (txF acc)
        have hl2 := encL_len (txF fb)
        have HX : Hid (∀ X : SF, addF acc fb = X → rowF (factF L) (r.take (k + 1)) = X ∧ OkS X) := fun X hX => ⟨HT.out.trans hX, hX ▸ HADD.out⟩
        have HEN : Hid (∀ (v2 : Value) (w2 : World), w2.ownsRow (w.heap.size + 1) 5 1 v2 ((encL (txF acc)).length + (encB fb).size) (((encL (txF acc)).map fun x => Value.int .u8 (x.toNat : Int)) ++ Lib.strCells (encB fb)) → OwnY w2 (w.heap.size + 1) v2 (encL (txF acc ++ txF fb))) := fun v2 w2 h2 => by
          unfold OwnY
          rw [HEA.out, List.length_append, List.map_append, ← hsz, ← hce]
          exact h2
        obtain ⟨n2, hn2⟩ : ∃ n2, n2 = (encL (txF acc)).length + (encB fb).size := ⟨_, rfl⟩
        have hn3 : n2 = (txF acc ++ txF fb).length * 2 := by rw [hn2, hsz, hl1, hl2, List.length_append]; omega
        have HN2 : Hid (n2 = (encL (txF acc)).length + (encB fb).size) := hn2
        have hb9 : (encL (txF acc)).length + (encB fb).size ≤ 4000 := by rw [hsz, hl1, hl2]; omega
        clear HT HADD HEA hsz hce hl1 hl2 hbl hal HOB HOA HOY HKA b0 b1 hsym hs d1 hq HRW hn2
        rcases hcs with ⟨hadd, k1, k2, hlen⟩ | ⟨hadd, k1, k2, hlen⟩ | ⟨⟨hadd, hlen⟩, hcs⟩ | ⟨⟨hadd, hlen⟩, hcs⟩
        · have d : decide ((2000 : Int) < (n2 : Int)) = false := decide_eq_false (by omega)
          have d2 : ¬ (2000 : Int) < (n2 : Int) := by omega
          rw [k1] at hka
          subst hka
          clear hn3 hlen
          rw [k2] at b0'
          generalize hLA : (encL (txF acc)).length = la at *
          generalize encB fb = sB at *
          go_wp2_with fail
          refine (hNm _).mono ?_
          rintro e w1 ⟨rfl, hw1⟩
          rw [hw1]
          clear hw1
          go_wp2_with (at_builtin; refine Lib.wpList_append_own_string _ rfl _ _ 99 9 rfl (w.heap.size + 1) 5 i0 Tryd.underlying99 Tryd.underlying9 hi0 hz0 hz1 hz2 (.slice ta la tc) la ((encL (txF acc)).map fun x => Value.int .u8 (x.toNat : Int)) rfl hown0 sB rfl (by unfold maxLen; omega) (by omega) (by omega) ?_)
          intro v2 w2 hown2 hg2 hnil2
          obtain ⟨a2, c2, rfl⟩ : ∃ a2 c2, v2 = .slice a2 n2 c2 := by
            rcases hown2.2 with ⟨e, h0⟩ | ⟨g, cap, cur, e, _⟩
            · exact ⟨none, 0, by rw [e, HN2.out, h0]⟩
            · exact ⟨_, _, by rw [e, HN2.out]⟩
          have HO2 := HEN.out _ w2 hown2
          have HO2' : Hid (OwnY w2 (w.heap.size + 1) (.slice a2 n2 c2) (encL (txF acc ++ txF fb))) := HO2
          obtain ⟨hrb2, hbw2⟩ := hKeep.out w2 _ hg2 hol.out
          have HRB2 : Hid (w2.heap[w.heap.size]? = some (.cells #[.int .i64 0, .string ByteArray.empty] 40 (0, 0))) := hrb2
          clear hown2 hg2 hnil2 HO2 hrb2 HEN HN2 hown0 hKeep hol HRB b0' b1'
          go_wp2
          go_roundw
          case rel => exact ⟨k + 1, 2, .told (txF acc ++ txF fb), by omega, rfl, by go_num, (show _ = _ from rfl), (HX.out _ hadd).1, HO2', (HX.out _ hadd).2, HRB2, hbw2⟩
          case measure => simp [intOf]; omega
        · have d : decide ((2000 : Int) < (n2 : Int)) = true := decide_eq_true (by omega)
          have d2 : (2000 : Int) < (n2 : Int) := by omega
          rw [k1] at hka
          subst hka
          clear hn3 hlen
          rw [k2] at b0'
          generalize hLA : (encL (txF acc)).length = la at *
          generalize encB fb = sB at *
          go_wp2_with fail
          refine (hNm _).mono ?_
          rintro e w1 ⟨rfl, hw1⟩
          rw [hw1]
          clear hw1
          go_wp2_with (at_builtin; refine Lib.wpList_append_own_string _ rfl _ _ 99 9 rfl (w.heap.size + 1) 5 i0 Tryd.underlying99 Tryd.underlying9 hi0 hz0 hz1 hz2 (.slice ta la tc) la ((encL (txF acc)).map fun x => Value.int .u8 (x.toNat : Int)) rfl hown0 sB rfl (by unfold maxLen; omega) (by omega) (by omega) ?_)
          intro v2 w2 hown2 hg2 hnil2
          obtain ⟨a2, c2, rfl⟩ : ∃ a2 c2, v2 = .slice a2 n2 c2 := by
            rcases hown2.2 with ⟨e, h0⟩ | ⟨g, cap, cur, e, _⟩
            · exact ⟨none, 0, by rw [e, HN2.out, h0]⟩
            · exact ⟨_, _, by rw [e, HN2.out]⟩
          have HO2 := HEN.out _ w2 hown2
          have HO2' : Hid (OwnY w2 (w.heap.size + 1) (.slice a2 n2 c2) (encL (txF acc ++ txF fb))) := HO2
          obtain ⟨hrb2, hbw2⟩ := hKeep.out w2 _ hg2 hol.out
          have HRB2 : Hid (w2.heap[w.heap.size]? = some (.cells #[.int .i64 0, .string ByteArray.empty] 40 (0, 0))) := hrb2
          clear hown2 hg2 hnil2 HO2 hrb2 HEN HN2 hown0 hKeep hol HRB b0' b1'
          go_wp2
          go_roundw
          case rel => exact ⟨k + 1, 1, .long, by omega, rfl, by go_num, (show _ = _ from rfl), (HX.out _ hadd).1, OwnY.nil _ _, (HX.out _ hadd).2, HRB2, hbw2⟩
          case measure => simp [intOf]; omega
        · have d : decide ((2000 : Int) < (n2 : Int)) = false := decide_eq_false (by omega)
          have d2 : ¬ (2000 : Int) < (n2 : Int) := by omega
          rcases hcs with ⟨k1, k2⟩ | ⟨k1, k2⟩ | ⟨k1, k2⟩
          all_goals
            rw [k1] at hka
            subst hka
            clear hn3 hlen
            rw [k2] at b0'
            generalize hLA : (encL (txF acc)).length = la at *
            generalize encB fb = sB at *
            go_wp2_with fail
            refine (hNm _).mono ?_
            rintro e w1 ⟨rfl, hw1⟩
            rw [hw1]
            clear hw1
            go_wp2_with (at_builtin; refine Lib.wpList_append_own_string _ rfl _ _ 99 9 rfl (w.heap.size + 1) 5 i0 Tryd.underlying99 Tryd.underlying9 hi0 hz0 hz1 hz2 (.slice ta la tc) la ((encL (txF acc)).map fun x => Value.int .u8 (x.toNat : Int)) rfl hown0 sB rfl (by unfold maxLen; omega) (by omega) (by omega) ?_)
            intro v2 w2 hown2 hg2 hnil2
            obtain ⟨a2, c2, rfl⟩ : ∃ a2 c2, v2 = .slice a2 n2 c2 := by
              rcases hown2.2 with ⟨e, h0⟩ | ⟨g, cap, cur, e, _⟩
              · exact ⟨none, 0, by rw [e, HN2.out, h0]⟩
              · exact ⟨_, _, by rw [e, HN2.out]⟩
            have HO2 := HEN.out _ w2 hown2
            have HO2' : Hid (OwnY w2 (w.heap.size + 1) (.slice a2 n2 c2) (encL (txF acc ++ txF fb))) := HO2
            obtain ⟨hrb2, hbw2⟩ := hKeep.out w2 _ hg2 hol.out
            have HRB2 : Hid (w2.heap[w.heap.size]? = some (.cells #[.int .i64 0, .string ByteArray.empty] 40 (0, 0))) := hrb2
            clear hown2 hg2 hnil2 HO2 hrb2 HEN HN2 hown0 hKeep hol HRB b0' b1'
            go_wp2
            go_roundw
            case rel => exact ⟨k + 1, 1, .long, by omega, rfl, by go_num, (show _ = _ from rfl), (HX.out _ hadd).1, OwnY.nil _ _, (HX.out _ hadd).2, HRB2, hbw2⟩
            case measure => simp [intOf]; omega
        · have d : decide ((2000 : Int) < (n2 : Int)) = false := decide_eq_false (by omega)
          have d2 : ¬ (2000 : Int) < (n2 : Int) := by omega
          rcases hcs with ⟨k1, k2⟩ | ⟨k1, k2⟩ | ⟨k1, k2⟩ | ⟨k1, k2⟩ | ⟨k1, k2⟩
          all_goals
            rw [k1] at hka
            subst hka
            clear hn3 hlen
            rw [k2] at b0'
            generalize hLA : (encL (txF acc)).length = la at *
            generalize encB fb = sB at *
            go_wp2_with fail
            refine (hNm _).mono ?_
            rintro e w1 ⟨rfl, hw1⟩
            rw [hw1]
            clear hw1
            go_wp2_with (at_builtin; refine Lib.wpList_append_own_string _ rfl _ _ 99 9 rfl (w.heap.size + 1) 5 i0 Tryd.underlying99 Tryd.underlying9 hi0 hz0 hz1 hz2 (.slice ta la tc) la ((encL (txF acc)).map fun x => Value.int .u8 (x.toNat : Int)) rfl hown0 sB rfl (by unfold maxLen; omega) (by omega) (by omega) ?_)
            intro v2 w2 hown2 hg2 hnil2
            obtain ⟨a2, c2, rfl⟩ : ∃ a2 c2, v2 = .slice a2 n2 c2 := by
              rcases hown2.2 with ⟨e, h0⟩ | ⟨g, cap, cur, e, _⟩
              · exact ⟨none, 0, by rw [e, HN2.out, h0]⟩
              · exact ⟨_, _, by rw [e, HN2.out]⟩
            have HO2 := HEN.out _ w2 hown2
            have HO2' : Hid (OwnY w2 (w.heap.size + 1) (.slice a2 n2 c2) (encL (txF acc ++ txF fb))) := HO2
            obtain ⟨hrb2, hbw2⟩ := hKeep.out w2 _ hg2 hol.out
            have HRB2 : Hid (w2.heap[w.heap.size]? = some (.cells #[.int .i64 0, .string ByteArray.empty] 40 (0, 0))) := hrb2
            clear hown2 hg2 hnil2 HO2 hrb2 HEN HN2 hown0 hKeep hol HRB b0' b1'
            go_wp2
            go_roundw
            case rel => exact ⟨k + 1, 0, .non, by omega, rfl, by go_num, (show _ = _ from rfl), (HX.out _ hadd).1, OwnY.nil _ _, (HX.out _ hadd).2, HRB2, hbw2⟩
            case measure => simp [intOf]; omega
      · have d1 : decide (sy < 0) = false := decide_eq_false hs
        rw [d1] at hNm
        have hsym : symF (factF L) sy = .told [sy] := by
          unfold symF
          rw [if_neg hs]
        rw [hsym] at HT
        have hs0 : 0 ≤ sy := by omega
        have HOB : Hid (OkS (.told [sy])) := fun l hl => by
          have hl := Option.some.inj (Option.some.inj hl)
          subst hl
          refine ⟨by simp, fun x hx => ?_⟩
          obtain rfl : x = sy := by simpa using hx
          omega
        have HADD : Hid (OkS (addF acc (.told [sy]))) := addF_ok HOA.out HOB.out
        have hcs := addF_calc acc (.told [sy]) hal (by simp [txF])
        have hka := HKA.out
        have hl1 := encL_len (txF acc)
        have HX : Hid (∀ X : SF, addF acc (.told [sy]) = X → rowF (factF L) (r.take (k + 1)) = X ∧ OkS X) := fun X hX => ⟨HT.out.trans hX, hX ▸ HADD.out⟩
        have HEN : Hid (∀ (v2 : Value) (w2 : World), w2.ownsRow (w.heap.size + 1) 5 1 v2 ((encL (txF acc)).length + 2) (((encL (txF acc)).map fun x => Value.int .u8 (x.toNat : Int)) ++ [.int .u8 (sy / 256), .int .u8 (sy % 256)]) → OwnY w2 (w.heap.size + 1) v2 (encL (txF acc ++ [sy]))) := fun v2 w2 h2 => by
          unfold OwnY
          have e1 : encL [sy] = [byteU (sy / 256), byteU (sy % 256)] := by simp [encL]
          rw [encL_append, List.length_append, List.map_append, e1]
          simp only [List.map_cons, List.map_nil, List.length_cons, List.length_nil]
          rw [byteU_nat _ (by omega) (by omega), byteU_nat _ (by omega) (by omega), Int.toNat_of_nonneg (by omega), Int.toNat_of_nonneg (by omega)]
          exact h2
        have hown1 : ∀ o, (wr.alloc o).ownsRow (w.heap.size + 1) 5 1 (.slice ta (encL (txF acc)).length tc) (encL (txF acc)).length ((encL (txF acc)).map fun x => Value.int .u8 (x.toNat : Int)) := fun o => World.ownsRow.alloc hown0 o
        have HK2 : Hid (∀ o w2, (wr.alloc o).grownBy w2 (Value.slice ta (encL (txF acc)).length tc).ownBlock → w2.heap[w.heap.size]? = some (.cells #[.int .i64 0, .string ByteArray.empty] 40 (0, 0)) ∧ Below w.heap.size w w2) := fun o w2 hg => by
          have h1 : wr.grownBy w2 (Value.slice ta (encL (txF acc)).length tc).ownBlock := ⟨hg.os, hg.tape, hg.output, Nat.le_trans (by simp) hg.size, fun c hc hne => (hg.block c (by simp; omega) hne).trans (Below.heap_alloc wr o c hc)⟩
          exact hKeep.out w2 _ h1 hol.out
        have hn3 : (encL (txF acc)).length + 2 = (txF acc ++ [sy]).length * 2 := by rw [hl1, List.length_append]; simp; omega
        have hb9 : (encL (txF acc)).length ≤ 2000 := by rw [hl1]; omega
        clear HT HADD hl1 hal HOB HOA HOY HKA hsym hs d1 HRW
        rcases hcs with ⟨hadd, k1, k2, hlen⟩ | ⟨hadd, k1, k2, hlen⟩ | ⟨⟨hadd, hlen⟩, hcs⟩ | ⟨⟨hadd, hlen⟩, hcs⟩
        · rw [k1] at hka
          subst hka
          have d2 : ¬ (2000 : Int) < ((encL (txF acc)).length : Int) + 2 := by have : (txF acc ++ [sy]).length ≤ 1000 := hlen; omega
          have d : decide ((2000 : Int) < ((encL (txF acc)).length : Int) + 2) = false := decide_eq_false d2
          clear hn3 hlen
          generalize hLA : (encL (txF acc)).length = la at *
          go_wp2_with fail
          refine (hNm _).mono ?_
          rintro e w1 ⟨rfl, hw1⟩
          rw [hw1]
          clear hw1
          go_wp2_with (at_builtin; refine wpList_append_lies _ rfl _ _ 99 rfl (w.heap.size + 1) 5 i0 (.int .u8 0) 1 1 Tryd.underlying99 hi0 hz0 hz1 hz2 rfl (by decide) (.slice ta la tc) la ((encL (txF acc)).map fun x => Value.int .u8 (x.toNat : Int)) rfl (hown1 _) ⟨wr.heap.size, 0, none⟩ 2 2 [.int .u8 (sy / 256), .int .u8 (sy % 256)] rfl rfl (World.news_of_block (heap_alloc_new wr _)) (by intro x hx; simp at hx; rcases hx with rfl | rfl <;> rfl) (by omega) (by unfold maxLen; omega) (by omega) (by simp; omega) (wr.heap.size + 1) (by simp) ?_)
          intro g2 c2 w2 hown2 hg2 hat2 hlt2
          have HO2 := HEN.out _ w2 hown2
          have HO2' : Hid (OwnY w2 (w.heap.size + 1) (.slice (some ⟨g2, 0, none⟩) (la + 2) c2) (encL (txF acc ++ [sy]))) := HO2
          obtain ⟨hrb2, hbw2⟩ := HK2.out _ w2 hg2
          have HRB2 : Hid (w2.heap[w.heap.size]? = some (.cells #[.int .i64 0, .string ByteArray.empty] 40 (0, 0))) := hrb2
          clear hown2 hg2 hat2 hlt2 HO2 hrb2 HEN hown0 hKeep hol HRB hown1 HK2
          go_wp2
          go_roundw
          case rel => exact ⟨k + 1, 2, .told (txF acc ++ [sy]), by omega, rfl, by go_num, (show _ = _ from rfl), (HX.out _ hadd).1, HO2', (HX.out _ hadd).2, HRB2, hbw2⟩
          case measure => simp [intOf]; omega
        · rw [k1] at hka
          subst hka
          have d2 : (2000 : Int) < ((encL (txF acc)).length : Int) + 2 := by have : 1000 < (txF acc ++ [sy]).length := hlen; omega
          have d : decide ((2000 : Int) < ((encL (txF acc)).length : Int) + 2) = true := decide_eq_true d2
          clear hn3 hlen
          generalize hLA : (encL (txF acc)).length = la at *
          go_wp2_with fail
          refine (hNm _).mono ?_
          rintro e w1 ⟨rfl, hw1⟩
          rw [hw1]
          clear hw1
          go_wp2_with (at_builtin; refine wpList_append_lies _ rfl _ _ 99 rfl (w.heap.size + 1) 5 i0 (.int .u8 0) 1 1 Tryd.underlying99 hi0 hz0 hz1 hz2 rfl (by decide) (.slice ta la tc) la ((encL (txF acc)).map fun x => Value.int .u8 (x.toNat : Int)) rfl (hown1 _) ⟨wr.heap.size, 0, none⟩ 2 2 [.int .u8 (sy / 256), .int .u8 (sy % 256)] rfl rfl (World.news_of_block (heap_alloc_new wr _)) (by intro x hx; simp at hx; rcases hx with rfl | rfl <;> rfl) (by omega) (by unfold maxLen; omega) (by omega) (by simp; omega) (wr.heap.size + 1) (by simp) ?_)
          intro g2 c2 w2 hown2 hg2 hat2 hlt2
          have HO2 := HEN.out _ w2 hown2
          have HO2' : Hid (OwnY w2 (w.heap.size + 1) (.slice (some ⟨g2, 0, none⟩) (la + 2) c2) (encL (txF acc ++ [sy]))) := HO2
          obtain ⟨hrb2, hbw2⟩ := HK2.out _ w2 hg2
          have HRB2 : Hid (w2.heap[w.heap.size]? = some (.cells #[.int .i64 0, .string ByteArray.empty] 40 (0, 0))) := hrb2
          clear hown2 hg2 hat2 hlt2 HO2 hrb2 HEN hown0 hKeep hol HRB hown1 HK2
          go_wp2
          go_roundw
          case rel => exact ⟨k + 1, 1, .long, by omega, rfl, by go_num, (show _ = _ from rfl), (HX.out _ hadd).1, OwnY.nil _ _, (HX.out _ hadd).2, HRB2, hbw2⟩
          case measure => simp [intOf]; omega
        · have k1 : knF acc = 1 := by
            rcases hcs with ⟨_, h⟩ | ⟨h, _⟩ | ⟨_, h⟩
            · exact absurd h (by show ¬ (2 : Int) = 1; omega)
            · exact h
            · exact absurd h (by show ¬ (2 : Int) = 1; omega)
          rw [k1] at hka
          subst hka
          clear hcs
          have d2 : ¬ (2000 : Int) < ((encL (txF acc)).length : Int) + 2 := by have : (txF acc ++ [sy]).length ≤ 1000 := hlen; omega
          have d : decide ((2000 : Int) < ((encL (txF acc)).length : Int) + 2) = false := decide_eq_false d2
          clear hn3 hlen
          generalize hLA : (encL (txF acc)).length = la at *
          go_wp2_with fail
          refine (hNm _).mono ?_
          rintro e w1 ⟨rfl, hw1⟩
          rw [hw1]
          clear hw1
          go_wp2_with (at_builtin; refine wpList_append_lies _ rfl _ _ 99 rfl (w.heap.size + 1) 5 i0 (.int .u8 0) 1 1 Tryd.underlying99 hi0 hz0 hz1 hz2 rfl (by decide) (.slice ta la tc) la ((encL (txF acc)).map fun x => Value.int .u8 (x.toNat : Int)) rfl (hown1 _) ⟨wr.heap.size, 0, none⟩ 2 2 [.int .u8 (sy / 256), .int .u8 (sy % 256)] rfl rfl (World.news_of_block (heap_alloc_new wr _)) (by intro x hx; simp at hx; rcases hx with rfl | rfl <;> rfl) (by omega) (by unfold maxLen; omega) (by omega) (by simp; omega) (wr.heap.size + 1) (by simp) ?_)
          intro g2 c2 w2 hown2 hg2 hat2 hlt2
          have HO2 := HEN.out _ w2 hown2
          have HO2' : Hid (OwnY w2 (w.heap.size + 1) (.slice (some ⟨g2, 0, none⟩) (la + 2) c2) (encL (txF acc ++ [sy]))) := HO2
          obtain ⟨hrb2, hbw2⟩ := HK2.out _ w2 hg2
          have HRB2 : Hid (w2.heap[w.heap.size]? = some (.cells #[.int .i64 0, .string ByteArray.empty] 40 (0, 0))) := hrb2
          clear hown2 hg2 hat2 hlt2 HO2 hrb2 HEN hown0 hKeep hol HRB hown1 HK2
          go_wp2
          go_roundw
          case rel => exact ⟨k + 1, 1, .long, by omega, rfl, by go_num, (show _ = _ from rfl), (HX.out _ hadd).1, OwnY.nil _ _, (HX.out _ hadd).2, HRB2, hbw2⟩
          case measure => simp [intOf]; omega
        · have k1 : knF acc = 0 := by
            rcases hcs with ⟨h, _⟩ | ⟨h, _⟩ | ⟨h, _⟩ | ⟨_, h⟩ | ⟨_, h⟩
            · exact h
            · exact h
            · exact h
            · exact absurd h (by show ¬ (2 : Int) = 0; omega)
            · exact absurd h (by show ¬ (2 : Int) = 0; omega)
          rw [k1] at hka
          subst hka
          clear hcs
          have d2 : ¬ (2000 : Int) < ((encL (txF acc)).length : Int) + 2 := by have : (txF acc ++ [sy]).length ≤ 1000 := hlen; omega
          have d : decide ((2000 : Int) < ((encL (txF acc)).length : Int) + 2) = false := decide_eq_false d2
          clear hn3 hlen
          generalize hLA : (encL (txF acc)).length = la at *
          go_wp2_with fail
          refine (hNm _).mono ?_
          rintro e w1 ⟨rfl, hw1⟩
          rw [hw1]
          clear hw1
          go_wp2_with (at_builtin; refine wpList_append_lies _ rfl _ _ 99 rfl (w.heap.size + 1) 5 i0 (.int .u8 0) 1 1 Tryd.underlying99 hi0 hz0 hz1 hz2 rfl (by decide) (.slice ta la tc) la ((encL (txF acc)).map fun x => Value.int .u8 (x.toNat : Int)) rfl (hown1 _) ⟨wr.heap.size, 0, none⟩ 2 2 [.int .u8 (sy / 256), .int .u8 (sy % 256)] rfl rfl (World.news_of_block (heap_alloc_new wr _)) (by intro x hx; simp at hx; rcases hx with rfl | rfl <;> rfl) (by omega) (by unfold maxLen; omega) (by omega) (by simp; omega) (wr.heap.size + 1) (by simp) ?_)
          intro g2 c2 w2 hown2 hg2 hat2 hlt2
          have HO2 := HEN.out _ w2 hown2
          have HO2' : Hid (OwnY w2 (w.heap.size + 1) (.slice (some ⟨g2, 0, none⟩) (la + 2) c2) (encL (txF acc ++ [sy]))) := HO2
          obtain ⟨hrb2, hbw2⟩ := HK2.out _ w2 hg2
          have HRB2 : Hid (w2.heap[w.heap.size]? = some (.cells #[.int .i64 0, .string ByteArray.empty] 40 (0, 0))) := hrb2
          clear hown2 hg2 hat2 hlt2 HO2 hrb2 HEN hown0 hKeep hol HRB hown1 HK2
          go_wp2
          go_roundw
          case rel => exact ⟨k + 1, 0, .non, by omega, rfl, by go_num, (show _ = _ from rfl), (HX.out _ hadd).1, OwnY.nil _ _, (HX.out _ hadd).2, HRB2, hbw2⟩
          case measure => simp [intOf]; omega
    · have HS := HOY.out.str
      have HRE : Hid (rowF (factF L) r = acc) := by
        have := HRW.out
        rw [List.take_of_length_le (by omega)] at this
        exact this
      have hka := HKA.out
      have fz0 : wr.frozen? ⟨w.heap.size, 0, none⟩ = false := by simp [World.frozen?, HRB.out]
      have fz1 : wr.frozen? ⟨w.heap.size, 1, none⟩ = false := by simp [World.frozen?, HRB.out]
      have cR0 : wr.cell? ⟨w.heap.size, 0, none⟩ = some (.int .i64 0) := by simp only [World.cell?, HRB.out]; rfl
      have cR1 : wr.cell? ⟨w.heap.size, 1, none⟩ = some (.string ByteArray.empty) := by simp only [World.cell?, HRB.out]; rfl
      have HB : Hid (Below w.heap.size w ((wr.setCell ⟨w.heap.size, 0, none⟩ (.int .i64 ka)).setCell ⟨w.heap.size, 1, none⟩ (.string ⟨(encL (txF acc)).toArray⟩))) := below_set (below_set hbw (Nat.le_refl _) 0 _) (Nat.le_refl _) 1 _
      have HV : Hid (sfV (rowF (factF L) r) = .agg #[.int .i64 ka, .string ⟨(encL (txF acc)).toArray⟩]) := by
        show _ = _
        rw [HRE.out, hka]; rfl
      generalize hE : encL (txF acc) = bs at *
      have HRB2 : Hid (wr.heap[w.heap.size]? = some (.cells #[.int .i64 0, .string ByteArray.empty] 40 (0, 0))) := HRB.out
      clear HOY HOA HRW HKA HRE hka hE HRB
      go_wp2
      have hres0 : ((wr.setCell ⟨w.heap.size, 0, none⟩ (.int .i64 ka)).setCell ⟨w.heap.size, 1, none⟩ (.string ⟨bs.toArray⟩)).cell? ⟨w.heap.size, 0, none⟩ = some (.int .i64 ka) := by
        simp [World.cell?, World.setCell, Array.getElem?_modify, HRB2.out]
      have hres1 : ((wr.setCell ⟨w.heap.size, 0, none⟩ (.int .i64 ka)).setCell ⟨w.heap.size, 1, none⟩ (.string ⟨bs.toArray⟩)).cell? ⟨w.heap.size, 1, none⟩ = some (.string ⟨bs.toArray⟩) := by
        simp [World.cell?, World.setCell, Array.getElem?_modify, HRB2.out]
      refine bodyPost_ret (v := .agg #[.int .i64 ka, .string ⟨bs.toArray⟩]) ?_ rfl ?_
      · clear HV
        generalize (wr.setCell ⟨w.heap.size, 0, none⟩ (.int .i64 ka)).setCell ⟨w.heap.size, 1, none⟩ (.string ⟨bs.toArray⟩) = W at *
        simp [results, go_sem, hres0, hres1]
      · exact ⟨by rw [HV.out], HB.out⟩

end Go.Proofs.YtmkimaceioacgaaDoor
