/- Texts of the proof, put together: WItm, WEql. -/
import Derived.Test.YtbjohedenfindaaGreatDoorPw40
import Derived.Test.YtbjohedenfindaaGreatDoorPw24
import Derived.Laws.StructEq
namespace Go.Proofs.YtbjohedenfindaaGreatDoor
open Go.RowKit
open Go.Maps (Keyed)
set_option linter.unusedVariables false
set_option maxRecDepth 100000

/-- bytes as the cells of a builder -/
def bc (x : List Nat) : List Value := Lib.byteCells (x.map Nat.toUInt8)
theorem bc_app (a b : List Nat) : bc a ++ bc b = bc (a ++ b) := by unfold bc; rw [List.map_append, Lib.byteCells_append]
theorem bc_str (a : List Nat) : Lib.strCells (bytesB a) = bc a := by simp [Lib.strCells, bc, Lib.byteCells, bytesB]
theorem bc_one (n : Nat) (h : n < 256) : [Value.int .u8 (n : Int)] = bc [n] := by
  simp [bc, Lib.byteCells]
  omega
theorem bc_len (a : List Nat) : (bc a).length = a.length := by simp [bc, Lib.byteCells]
theorem grown_none {w w' : World} (h : Below w.heap.size w w') : w.grownBy w' none := ⟨h.os, h.tape, h.output, h.size, fun k hk _ => h.block k hk⟩
theorem Bld.below {B b : Nat} {T : TypeId} {rest bs : List Value} {w w' : World} (h : Bld B b T rest bs w) (hb : Below w.heap.size w w') : Bld B b T rest bs w' := by
  have hlt := h.lt
  obtain ⟨h1, h2, p, v, h3, h4, h5, h6⟩ := h
  exact ⟨h1, h2, p, v, (hb.block b hlt).trans h3, h4, h5.kept (grown_none hb) (by
    cases hv : v.ownBlock with
    | none => exact .inl rfl
    | some k => exact .inr (by simp)), h6⟩

theorem witem_app (l : List Rg) (k : Nat) (h : k < l.length) : itemsB (l.take (k + 1)) = itemsB (l.take k) ++ itemB (l.getD k (0, 0)) := by
  have e : l.getD k (0, 0) = l[k] := by simp [h]
  rw [e, List.take_succ_eq_append_getElem h]
  unfold itemsB
  rw [List.flatMap_append]
  simp only [List.flatMap_cons, List.flatMap_nil, List.append_nil]
theorem items_few : ∀ (l : List Rg), (∀ r ∈ l, RngOk r) → (itemsB l).length ≤ 21 * l.length
  | [], _ => by simp [itemsB]
  | r :: l, h => by
    have h1 := (itemB_len r (h r (by simp))).2.1
    have h2 := items_few l (fun x hx => h x (by simp [hx]))
    have : itemsB (r :: l) = itemB r ++ itemsB l := by simp [itemsB]
    rw [this, List.length_append, List.length_cons]
    omega

/-- a builder of a call's own, and a range beside it -/
structure ItW (w0 : World) (k : Nat) (lo hi : Int) (x : List Nat) (w : World) : Prop where
  bld : Bld w0.heap.size w0.heap.size 70 [] (bc x) w
  bel : Below w0.heap.size w0 w
  rng : w.heap[k]? = some (.cells #[.int .i64 lo, .int .i64 hi] 101 (0, 0))
  far : w0.heap.size < k
theorem ItW.below {w0 w w' : World} {k : Nat} {lo hi : Int} {x : List Nat} (h : ItW w0 k lo hi x w) (hb : Below w.heap.size w w') : ItW w0 k lo hi x w' :=
  ⟨h.bld.below hb, h.bel.trans (hb.mono h.bel.size), (hb.block k (Array.getElem?_eq_some_iff.1 h.rng).1).trans h.rng, h.far⟩
theorem ItW.put {w0 w w' : World} {k : Nat} {lo hi : Int} {x y : List Nat} (h : ItW w0 k lo hi x w) (hB : BldU w0.heap.size w0.heap.size 70 [] (bc y) w') (hF : BFr w0.heap.size w0.heap.size w w') : ItW w0 k lo hi y w' :=
  ⟨hB.bld, h.bel.trans hF.1, hF.2 k _ h.rng (fun e => by have := Option.some.inj e; have := h.far; omega) (fun c fz e => by cases e), h.far⟩
theorem ItW.cells {w0 w : World} {k : Nat} {lo hi : Int} {x : List Nat} (h : ItW w0 k lo hi x w) : w.cell? ⟨k, 0, none⟩ = some (.int .i64 lo) ∧ w.cell? ⟨k, 1, none⟩ = some (.int .i64 hi) := by
  constructor <;> (rw [Lib.cell_of_heap h.rng]; simp)
theorem ItW.size {w0 w : World} {k : Nat} {lo hi : Int} {x : List Nat} (h : ItW w0 k lo hi x w) : w0.heap.size ≤ w.heap.size := h.bel.size

set_option maxHeartbeats 4000000 in
theorem witems_row {w : World} {b M : Nat} (hE : WrEnv w b M) (hb : b < w.heap.size) (B off cp : Nat) (l : List Rg) (hl : l.length ≤ 20000) (hB : B < w.heap.size) (hok : ∀ r ∈ l, RngOk r) (hc : ∀ j, j < l.length → w.cell? ⟨B, off + j * 2, none⟩ = some (.int .i64 (l.getD j (0, 0)).1) ∧ w.cell? ⟨B, off + j * 2 + 1, none⟩ = some (.int .i64 (l.getD j (0, 0)).2)) :
    Calls Tryz.prog 89 #[.pointer (some ⟨b, 0, none⟩), .slice (some ⟨B, off, none⟩) l.length cp] w fun e w' => e = .returned (.string (bytesB (itemsB l))) ∧ Below w.heap.size w w' := by
  have HC : Hid (∀ j, j < l.length → w.cell? ⟨B, off + j * 2, none⟩ = some (.int .i64 (l.getD j (0, 0)).1) ∧ w.cell? ⟨B, off + j * 2 + 1, none⟩ = some (.int .i64 (l.getD j (0, 0)).2)) := hc
  have HO : Hid (∀ r ∈ l, RngOk r) := hok
  have HP : Hid (∀ w', Below w.heap.size w w' → ∀ c : Int, 0 ≤ c → c ≤ 1114111 → Calls Tryz.prog 86 #[.pointer (some ⟨b, 0, none⟩), .int .i64 c, .string innerB] w' fun e w'' => e = .returned (.string (bytesB (ptB innerS c.toNat))) ∧ Below w'.heap.size w' w'') := fun w' h c h0 h1 => by
    have := wpoint_any (hE.below h hb) (Nat.lt_of_lt_of_le hb h.size) innerB innerS (.inr ⟨rfl, rfl⟩) c.toNat (by omega)
    rwa [Int.toNat_of_nonneg h0] at this
  have HW : Hid (∀ (w' : World) (x y : List Nat), Bld w.heap.size w.heap.size 70 [] (bc x) w' → x.length + y.length ≤ 1000000 → w.heap.size ≤ w'.heap.size → Calls Tryz.prog 56 #[.pointer (some ⟨w.heap.size, 0, none⟩), .string (bytesB y)] w' fun e w'' => (∃ n : Int, e = .returned (.tuple #[.int .i64 n, .nilIface])) ∧ BldU w.heap.size w.heap.size 70 [] (bc (x ++ y)) w'' ∧ BFr w.heap.size w.heap.size w' w'') := fun w' x y h1 h2 h3 => by
    have := wstr_any (bytesB y) h1 (by rw [bc_len, bytesB_size]; exact h2) h3
    rwa [bc_str, bc_app] at this
  have HB : Hid (∀ (w' : World) (x : List Nat), Bld w.heap.size w.heap.size 70 [] (bc x) w' → x.length ≤ 1000000 → w.heap.size ≤ w'.heap.size → Calls Tryz.prog 55 #[.pointer (some ⟨w.heap.size, 0, none⟩), .int .u8 45] w' fun e w'' => e = .returned .nilIface ∧ BldU w.heap.size w.heap.size 70 [] (bc (x ++ [45])) w'' ∧ BFr w.heap.size w.heap.size w' w'') := fun w' x h1 h2 h3 => by
    have := wbyte_any 45 h1 (by rw [bc_len]; exact h2) h3
    rwa [show [Value.int .u8 45] = bc [45] from bc_one 45 (by omega), bc_app] at this
  have h0b : Bld w.heap.size w.heap.size 70 [] (bc []) (w.alloc (.cells #[.pointer none, .slice none 0 0] 70)) := bld_new (Nat.le_refl _) tk_builder (heap_alloc_new w _)
  have HB0 : Hid (Bld w.heap.size w.heap.size 70 [] (bc []) (w.alloc (.cells #[.pointer none, .slice none 0 0] 70))) := h0b
  clear hc hok hE h0b
  go_enter Tryz.func89, Tryz.ntmps89
  go_wp2
  go_loopw [10] (fun kv wr => ∃ (k : Nat), k ≤ l.length ∧ kv = .int .i64 k ∧ Bld w.heap.size w.heap.size 70 [] (bc (itemsB (l.take k))) wr ∧ Below w.heap.size w wr) (fun kv _ => l.length - (intOf kv).toNat)
  case atStart => exact ⟨0, Nat.zero_le _, rfl, HB0.out, (Below.refl _ w).alloc (Nat.le_refl _) _⟩
  case round =>
    obtain ⟨k, hk, rfl, hbl, hbw⟩ := hrel
    by_cases hlt : k < l.length
    · obtain ⟨h1, h2⟩ := HC.out k hlt
      have h1' := (hbw.cell (p := ⟨B, off + k * 2, none⟩) hB).trans h1
      have h2' := (hbw.cell (p := ⟨B, off + k * 2 + 1, none⟩) hB).trans h2
      have hro := HO.out (l.getD k (0, 0)) (by
        have e : l.getD k (0, 0) = l[k] := by simp [hlt]
        rw [e]; exact List.getElem_mem hlt)
      have happ := witem_app l k hlt
      have hfew := items_few (l.take k) (fun r hr => HO.out r (List.mem_of_mem_take hr))
      rw [List.length_take] at hfew
      have hil := (itemB_len _ hro).2.1
      generalize l.getD k (0, 0) = r at *
      obtain ⟨lo, hi⟩ := r
      obtain ⟨r0, r1, r2⟩ := hro
      simp only at r0 r1 r2 h1' h2'
      have hx0 : (itemsB (l.take k)).length ≤ 420000 := by omega
      have hItm : itemB (lo, hi) = ptB innerS lo.toNat ++ ((if lo + 1 < hi then [45] else []) ++ (if lo < hi then ptB innerS hi.toNat else [])) := rfl
      rw [hItm] at happ hil
      have p1 := (pt_len (c := lo.toNat) (sg := innerS) (by omega)).2
      have p2 := (pt_len (c := hi.toNat) (sg := innerS) (by omega)).2
      have HA : Hid (itemsB (l.take (k + 1)) = itemsB (l.take k) ++ (ptB innerS lo.toNat ++ ((if lo + 1 < hi then [45] else []) ++ (if lo < hi then ptB innerS hi.toNat else [])))) := happ
      clear happ hItm h1 h2 hil hfew
      generalize hX : itemsB (l.take k) = X at *
      have hsz : w.heap.size < wr.heap.size := hbl.lt
      have hIt : ItW w wr.heap.size lo hi X (wr.alloc (.cells #[.int .i64 lo, .int .i64 hi] 101 (0, 0))) := ⟨hbl.below ((Below.refl _ wr).alloc (Nat.le_refl _) _), hbw.alloc hbw.size _, heap_alloc_new wr _, hsz⟩
      clear hX hbl
      have HI : Hid (ItW w wr.heap.size lo hi X (wr.alloc (.cells #[.int .i64 lo, .int .i64 hi] 101 (0, 0)))) := hIt
      clear hIt
      go_wp2_with fail
      go_at_call 86
      refine (HP.out _ HI.out.bel lo r0 (by omega)).mono ?_
      rintro e w1 ⟨rfl, hb1⟩
      have hI1 := HI.out.below hb1
      clear HI hb1
      generalize hq : wr.heap.size = q at *
      clear h1' h2'
      have HI1 : Hid (ItW w q lo hi X w1) := hI1
      clear hI1
      go_wp2_with fail
      go_at_call 56
      refine (HW.out _ _ _ HI1.out.bld (by omega) HI1.out.size).mono ?_
      rintro e w2 ⟨⟨n1, rfl⟩, hB2, hF2⟩
      have hI2 := HI1.out.put hB2 hF2
      clear hB2 hF2 HI1
      obtain ⟨c0, c1⟩ := hI2.cells
      have HI2 : Hid (ItW w q lo hi (X ++ ptB innerS lo.toNat) w2) := hI2
      clear hI2
      have hlP : (X ++ ptB innerS lo.toNat).length ≤ 420010 := by rw [List.length_append]; omega
      by_cases e1 : lo + 1 < hi
      · have HA2 : Hid (itemsB (l.take (k + 1)) = ((X ++ ptB innerS lo.toNat) ++ [45]) ++ ptB innerS hi.toNat) := by
          show _ = _
          rw [HA.out, if_pos e1, if_pos (by omega)]; simp
        clear HA
        generalize hY : X ++ ptB innerS lo.toNat = Y at *
        clear hY
        go_wp2_with fail
        go_at_call 55
        refine (HB.out _ _ HI2.out.bld (by omega) HI2.out.size).mono ?_
        rintro e w3 ⟨rfl, hB3, hF3⟩
        have hI3 := HI2.out.put hB3 hF3
        clear hB3 hF3 HI2 c0 c1
        obtain ⟨d0, d1⟩ := hI3.cells
        have HI3 : Hid (ItW w q lo hi (Y ++ [45]) w3) := hI3
        have hlY : (Y ++ [45]).length ≤ 420020 := by rw [List.length_append]; simp; omega
        clear hI3
        go_wp2_with fail
        go_at_call 86
        refine (HP.out _ HI3.out.bel hi (by omega) (by omega)).mono ?_
        rintro e w4 ⟨rfl, hb4⟩
        have HI4 : Hid (ItW w q lo hi (Y ++ [45]) w4) := HI3.out.below hb4
        clear HI3 hb4 d0 d1
        go_wp2_with fail
        go_at_call 56
        refine (HW.out _ _ _ HI4.out.bld (by omega) HI4.out.size).mono ?_
        rintro e w5 ⟨⟨n5, rfl⟩, hB5, hF5⟩
        have hI5 := HI4.out.put hB5 hF5
        rw [← HA2.out] at hI5
        have HI5 : Hid (ItW w q lo hi (itemsB (l.take (k + 1))) w5) := hI5
        clear hI5 hB5 hF5
        go_wp2
        go_roundw
        case rel => exact ⟨k + 1, by omega, by go_num, HI5.out.bld, HI5.out.bel⟩
        case measure => simp [intOf]; omega
      · by_cases e2 : lo < hi
        · have HA2 : Hid (itemsB (l.take (k + 1)) = (X ++ ptB innerS lo.toNat) ++ ptB innerS hi.toNat) := by
            show _ = _
            rw [HA.out, if_neg e1, if_pos (by omega)]; simp
          clear HA
          generalize hY : X ++ ptB innerS lo.toNat = Y at *
          clear hY
          go_wp2_with fail
          go_at_call 86
          refine (HP.out _ HI2.out.bel hi (by omega) (by omega)).mono ?_
          rintro e w4 ⟨rfl, hb4⟩
          have HI4 : Hid (ItW w q lo hi Y w4) := HI2.out.below hb4
          clear HI2 hb4 c0 c1
          go_wp2_with fail
          go_at_call 56
          refine (HW.out _ _ _ HI4.out.bld (by omega) HI4.out.size).mono ?_
          rintro e w5 ⟨⟨n5, rfl⟩, hB5, hF5⟩
          have hI5 := HI4.out.put hB5 hF5
          rw [← HA2.out] at hI5
          have HI5 : Hid (ItW w q lo hi (itemsB (l.take (k + 1))) w5) := hI5
          clear hI5 hB5 hF5
          go_wp2
          go_roundw
          case rel => exact ⟨k + 1, by omega, by go_num, HI5.out.bld, HI5.out.bel⟩
          case measure => simp [intOf]; omega
        · have HA2 : Hid (itemsB (l.take (k + 1)) = X ++ ptB innerS lo.toNat) := by
            show _ = _
            rw [HA.out, if_neg e1, if_neg (by omega)]; simp
          clear HA
          have hI5 := HI2.out
          rw [← HA2.out] at hI5
          have HI5 : Hid (ItW w q lo hi (itemsB (l.take (k + 1))) w2) := hI5
          clear hI5 HI2
          go_wp2
          go_roundw
          case rel => exact ⟨k + 1, by omega, by go_num, HI5.out.bld, HI5.out.bel⟩
          case measure => simp [intOf]; omega
    · have e : l.take k = l := List.take_of_length_le (by omega)
      rw [e] at hbl
      have HF : Hid (Calls Tryz.prog 31 #[.pointer (some ⟨w.heap.size, 0, none⟩)] wr fun e w' => e = .returned (.string (bytesB (itemsB l))) ∧ Below w.heap.size wr w') := bstr_any _ hbl hbw.size
      clear hbl
      go_wp2_with fail
      go_at_call 31
      refine HF.out.mono ?_
      rintro e w1 ⟨rfl, hb1⟩
      go_wp2
      go_ret
      exact ⟨rfl, hbw.trans hb1⟩
end Go.Proofs.YtbjohedenfindaaGreatDoor

namespace Go.Proofs.YtbjohedenfindaaGreatDoor
open Go.RowKit
open Go.Maps (Keyed)
set_option linter.unusedVariables false
set_option maxRecDepth 100000

set_option maxHeartbeats 2000000 in
theorem witems_empty {w : World} {b M : Nat} (a : Option Addr) (cp : Nat) :
    Calls Tryz.prog 89 #[.pointer (some ⟨b, 0, none⟩), .slice a 0 cp] w fun e w' => e = .returned (.string (bytesB (itemsB []))) ∧ Below w.heap.size w w' := by
  have h0b : Bld w.heap.size w.heap.size 70 [] (Lib.byteCells []) (w.alloc (.cells #[.pointer none, .slice none 0 0] 70)) := bld_new (Nat.le_refl _) tk_builder (heap_alloc_new w _)
  have HF : Hid (Calls Tryz.prog 31 #[.pointer (some ⟨w.heap.size, 0, none⟩)] (w.alloc (.cells #[.pointer none, .slice none 0 0] 70)) fun e w' => e = .returned (.string (bytesB (itemsB []))) ∧ Below w.heap.size (w.alloc (.cells #[.pointer none, .slice none 0 0] 70)) w') := bstr_any [] h0b (by simp)
  clear h0b
  go_enter Tryz.func89, Tryz.ntmps89
  go_wp2
  refine wp_loop_rounds 1 ?_
  rw [rounds_succ]
  go_wp2_with fail
  go_at_call 31
  refine HF.out.mono ?_
  rintro e w1 ⟨rfl, hb1⟩
  go_wp2
  go_ret
  exact ⟨rfl, ((Below.refl _ w).alloc (Nat.le_refl _) _).trans hb1⟩
theorem witems_any {w : World} {b M : Nat} (hE : WrEnv w b M) (hb : b < w.heap.size) (v : Value) (l : List Rg) (hl : l.length ≤ 20000) (hv : Rngs w v l) (hok : ∀ r ∈ l, RngOk r) :
    Calls Tryz.prog 89 #[.pointer (some ⟨b, 0, none⟩), v] w fun e w' => e = .returned (.string (bytesB (itemsB l))) ∧ Below w.heap.size w w' := by
  rcases hv with ⟨rfl, a, c, rfl⟩ | ⟨B, off, c, rfl, hB, hc⟩
  · exact witems_empty (M := M) a c
  · exact witems_row hE hb B off c l hl hB hok hc

set_option maxHeartbeats 2000000 in
theorem equal_len {w : World} (a1 a2 : Option Addr) (n1 n2 c1 c2 : Nat) (h1 : n1 ≤ 1000000) (h2 : n2 ≤ 1000000) (hne : n1 ≠ n2) :
    Calls Tryz.prog 87 #[.slice a1 n1 c1, .slice a2 n2 c2] w fun e w' => e = .returned (.bool false) ∧ w' = w := by
  have h : ((n1 : Int) != n2) = true := by rw [bne_iff_ne]; omega
  go_enter Tryz.func87, Tryz.ntmps87
  go_wp2
  go_ret
  exact ⟨rfl, rfl⟩
set_option maxHeartbeats 2000000 in
theorem equal_none {w : World} (a1 a2 : Option Addr) (c1 c2 : Nat) :
    Calls Tryz.prog 87 #[.slice a1 0 c1, .slice a2 0 c2] w fun e w' => e = .returned (.bool true) ∧ w' = w := by
  go_enter Tryz.func87, Tryz.ntmps87
  go_wp2
  refine wp_loop_rounds 1 ?_
  rw [rounds_succ]
  go_wp2
  go_ret
  exact ⟨rfl, rfl⟩
set_option maxHeartbeats 2000000 in
theorem equal_rows {w : World} (b1 o1 c1 b2 o2 c2 : Nat) (l1 l2 : List Rg) (hl : l1.length ≤ 20000) (he : l1.length = l2.length) (hb1 : b1 < w.heap.size) (hb2 : b2 < w.heap.size)
    (hc1 : ∀ j, j < l1.length → w.cell? ⟨b1, o1 + j * 2, none⟩ = some (.int .i64 (l1.getD j (0, 0)).1) ∧ w.cell? ⟨b1, o1 + j * 2 + 1, none⟩ = some (.int .i64 (l1.getD j (0, 0)).2))
    (hc2 : ∀ j, j < l2.length → w.cell? ⟨b2, o2 + j * 2, none⟩ = some (.int .i64 (l2.getD j (0, 0)).1) ∧ w.cell? ⟨b2, o2 + j * 2 + 1, none⟩ = some (.int .i64 (l2.getD j (0, 0)).2)) :
    Calls Tryz.prog 87 #[.slice (some ⟨b1, o1, none⟩) l1.length c1, .slice (some ⟨b2, o2, none⟩) l2.length c2] w fun e w' => e = .returned (.bool (decide (l1 = l2))) ∧ Below w.heap.size w w' := by
  have HC1 : Hid (∀ j, j < l1.length → w.cell? ⟨b1, o1 + j * 2, none⟩ = some (.int .i64 (l1.getD j (0, 0)).1) ∧ w.cell? ⟨b1, o1 + j * 2 + 1, none⟩ = some (.int .i64 (l1.getD j (0, 0)).2)) := hc1
  have HC2 : Hid (∀ j, j < l2.length → w.cell? ⟨b2, o2 + j * 2, none⟩ = some (.int .i64 (l2.getD j (0, 0)).1) ∧ w.cell? ⟨b2, o2 + j * 2 + 1, none⟩ = some (.int .i64 (l2.getD j (0, 0)).2)) := hc2
  clear hc1 hc2
  rw [← he]
  have HE : Hid (l1.length = l2.length) := he
  clear he
  go_enter Tryz.func87, Tryz.ntmps87
  go_wp2
  go_loopw [13] (fun kv wr => ∃ (k : Nat), k ≤ l1.length ∧ kv = .int .i64 k ∧ l1.take k = l2.take k ∧ Below w.heap.size w wr) (fun kv _ => l1.length - (intOf kv).toNat)
  case atStart => exact ⟨0, Nat.zero_le _, rfl, by simp, Below.refl _ _⟩
  case round =>
    obtain ⟨k, hk, rfl, htk, hbw⟩ := hrel
    by_cases hlt : k < l1.length
    · obtain ⟨h1, h2⟩ := HC1.out k hlt
      obtain ⟨g1, g2⟩ := HC2.out k (by rw [← HE.out]; exact hlt)
      have HT : Hid (l1.take k = l2.take k) := htk
      clear htk
      have e1 : l1.getD k (0, 0) = l1[k] := by simp [hlt]
      have hlt2 : k < l2.length := by rw [← HE.out]; exact hlt
      have e2 : l2.getD k (0, 0) = l2[k] := by simp [hlt2]
      rw [e1] at h1 h2
      rw [e2] at g1 g2
      replace h1 := (hbw.cell (p := ⟨b1, o1 + k * 2, none⟩) hb1).trans h1
      replace h2 := (hbw.cell (p := ⟨b1, o1 + k * 2 + 1, none⟩) hb1).trans h2
      replace g1 := (hbw.cell (p := ⟨b2, o2 + k * 2, none⟩) hb2).trans g1
      replace g2 := (hbw.cell (p := ⟨b2, o2 + k * 2 + 1, none⟩) hb2).trans g2
      have HT1 : Hid (l1[k] = l2[k] → l1.take (k + 1) = l2.take (k + 1)) := fun e => by
        rw [List.take_succ_eq_append_getElem hlt, List.take_succ_eq_append_getElem hlt2, HT.out, e]
      have HT2 : Hid (l1[k] ≠ l2[k] → decide (l1 = l2) = false) := fun e => by
        rw [decide_eq_false_iff_not]
        intro h
        subst h
        exact e rfl
      generalize l1[k] = r at *
      generalize l2[k] = s at *
      obtain ⟨x1, y1⟩ := r
      obtain ⟨x2, y2⟩ := s
      simp only at h1 h2 g1 g2
      clear e1 e2
      cases q1 : x1 == x2
      · have HD : Hid (decide (l1 = l2) = false) := HT2.out (by intro e; cases e; simp at q1)
        go_wp2
        go_quiet (fail)
        go_wp2
        go_ret
        exact ⟨by rw [HD.out]; rfl, below_drew' hbw nq⟩
      · cases q2 : y1 == y2
        · have HD : Hid (decide (l1 = l2) = false) := HT2.out (by intro e; cases e; simp at q2)
          go_wp2
          go_quiet (fail)
          go_wp2
          go_ret
          exact ⟨by rw [HD.out]; rfl, below_drew' hbw nq⟩
        · have this : Hid (l1.take (k + 1) = l2.take (k + 1)) := HT1.out (by rw [eq_of_beq q1, eq_of_beq q2])
          go_wp2
          go_quiet (fail)
          go_wp2
          go_roundw
          case rel => exact ⟨k + 1, by omega, by go_num, this.out, below_drew' hbw nq⟩
          case measure => simp [intOf]; omega
    · have e : l1 = l2 := by
        rw [List.take_of_length_le (by omega), List.take_of_length_le (by have := HE.out; omega)] at htk
        exact htk
      have HD : Hid (decide (l1 = l2) = true) := by show _ = _; simp [e]
      clear e htk
      go_wp2
      go_ret
      exact ⟨by rw [HD.out]; rfl, hbw⟩
theorem equal_any {w : World} {v1 v2 : Value} {l1 l2 : List Rg} (h1 : Rngs w v1 l1) (h2 : Rngs w v2 l2) (hl1 : l1.length ≤ 20000) (hl2 : l2.length ≤ 20000) :
    Calls Tryz.prog 87 #[v1, v2] w fun e w' => e = .returned (.bool (decide (l1 = l2))) ∧ Below w.heap.size w w' := by
  by_cases he : l1.length = l2.length
  · rcases h1 with ⟨rfl, a, c, rfl⟩ | ⟨b1, o1, c1, rfl, hb1, hc1⟩
    · have : l2 = [] := by simpa using he.symm
      subst this
      obtain ⟨a2, c2, rfl⟩ := rngs_slice h2
      exact (equal_none a a2 c c2).mono fun e w' h => ⟨h.1, by rw [h.2]; exact Below.refl _ _⟩
    · rcases h2 with ⟨rfl, a, c, rfl⟩ | ⟨b2, o2, c2, rfl, hb2, hc2⟩
      · have : l1 = [] := by simpa using he
        subst this
        exact (equal_none _ a c1 c).mono fun e w' h => ⟨h.1, by rw [h.2]; exact Below.refl _ _⟩
      · exact equal_rows b1 o1 c1 b2 o2 c2 l1 l2 hl1 he hb1 hb2 hc1 hc2
  · obtain ⟨a1, c1, rfl⟩ := rngs_slice h1
    obtain ⟨a2, c2, rfl⟩ := rngs_slice h2
    rw [show decide (l1 = l2) = false by rw [decide_eq_false_iff_not]; intro e; exact he (by rw [e])]
    exact (equal_len a1 a2 _ _ c1 c2 (by omega) (by omega) he).mono fun e w' h => ⟨h.1, by rw [h.2]; exact Below.refl _ _⟩
end Go.Proofs.YtbjohedenfindaaGreatDoor
