/- Texts of the proof, put together: WBld, WBldS, PVal, QLib, QEsc, PShf, PCon, PJoin, AWrT, AWrN, AWrQ. -/
import Derived.Test.YtgmmfpdekefamaaGreatDoorProg
import Derived.Lib.Builder
import Derived.Lib.AppendStr
import Derived.Lib.OthersKept
import Derived.Lib.OwnKind
import Derived.Lib.UnsafeStr
import Derived.WalkKit
import Derived.WalkSpells
import Derived.WalkLawsBesides
import Derived.Below
import Derived.Test.YtgmmfpdekefamaaGreatDoorAt15
import Derived.Shelf.Unicode.ValidAny
import Derived.Test.YtgmmfpdekefamaaGreatDoorAt33
import Derived.Test.YtgmmfpdekefamaaGreatDoorAt34
import Derived.Shelf.Strings.Builder1
import Derived.Shelf.Strings.Builder2
import Derived.Shelf.Strconv.Itoa0
import Derived.Shelf.Strconv.Itoa1
import Derived.Shelf.LaysM
import Derived.Shelf.Strconv.Itoa2
import Derived.Shelf.Strconv.Itoa3
import Derived.Shelf.Strconv.Itoa4
import Derived.Test.YtgmmfpdekefamaaGreatDoorAt32
import Derived.Lib.ItoaLen
import Derived.Test.YtgmmfpdekefamaaGreatDoorAt13
import Derived.Lib.ItoaNum
import Derived.Lib.MapLaws
namespace Go.Proofs.YtgmmfpdekefamaaGreatDoor
open Go.RowKit
set_option linter.unusedVariables false
set_option maxRecDepth 100000

/-- a type at whose head a builder lies -/
def TK (T : TypeId) (n : Nat) : Prop := liesAt Tryz.prog Tryz.prog.depth T ((n + 2) / Tryz.prog.cellsOf T) 0 173 1 = true ∧ T ≠ 5
theorem tk_builder : TK 173 0 := ⟨by kernel_rfl, by decide⟩
/-- a builder that holds bytes -/
def Bld (B b : Nat) (T : TypeId) (rest : List Value) (bs : List Value) (w : World) : Prop :=
 B ≤ b ∧ TK T rest.length ∧ ∃ p v, w.heap[b]? = some (.cells (p :: v :: rest).toArray T (0, 0)) ∧ (p = .pointer none ∨ p = .pointer (some ⟨b, 0, none⟩)) ∧ w.ownsRow B 5 1 v bs.length bs ∧ v.ownBlock ≠ some b
/-- what else is as it was -/
def BFr (B b : Nat) (w w' : World) : Prop := Below B w w' ∧ Lib.OthersKept 5 (some b) w w'
theorem BFr.refl (B b : Nat) (w : World) : BFr B b w w := ⟨Below.refl _ _, Lib.OthersKept.refl _ _ _⟩
theorem BFr.trans {B b : Nat} {a c d : World} (h : BFr B b a c) (k : BFr B b c d) : BFr B b a d := ⟨h.1.trans k.1, h.2.trans k.2⟩
theorem Bld.lt {B b : Nat} {T : TypeId} {rest bs : List Value} {w : World} (h : Bld B b T rest bs w) : b < w.heap.size := by
 obtain ⟨_, _, p, v, hb, _⟩ := h
 exact (Array.getElem?_eq_some_iff.1 hb).1
theorem bld_new {B b : Nat} {T : TypeId} {rest : List Value} {w : World} (hB : B ≤ b) (hT : TK T rest.length) (h : w.heap[b]? = some (.cells (.pointer none :: .slice none 0 0 :: rest).toArray T (0, 0))) : Bld B b T rest [] w :=
 ⟨hB, hT, _, _, h, .inl rfl, World.ownsRow_nil _ _ _ _, by simp [Value.ownBlock]⟩

theorem Tryz.builderSize : (Tryz.prog.info? 173).map (·.size) = some 2 := by kernel_rfl
theorem Tryz.infoByte : (Tryz.prog.info? 5).map (fun i => (i.zero, i.size, i.bytes)) = some (some (.int .u8 0), 1, 1) := by kernel_rfl

set_option maxHeartbeats 2000000 in
theorem ccheck_fresh (b n : Nat) (T : TypeId) (hT : TK T n) (w : World) (h0 : w.cell? ⟨b, 0, none⟩ = some (.pointer none)) (hsh : w.shape? b = some (T, n + 2)) (hfz : w.frozen? ⟨b, 0, none⟩ = false) :
  Calls Tryz.prog 155 #[.pointer (some ⟨b, 0, none⟩)] w fun e w' => e = .returned (.tuple #[]) ∧ w' = w.setCell ⟨b, 0, none⟩ (.pointer (some ⟨b, 0, none⟩)) := by
 obtain ⟨j, hj, hjs⟩ := Option.map_eq_some_iff.1 Tryz.builderSize
 go_enter Tryz.func155, Tryz.ntmps155
 go_wp2
 rw [Lib.run_to_unsafe w ⟨b, 0, none⟩ Tryz.underlying171 Tryz.underlying180 hj (by rw [hjs]; decide) hsh (Nat.zero_lt_succ _)]
 simp only [Result.andThen]
 rw [Oper.upon_value]
 go_wp2
 rw [run_callFunc_extern Tryz.func177 (by kernel_rfl) (by kernel_rfl) (by kernel_rfl) (e := Extern.AbiNoEscape.same) (by kernel_rfl)]
 rw [Lib.run_noEscape]
 simp only [Result.andThen]
 rw [Oper.upon_value]
 go_wp2
 rw [Lib.run_from_unsafe w ⟨b, 0, none⟩ Tryz.underlying180 Tryz.underlying171 hj hsh hT.1]
 simp only [Result.andThen]
 rw [Oper.upon_value]
 go_wp2
 go_end0
 exact ⟨rfl, rfl⟩

set_option maxHeartbeats 2000000 in
theorem ccheck_used (b : Nat) (w : World) (h0 : w.cell? ⟨b, 0, none⟩ = some (.pointer (some ⟨b, 0, none⟩))) :
  Calls Tryz.prog 155 #[.pointer (some ⟨b, 0, none⟩)] w fun e w' => e = .returned (.tuple #[]) ∧ w' = w := by
 obtain ⟨j, hj, _⟩ := Option.map_eq_some_iff.1 Tryz.builderSize
 go_enter Tryz.func155, Tryz.ntmps155
 go_wp2
 rw [Lib.run_neq_ptr_same w _ Tryz.underlying171 hj]
 go_wp2
 go_end0
 exact ⟨rfl, rfl⟩

/-- a builder that was written to -/
def BldU (B b : Nat) (T : TypeId) (rest : List Value) (bs : List Value) (w : World) : Prop :=
 B ≤ b ∧ TK T rest.length ∧ ∃ v, w.heap[b]? = some (.cells (.pointer (some ⟨b, 0, none⟩) :: v :: rest).toArray T (0, 0)) ∧ w.ownsRow B 5 1 v bs.length bs ∧ v.ownBlock ≠ some b
theorem BldU.bld {B b : Nat} {T : TypeId} {rest bs : List Value} {w : World} (h : BldU B b T rest bs w) : Bld B b T rest bs w := by
 obtain ⟨h1, h2, v, h3, h4, h5⟩ := h
 exact ⟨h1, h2, _, v, h3, .inr rfl, h4, h5⟩
theorem ccheck_any {B b : Nat} {T : TypeId} {rest bs : List Value} {w : World} (h : Bld B b T rest bs w) :
  Calls Tryz.prog 155 #[.pointer (some ⟨b, 0, none⟩)] w fun e w' => e = .returned (.tuple #[]) ∧ BldU B b T rest bs w' ∧ BFr B b w w' ∧ w'.heap.size = w.heap.size := by
 obtain ⟨hB, hT, p, v, hb, hp, hown, hne⟩ := h
 have c0 : w.cell? ⟨b, 0, none⟩ = some p := by rw [Lib.cell_of_heap hb]; simp
 rcases hp with rfl | rfl
 ·refine (ccheck_fresh b rest.length T hT w c0 (by simp [World.shape?, hb]) (by simp [World.frozen?, hb])).mono ?_
  rintro e w' ⟨rfl, rfl⟩
  refine ⟨rfl, ⟨hB, hT, v, ?_, ?_, hne⟩, ⟨(Below.refl B w).setCell (p := ⟨b, 0, none⟩) hB _, (Lib.OthersKept.refl _ _ w).setCell ⟨b, 0, none⟩ rfl _⟩, by simp [World.setCell]⟩
  ·simp [World.setCell, Array.getElem?_modify, hb]
  ·exact hown.kept (row := some b) ⟨rfl, rfl, rfl, by simp [World.setCell], fun k _ hk => Below.heap_setCell _ _ _ _ (fun e => hk (by simp [e]))⟩ (Or.inr hne)
 ·refine (ccheck_used b w c0).mono ?_
  rintro e w' ⟨rfl, rfl⟩
  exact ⟨rfl, ⟨hB, hT, v, hb, hown, hne⟩, BFr.refl _ _ _, rfl⟩

/-- the buffer is another one -/
theorem bld_put {B b : Nat} {T : TypeId} {rest bs bs' : List Value} {w1 w2 : World} {p v v' : Value} (hB : B ≤ b) (hT : TK T rest.length) (hb : w1.heap[b]? = some (.cells (.pointer (some ⟨b, 0, none⟩) :: v :: rest).toArray T (0, 0))) (hown : w1.ownsRow B 5 1 v bs.length bs) (hne : v.ownBlock ≠ some b)
  (hg : w1.grownBy w2 v.ownBlock) (hown' : w2.ownsRow B 5 1 v' bs'.length bs') : BldU B b T rest bs' (w2.setCell ⟨b, 1, none⟩ v') ∧ BFr B b w1 (w2.setCell ⟨b, 1, none⟩ v') := by
 have hlt := (Array.getElem?_eq_some_iff.1 hb).1
 have hb2 : w2.heap[b]? = some (.cells (.pointer (some ⟨b, 0, none⟩) :: v :: rest).toArray T (0, 0)) := (hg.block b hlt (fun e => hne e.symm)).trans hb
 have hne' := Lib.ownBlock_ne hown' hb2 hT.2
 refine ⟨⟨hB, hT, v', ?_, ?_, hne'⟩, ?_, ?_⟩
 ·simp [World.setCell, Array.getElem?_modify, hb2]
 ·exact hown'.kept (row := some b) ⟨rfl, rfl, rfl, by simp [World.setCell], fun k _ hk => Below.heap_setCell _ _ _ _ (fun e => hk (by simp [e]))⟩ (Or.inr hne')
 ·exact ((Below.refl B w1).grown hg (by omega) (fun k hk => (World.ownsRow.lt hown k hk).1)).setCell (p := ⟨b, 1, none⟩) hB _
 ·exact ((Lib.OthersKept.refl _ _ w1).grown hg (Lib.ownsRow_kind hown)).setCell ⟨b, 1, none⟩ rfl _

theorem bown_slice {w : World} {B : Nat} {v : Value} {bs : List Value} (h : w.ownsRow B 5 1 v bs.length bs) : ∃ ao cap, v = .slice ao bs.length cap := by
 rcases h.2 with ⟨hv, h0⟩ | ⟨g, cap, cur, hv, _⟩
 ·exact ⟨none, 0, by rw [hv, h0]⟩
 ·exact ⟨_, _, hv⟩

set_option maxHeartbeats 2000000 in
theorem wbyte_any {B b : Nat} {T : TypeId} {rest bs : List Value} {w : World} (c : Int) (h : Bld B b T rest bs w) (hlen : bs.length ≤ 1000000) (hBw : B ≤ w.heap.size) :
  Calls Tryz.prog 158 #[.pointer (some ⟨b, 0, none⟩), .int .u8 c] w fun e w' => e = .returned .nilIface ∧ BldU B b T rest (bs ++ [.int .u8 c]) w' ∧ BFr B b w w' := by
 obtain ⟨i0, hi, hz0, hz1, hz2⟩ := info_parts Tryz.infoByte
 have HC : Hid (Calls Tryz.prog 155 #[.pointer (some ⟨b, 0, none⟩)] w fun e w' => e = .returned (.tuple #[]) ∧ BldU B b T rest bs w' ∧ BFr B b w w' ∧ w'.heap.size = w.heap.size) := ccheck_any h
 clear h
 go_enter Tryz.func158, Tryz.ntmps158
 go_wp2_with fail
 go_at_call 155
 refine HC.out.mono ?_
 rintro e w1 ⟨rfl, h1, hf1, hs1⟩
 have hB1 : B ≤ w1.heap.size := by omega
 clear hs1
 obtain ⟨hB, hT, v, hb, hown, hne⟩ := h1
 have hlt := (Array.getElem?_eq_some_iff.1 hb).1
 have c1 : w1.cell? ⟨b, 1, none⟩ = some v := by rw [Lib.cell_of_heap hb]; simp
 obtain ⟨ao, cap, rfl⟩ := bown_slice hown
 have HP : Hid (∀ w2 v', (w1.alloc (.cells #[.int .u8 c] 5)).grownBy w2 (Value.slice ao bs.length cap).ownBlock → w2.ownsRow B 5 1 v' (bs ++ [Value.int .u8 c]).length (bs ++ [Value.int .u8 c]) → (w2.frozen? ⟨b, 1, none⟩ = false ∧ ∃ x, w2.cell? ⟨b, 1, none⟩ = some x) ∧ BldU B b T rest (bs ++ [.int .u8 c]) (w2.setCell ⟨b, 1, none⟩ v') ∧ BFr B b w (w2.setCell ⟨b, 1, none⟩ v')) := fun w2 v' hg hown' => by
  have hba : (w1.alloc (.cells #[.int .u8 c] 5)).heap[b]? = some (.cells (.pointer (some ⟨b, 0, none⟩) :: Value.slice ao bs.length cap :: rest).toArray T (0, 0)) := (Lib.alloc_old w1 _ b hlt).trans hb
  have hq := bld_put (p := .nilIface) hB hT hba (hown.alloc _) hne hg hown'
  have hb2 := (hg.block b (by simp; omega) (fun e => hne e.symm)).trans hba
  refine ⟨⟨by simp [World.frozen?, hb2], Value.slice ao bs.length cap, by rw [Lib.cell_of_heap hb2]; simp⟩, hq.1, ?_⟩
  have h0 : BFr B b w1 (w1.alloc (.cells #[.int .u8 c] 5)) := ⟨(Below.refl B w1).alloc (by omega) _, (Lib.OthersKept.refl _ _ w1).alloc _⟩
  exact hf1.trans (h0.trans hq.2)
 have hown1 := hown.alloc (o := .cells #[.int .u8 c] 5)
 clear hown hb HC hf1
 go_wp2_with (at_builtin; refine wpList_append_own _ rfl _ _ 141 rfl B 5 i0 (.int .u8 0) 1 1 Tryz.underlying141 hi hz0 hz1 hz2 rfl (by decide) _ _ _ rfl hown1 ⟨w1.heap.size, 0, none⟩ 1 1 [.int .u8 c] rfl rfl ?c1 ?c2 ?c3 ?c4 ?c5 ?_)
 case c1 =>
  intro j u hj
  match j, hj with
  | 0, hj => simp at hj; subst hj; simp [Addr.add]
 case c2 => intro u hu; simp at hu; subst hu; rfl
 case c3 => unfold maxLen; omega
 case c4 => omega
 case c5 => simp; omega
 intro v' w2 hown' hgrow _
 obtain ⟨⟨f1, x, d1⟩, hq1, hq2⟩ := HP.out w2 v' hgrow (by simpa using hown')
 have HQ : Hid (BldU B b T rest (bs ++ [.int .u8 c]) (w2.setCell ⟨b, 1, none⟩ v') ∧ BFr B b w (w2.setCell ⟨b, 1, none⟩ v')) := ⟨hq1, hq2⟩
 obtain ⟨ao', n', cap', rfl⟩ : ∃ ao n' cap, v' = .slice ao n' cap := by
  rcases hown'.2 with ⟨hv, _⟩ | ⟨g, cap, cur, hv, _⟩
  ·exact ⟨_, _, _, hv⟩
  ·exact ⟨_, _, _, hv⟩
 clear hq1 hq2 HP hown' hgrow hown1
 go_wp2
 go_ret
 exact ⟨rfl, HQ.out.1, HQ.out.2⟩

end Go.Proofs.YtgmmfpdekefamaaGreatDoor

namespace Go.Proofs.YtgmmfpdekefamaaGreatDoor
open Go.RowKit
set_option linter.unusedVariables false
set_option maxRecDepth 100000

theorem Tryz.cellsByte : Tryz.prog.cellsOf 5 = 1 := by kernel_rfl
set_option maxHeartbeats 2000000 in
theorem bstr_some {B b : Nat} {T : TypeId} {rest : List Value} {w : World} (l : List UInt8) (h : Bld B b T rest (Lib.byteCells l) w) (h0 : l ≠ []) :
  Calls Tryz.prog 98 #[.pointer (some ⟨b, 0, none⟩)] w fun e w' => e = .returned (.string ⟨l.toArray⟩) ∧ Below B w w' := by
 obtain ⟨hB, hT, p, v, hbk, hp, hown, hne⟩ := h
 have hl0 : l.length ≠ 0 := by simpa using h0
 rw [Lib.byteCells_length] at hown
 obtain ⟨g, cap, cur, rfl, hbg, hg, hnc, hcm, hcs, htake⟩ : ∃ g cap cur, v = .slice (some ⟨g, 0, none⟩) l.length cap ∧ B ≤ g ∧ w.heap[g]? = some (.cells cur 5 (0, 0)) ∧ l.length ≤ cap ∧ cap ≤ maxLen ∧ cur.size = cap * 1 ∧ cur.toList.take (l.length * 1) = Lib.byteCells l := by
  rcases hown.2 with ⟨_, hz⟩ | ⟨g, cap, cur, hv, r⟩
  ·exact absurd hz hl0
  ·exact ⟨g, cap, cur, hv, r⟩
 have c1 : w.drew.cell? ⟨b, 1, none⟩ = some (.slice (some ⟨g, 0, none⟩) l.length cap) := by
  have : w.drew.heap[b]? = some (.cells (p :: .slice (some ⟨g, 0, none⟩) l.length cap :: rest).toArray T (0, 0)) := hbk
  rw [Lib.cell_of_heap this]; simp
 have hSD : (Builtin.unsafeSliceData_ #[141] 231 #[.slice (some ⟨g, 0, none⟩) l.length cap]).run Tryz.prog w.drew = .ok (.pointer (some ⟨g, 0, none⟩)) w.drew :=
  Lib.run_unsafeSliceData_row _ _ _ _ _ _ (by omega)
 have hUS : (Builtin.unsafeString_ #[231, 3] 9 #[.pointer (some ⟨g, 0, none⟩), .int .i64 l.length]).run Tryz.prog w.drew = .ok (.string ⟨l.toArray⟩) (w.drew.freeze ⟨g, 0, none⟩ l.length) := by
  refine Lib.run_unsafeString_row w.drew 231 3 9 5 Tryz.underlying231 Tryz.cellsByte g cur.size (by have hg' : w.drew.heap[g]? = some (.cells cur 5 (0, 0)) := hg; simp [World.shape?, hg']) l h0 (by omega) (by unfold maxLen at hcm; omega) ?_
  intro j x hx
  have := hown.cells (g := g) rfl j (.int .u8 x.toNat) (by simp [Lib.byteCells, hx])
  exact this
 clear hown htake hg hcs hbk hp
 go_enter Tryz.func98, Tryz.ntmps98
 go_wp2
 go_region
 all_goals (go_wp2; go_ret; exact ⟨rfl, Lib.below_freeze (Below.drew (Below.refl B w)) (p := ⟨g, 0, none⟩) hbg _⟩)

theorem bstr_us (W : World) (q : Option Addr) : (Builtin.unsafeString_ #[231, 3] 9 #[.pointer q, .int .i64 0]).run Tryz.prog W = .ok (.string .empty) W := Lib.run_unsafeString_none W _ _ _ q
set_option maxHeartbeats 2000000 in
theorem bstr_none {B b : Nat} {T : TypeId} {rest : List Value} {w : World} (h : Bld B b T rest [] w) (hBw : B ≤ w.heap.size) :
  Calls Tryz.prog 98 #[.pointer (some ⟨b, 0, none⟩)] w fun e w' => e = .returned (.string ⟨#[]⟩) ∧ Below B w w' := by
 have hlt := h.lt
 obtain ⟨hB, hT, p, v, hbk, hp, hown, hne⟩ := h
 have hUS := bstr_us
 rcases hown.2 with ⟨rfl, _⟩ | ⟨g, cap, cur, rfl, hbg, hg, _, _, _, _⟩
 ·have c1 : w.drew.cell? ⟨b, 1, none⟩ = some (.slice none 0 0) := by
   have : w.drew.heap[b]? = some (.cells (p :: .slice none 0 0 :: rest).toArray T (0, 0)) := hbk
   rw [Lib.cell_of_heap this]; simp
  have hSD : (Builtin.unsafeSliceData_ #[141] 231 #[.slice none 0 0]).run Tryz.prog w.drew = .ok (.pointer none) w.drew := rfl
  clear hown hbk hp
  go_enter Tryz.func98, Tryz.ntmps98
  go_wp2
  go_region
  all_goals (go_wp2; go_ret; exact ⟨rfl, Below.drew (Below.refl B w)⟩)
 ·by_cases hc0 : cap = 0
  ·subst hc0
   have c1 : w.drew.cell? ⟨b, 1, none⟩ = some (.slice (some ⟨g, 0, none⟩) 0 0) := by
    have : w.drew.heap[b]? = some (.cells (p :: .slice (some ⟨g, 0, none⟩) 0 0 :: rest).toArray T (0, 0)) := hbk
    rw [Lib.cell_of_heap this]; simp
   have hSD : (Builtin.unsafeSliceData_ #[141] 231 #[.slice (some ⟨g, 0, none⟩) 0 0]).run Tryz.prog w.drew = .ok (.pointer (some ⟨w.drew.heap.size, 0, none⟩)) (w.drew.alloc (.view ⟨g, 0, none⟩ 5)) :=
    Lib.run_unsafeSliceData_zero w.drew _ _ 5 Tryz.underlying231 ⟨g, 0, none⟩ 0 (5, cur.size) (by have hg' : w.drew.heap[g]? = some (.cells cur 5 (0, 0)) := hg; simp [World.shape?, hg'])
   have c2 : (w.drew.alloc (.view ⟨g, 0, none⟩ 5)).cell? ⟨b, 1, none⟩ = some (.slice (some ⟨g, 0, none⟩) 0 0) := by
    have : (w.drew.alloc (.view ⟨g, 0, none⟩ 5)).heap[b]? = _ := (Lib.alloc_old w.drew _ b hlt).trans hbk
    rw [Lib.cell_of_heap this]; simp
   have c3 : (w.alloc (.view ⟨g, 0, none⟩ 5)).drew.cell? ⟨b, 1, none⟩ = some (.slice (some ⟨g, 0, none⟩) 0 0) := c2
   have c0 : w.cell? ⟨b, 1, none⟩ = some (.slice (some ⟨g, 0, none⟩) 0 0) := c1
   clear hown hbk hp hg
   go_enter Tryz.func98, Tryz.ntmps98
   go_wp2
   go_region
   all_goals (go_wp2; go_ret; exact ⟨rfl, (Below.drew (Below.refl B w)).alloc hBw _⟩)
  ·have c1 : w.drew.cell? ⟨b, 1, none⟩ = some (.slice (some ⟨g, 0, none⟩) 0 cap) := by
    have : w.drew.heap[b]? = some (.cells (p :: .slice (some ⟨g, 0, none⟩) 0 cap :: rest).toArray T (0, 0)) := hbk
    rw [Lib.cell_of_heap this]; simp
   have hSD : (Builtin.unsafeSliceData_ #[141] 231 #[.slice (some ⟨g, 0, none⟩) 0 cap]).run Tryz.prog w.drew = .ok (.pointer (some ⟨g, 0, none⟩)) w.drew :=
    Lib.run_unsafeSliceData_row _ _ _ _ _ _ hc0
   clear hc0 hown hbk hp hg
   go_enter Tryz.func98, Tryz.ntmps98
   go_wp2
   go_region
   all_goals (go_wp2; go_ret; exact ⟨rfl, Below.drew (Below.refl B w)⟩)
theorem bstr_any {B b : Nat} {T : TypeId} {rest : List Value} {w : World} (l : List UInt8) (h : Bld B b T rest (Lib.byteCells l) w) (hBw : B ≤ w.heap.size) :
  Calls Tryz.prog 98 #[.pointer (some ⟨b, 0, none⟩)] w fun e w' => e = .returned (.string ⟨l.toArray⟩) ∧ Below B w w' := by
 cases l with
 | nil => exact bstr_none h hBw
 | cons x r => exact bstr_some (x :: r) h (by simp)

end Go.Proofs.YtgmmfpdekefamaaGreatDoor

namespace Go.Proofs.YtgmmfpdekefamaaGreatDoor
open Go.RowKit
set_option linter.unusedVariables false
set_option maxRecDepth 100000

theorem whole_valid (s : ByteArray) : ∀ (f pos : Nat), s.size ≤ pos + f → wholeFrom s f pos = Lib.validD (s.data.toList.drop pos)
 | 0, pos, h => by
  have hsz : s.data.toList.length = s.size := by rw [Array.length_toList]; rfl
  rw [List.drop_eq_nil_of_le (by omega)]
  rfl
 | f + 1, pos, h => by
  have hsz : s.data.toList.length = s.size := by rw [Array.length_toList]; rfl
  by_cases hp : pos < s.size
  ·have hne : s.data.toList.drop pos ≠ [] := fun e => by
    have := congrArg List.length e
    simp at this
    have h2 : s.data.size = s.size := rfl
    omega
   have hw := dec_width s pos
   rw [wholeFrom_step s f pos hp, Lib.validD_step _ hne, Lib.decodeL_drop, List.drop_drop]
   by_cases hb : (Utf8.decode s pos).1 = 65533 ∧ (Utf8.decode s pos).2 = 1
   ·rw [if_pos hb]
    unfold okAt
    rw [hb.1, hb.2]
    rfl
   ·rw [if_neg hb, ← whole_valid s f _ (by omega)]
    have : okAt s pos = true := by
     unfold okAt
     cases h1 : ((Utf8.decode s pos).1 == 65533 && (Utf8.decode s pos).2 == 1) with
     | false => rfl
     | true =>
      simp only [Bool.and_eq_true, beq_iff_eq] at h1
      exact absurd h1 hb
    rw [this, Bool.true_and]
  ·rw [wholeFrom_end s _ pos hp, List.drop_eq_nil_of_le (by omega)]
   rfl
theorem whole_validD (s : ByteArray) : whole s = Lib.validD s.data.toList := by
 have := whole_valid s s.size 0 (by omega)
 simpa [whole] using this

end Go.Proofs.YtgmmfpdekefamaaGreatDoor

namespace Go.Proofs.YtgmmfpdekefamaaGreatDoor
open Go.RowKit
set_option linter.unusedVariables false
set_option maxRecDepth 100000

theorem bytesWorld_belowQ (w : World) (e : TypeId) (s : ByteArray) : Below w.heap.size w (Lib.bytesWorld w e s) := by
 exact ⟨rfl, rfl, rfl, by rw [Lib.bytesWorld_size]; omega, fun b hb => Lib.bytesWorld_at_old w e s b hb⟩
theorem pint_holds : PIntC := fun d n w hs h => by
 have := Any.strconv_ParseInt_10_at64_ok Tryz.laysC174 d (by omega) n h w
 refine Calls.mono this ?_
 rintro e w' ⟨h1, h2⟩
 refine ⟨h1, ?_⟩
 rcases h2 with rfl | ⟨t, rfl⟩
 ·exact Below.refl _ _
 ·exact bytesWorld_belowQ w _ t
theorem hpre_holds : HPreC := fun s p w => Any.strings_HasPrefix Tryz.lays99 s p w
/-- what the reader asks of the world: utf8's tables -/
def UtfW (w : World) : Prop := Lib.Utf8Tabs (Tryz.laysDec_ren.g 3) (Tryz.laysDec_ren.g 4) w
theorem UtfW.kept {w w' : World} {C : Nat} (h : UtfW w) (hg : w.grownBy w' (some C)) (hC : 16 ≤ C) : UtfW w' := by
 have k : ∀ (g j : Nat) (v : Value), g < 16 → w.cell? ⟨g, j, none⟩ = some v → w'.cell? ⟨g, j, none⟩ = some v := fun g j v hg16 hc => by
  have hlt := lt_of_cellQ hc
  exact (World.cell?_of_block (a := ⟨g, j, none⟩) (hg.block g hlt (fun e => by cases e; omega))).trans hc
 exact ⟨fun c hc => k _ _ _ (by show (8 : Nat) < 16; decide) (h.1 c hc), fun i hi => ⟨k _ _ _ (by show (9 : Nat) < 16; decide) (h.2 i hi).1, k _ _ _ (by show (9 : Nat) < 16; decide) (h.2 i hi).2⟩⟩
theorem dec_any {w : World} (h : UtfW w) (s : ByteArray) : Calls Tryz.prog 238 #[.string s] w fun e w' => e = .returned (.tuple #[.int .i32 (Lib.decodeGo s).1, .int .i64 (Lib.decodeGo s).2]) ∧ Below w.heap.size w w' := Any.utf8_DecodeRuneInString Tryz.laysDec s w h

set_option maxHeartbeats 2000000 in
theorem wrune_any {B b : Nat} {T : TypeId} {rest bs : List Value} {w : World} (r : Int) (hr0 : -2147483648 ≤ r) (hr1 : r ≤ 2147483647) (h : Bld B b T rest bs w) (hlen : bs.length + 4 ≤ 1000000) (hBw : B ≤ w.heap.size) :
  Calls Tryz.prog 239 #[.pointer (some ⟨b, 0, none⟩), .int .i32 r] w fun e w' => (∃ n : Int, e = .returned (.tuple #[.int .i64 n, .nilIface])) ∧ BldU B b T rest (bs ++ Lib.runeCells r) w' ∧ BFr B b w w' := by
 have HC : Hid (Calls Tryz.prog 155 #[.pointer (some ⟨b, 0, none⟩)] w fun e w' => e = .returned (.tuple #[]) ∧ BldU B b T rest bs w' ∧ BFr B b w w' ∧ w'.heap.size = w.heap.size) := ccheck_any h
 clear h
 go_enter Tryz.func239, Tryz.ntmps239
 go_wp2_with fail
 go_at_call 155
 refine HC.out.mono ?_
 rintro e w1 ⟨rfl, h1, hf1, hs1⟩
 have hB1 : B ≤ w1.heap.size := by omega
 clear hs1
 obtain ⟨hB, hT, v, hb, hown, hne⟩ := h1
 have hlt := (Array.getElem?_eq_some_iff.1 hb).1
 have c0 : w1.cell? ⟨b, 0, none⟩ = some (.pointer (some ⟨b, 0, none⟩)) := by rw [Lib.cell_of_heap hb]; simp
 have c1 : w1.cell? ⟨b, 1, none⟩ = some v := by rw [Lib.cell_of_heap hb]; simp
 obtain ⟨ao, cap, rfl⟩ := bown_slice hown
 have HA : Hid (Calls Tryz.prog 241 #[.slice ao bs.length cap, .int .i32 r] w1 fun e w2 => ∃ v', e = .returned v' ∧ (w2.frozen? ⟨b, 1, none⟩ = false ∧ ∃ x, w2.cell? ⟨b, 1, none⟩ = some x) ∧ BldU B b T rest (bs ++ Lib.runeCells r) (w2.setCell ⟨b, 1, none⟩ v') ∧ BFr B b w (w2.setCell ⟨b, 1, none⟩ v') ∧ ∃ g cap' n', v' = .slice (some ⟨g, 0, none⟩) n' cap') := by
  have := Any.utf8_AppendRune_plain Tryz.lays242 Tryz.infoByte B _ bs.length bs r hr0 hr1 w1 hown (by omega) hB1
  refine Calls.mono this ?_
  rintro e w2 ⟨v', h1, hown', o, hg⟩
  have hba : (w1.alloc o).heap[b]? = some (.cells (.pointer (some ⟨b, 0, none⟩) :: Value.slice ao bs.length cap :: rest).toArray T (0, 0)) := (Lib.alloc_old w1 _ b hlt).trans hb
  have hk4 := Lib.runeCells_le r
  have hown2 : w2.ownsRow B 5 1 v' (bs ++ Lib.runeCells r).length (bs ++ Lib.runeCells r) := by rw [List.length_append]; exact hown'
  have hq := bld_put (p := .nilIface) hB hT hba (hown.alloc _) hne hg hown2
  have hb2 := (hg.block b (by simp; omega) (fun e => hne e.symm)).trans hba
  have h0 : BFr B b w1 (w1.alloc o) := ⟨(Below.refl B w1).alloc (by omega) _, (Lib.OthersKept.refl _ _ w1).alloc _⟩
  refine ⟨v', h1, ⟨by simp [World.frozen?, hb2], Value.slice ao bs.length cap, by rw [Lib.cell_of_heap hb2]; simp⟩, hq.1, hf1.trans (h0.trans hq.2), ?_⟩
  rcases hown'.2 with ⟨_, h0⟩ | ⟨g, cap', cur, hv, _⟩
  ·omega
  ·exact ⟨g, cap', _, hv⟩
 clear hown hb HC hf1
 go_wp2_with fail
 go_at_call 241
 refine HA.out.mono ?_
 rintro e w2 ⟨v', rfl, ⟨f1, x, d1⟩, hq1, hq2, g, cap', n', rfl⟩
 have HQ : Hid (BldU B b T rest (bs ++ Lib.runeCells r) (w2.setCell ⟨b, 1, none⟩ (.slice (some ⟨g, 0, none⟩) n' cap')) ∧ BFr B b w (w2.setCell ⟨b, 1, none⟩ (.slice (some ⟨g, 0, none⟩) n' cap'))) := ⟨hq1, hq2⟩
 clear hq1 hq2 HA
 go_wp2
 go_ret2
 exact ⟨⟨_, rfl⟩, HQ.out.1, HQ.out.2⟩

end Go.Proofs.YtgmmfpdekefamaaGreatDoor

namespace Go.Proofs.YtgmmfpdekefamaaGreatDoor
open Go.RowKit
set_option linter.unusedVariables false
set_option maxRecDepth 100000

theorem Bld.keptC {B b : Nat} {T : TypeId} {rest bs : List Value} {w w' : World} {C : Nat} (h : Bld B b T rest bs w) (hg : w.grownBy w' (some C)) (hC : C < B) : Bld B b T rest bs w' := by
 have hlt := h.lt
 obtain ⟨hB, hT, p, v, hb, hp, hown, hne⟩ := h
 refine ⟨hB, hT, p, v, (hg.block b hlt (fun e => by cases e; omega)).trans hb, hp, hown.kept hg (.inr fun e => ?_), hne⟩
 have := (hown.lt C e).1
 omega
set_option maxHeartbeats 4000000 in
theorem cescaped_any {w : World} {C : Nat} {s : ByteArray} {i : Nat} {x : Nat} (h : CtA w C s i) (hi : i < s.size) (hs : s.size ≤ 70000) (hx : ((s.get! i).toNat = 110 ∧ x = 10) ∨ ((s.get! i).toNat = 34 ∧ x = 34) ∨ ((s.get! i).toNat = 92 ∧ x = 92)) :
  Calls Tryz.prog 228 #[.pointer (some ⟨C, 0, none⟩)] w fun e w' => e = .returned (.tuple #[.int .u8 (x : Int), .bool true]) ∧ w.grownBy w' (some C) ∧ CtA w' C s (i + 1) := by
 have c0 := h.c0
 have c1 := h.c1
 have hlt := h.lt
 have hfz := h.fz 1
 have hne : ((i : Int) == (s.size : Int)) = false := by rw [beq_eq_false_iff_ne]; omega
 have hiI : (i : Int) < (s.size : Int) := by omega
 have hgb := get_atA s i hi
 have hw1 : IntKind.i64.wrap ((i : Int) + 1) = (i : Int) + 1 := by rw [IntKind.wrap_i64]; omega
 have HC : Hid (CtA w C s i) := h
 obtain ⟨b, hb⟩ : ∃ b : UInt8, s.get! i = b := ⟨_, rfl⟩
 rw [hb] at hgb hx
 clear h hb
 rcases hx with ⟨hz, rfl⟩ | ⟨hz, rfl⟩ | ⟨hz, rfl⟩
 all_goals
  go_enter Tryz.func228, Tryz.ntmps228
  go_wp2_with fail
  go_quiet (fail)
  go_wp2_with fail
  go_quiet (fail)
  go_wp2_with fail
  go_ret2
  exact ⟨rfl, grownA_drewR (gSetB (show w.grownBy w (some C) from ⟨rfl, rfl, rfl, Nat.le_refl _, fun _ _ _ => rfl⟩) 1 _), HC.out.set (i + 1)⟩

end Go.Proofs.YtgmmfpdekefamaaGreatDoor

namespace Go.Proofs
open Go.Shelf
def Tryz.laysValid_ren : Go.Shelf.Ren := ⟨fun | 196 => 92 | 259 => 151 | n => n, fun | 9 => 9 | 4 => 4 | 3 => 3 | 5 => 5 | 12 => 12 | 119 => 226 | 0 => 0 | 46 => 230 | 139 => 229 | 138 => 228 | 53 => 261 | n => n, fun | 3 => 8 | 4 => 9 | n => n⟩
theorem Tryz.laysValid : Go.Proofs.Lays.n196 Tryz.prog Tryz.laysValid_ren := {
 mixed := by kernel_rfl
 f196 := Tryz.func92.trans (congrArg some (by kernel_rfl))
 f259 := Tryz.func151.trans (congrArg some (by kernel_rfl))
 t0 := Tryz.underlying0
 a0 := Tryz.isAgg0
 z0 := Tryz.sizeOf0
 v0 := Tryz.zeroValue0
 t3 := Tryz.underlying3
 a3 := Tryz.isAgg3
 z3 := Tryz.sizeOf3
 v3 := Tryz.zeroValue3
 t4 := Tryz.underlying4
 a4 := Tryz.isAgg4
 z4 := Tryz.sizeOf4
 v4 := Tryz.zeroValue4
 t5 := Tryz.underlying5
 a5 := Tryz.isAgg5
 z5 := Tryz.sizeOf5
 v5 := Tryz.zeroValue5
 t9 := Tryz.underlying9
 a9 := Tryz.isAgg9
 z9 := Tryz.sizeOf9
 v9 := Tryz.zeroValue9
 t12 := Tryz.underlying12
 a12 := Tryz.isAgg12
 z12 := Tryz.sizeOf12
 v12 := Tryz.zeroValue12
 t46 := Tryz.underlying230
 a46 := Tryz.isAgg230
 z46 := Tryz.sizeOf230
 v46 := Tryz.zeroValue230
 t53 := Tryz.underlying261
 a53 := Tryz.isAgg261
 z53 := Tryz.sizeOf261
 v53 := Tryz.zeroValue261
 t119 := Tryz.underlying226
 a119 := Tryz.isAgg226
 z119 := Tryz.sizeOf226
 t138 := Tryz.underlying228
 a138 := Tryz.isAgg228
 z138 := Tryz.sizeOf228
 v138 := Tryz.zeroValue228
 t139 := Tryz.underlying229
 a139 := Tryz.isAgg229
 z139 := Tryz.sizeOf229
 v139 := Tryz.zeroValue229
 g3 := by kernel_rfl
 g4 := by kernel_rfl }
def Tryz.lays165_ren : Go.Shelf.Ren := ⟨fun | 165 => 96 | 240 => 155 | 241 => 156 | 276 => 177 | 277 => 178 | n => n, fun | 70 => 171 | 3 => 3 | 0 => 0 | 4 => 4 | 9 => 9 | 20 => 20 | 72 => 173 | 37 => 141 | 164 => 180 | 5 => 5 | n => n, fun | n => n⟩
theorem Tryz.lays165 : Go.Proofs.Lays.n165 Tryz.prog Tryz.lays165_ren := {
 mixed := by kernel_rfl
 f165 := Tryz.func96.trans (congrArg some (by kernel_rfl))
 f240 := Tryz.func155.trans (congrArg some (by kernel_rfl))
 f241 := Tryz.func156.trans (congrArg some (by kernel_rfl))
 f276 := Tryz.func177.trans (congrArg some (by kernel_rfl))
 f277 := Tryz.func178.trans (congrArg some (by kernel_rfl))
 t0 := Tryz.underlying0
 a0 := Tryz.isAgg0
 z0 := Tryz.sizeOf0
 v0 := Tryz.zeroValue0
 t3 := Tryz.underlying3
 a3 := Tryz.isAgg3
 z3 := Tryz.sizeOf3
 v3 := Tryz.zeroValue3
 t4 := Tryz.underlying4
 a4 := Tryz.isAgg4
 z4 := Tryz.sizeOf4
 v4 := Tryz.zeroValue4
 t9 := Tryz.underlying9
 a9 := Tryz.isAgg9
 z9 := Tryz.sizeOf9
 v9 := Tryz.zeroValue9
 t20 := Tryz.underlying20
 a20 := Tryz.isAgg20
 z20 := Tryz.sizeOf20
 v20 := Tryz.zeroValue20
 t37 := Tryz.underlying141
 a37 := Tryz.isAgg141
 z37 := Tryz.sizeOf141
 v37 := Tryz.zeroValue141
 t70 := Tryz.underlying171
 a70 := Tryz.isAgg171
 z70 := Tryz.sizeOf171
 v70 := Tryz.zeroValue171
 t72 := Tryz.underlying173
 a72 := Tryz.isAgg173
 z72 := Tryz.sizeOf173
 v72 := Tryz.zeroValue173
 t164 := Tryz.underlying180
 a164 := Tryz.isAgg180
 z164 := Tryz.sizeOf180
 v164 := Tryz.zeroValue180 }
theorem Tryz.Builder_Extra_165 : Builder.Extra Tryz.prog Tryz.lays165_ren := {
 sizeBuilder := by kernel_rfl
 liesBuilder := by kernel_rfl
 t5 := Tryz.underlying5
 a5 := Tryz.isAgg5
 z5 := Tryz.sizeOf5
 v5 := Tryz.zeroValue5
 infoByte := by kernel_rfl
 cellsByte := by kernel_rfl
 sizeByte := by kernel_rfl
 neB5 := by decide }
def Tryz.laysM173_ren : Go.Shelf.Ren := ⟨fun | 173 => 99 | 246 => 157 | 283 => 179 | 284 => 180 | 285 => 181 | 286 => 182 | 129 => 191 | 317 => 190 | 318 => 192 | 319 => 193 | 320 => 194 | 337 => 202 | 338 => 203 | n => n, fun | 2 => 2 | 3 => 3 | 9 => 9 | 4 => 4 | 171 => 265 | 0 => 0 | 53 => 261 | 37 => 141 | 5 => 5 | 173 => 268 | 212 => 274 | 51 => 275 | 20 => 20 | 213 => 276 | 46 => 230 | 232 => 292 | 233 => 293 | n => n, fun | 17 => 11 | 18 => 14 | 19 => 15 | n => n⟩
theorem Tryz.laysM173 : Go.Proofs.LaysM.n173 Tryz.prog Tryz.laysM173_ren := {
 mixed := by kernel_rfl
 f129 := Tryz.func191.trans (congrArg some (by kernel_rfl))
 f173 := Tryz.func99.trans (congrArg some (by kernel_rfl))
 f246 := Tryz.func157.trans (congrArg some (by kernel_rfl))
 f283 := Tryz.func179.trans (congrArg some (by kernel_rfl))
 f284 := Tryz.func180.trans (congrArg some (by kernel_rfl))
 f285 := Tryz.func181.trans (congrArg some (by kernel_rfl))
 f286 := Tryz.func182.trans (congrArg some (by kernel_rfl))
 f317 := Tryz.func190.trans (congrArg some (by kernel_rfl))
 f318 := Tryz.func192.trans (congrArg some (by kernel_rfl))
 f319 := Tryz.func193.trans (congrArg some (by kernel_rfl))
 f320 := Tryz.func194.trans (congrArg some (by kernel_rfl))
 f337 := Tryz.func202.trans (congrArg some (by kernel_rfl))
 f338 := Tryz.func203.trans (congrArg some (by kernel_rfl))
 t0 := Tryz.underlying0
 a0 := Tryz.isAgg0
 z0 := Tryz.sizeOf0
 v0 := Tryz.zeroValue0
 t2 := Tryz.underlying2
 a2 := Tryz.isAgg2
 z2 := Tryz.sizeOf2
 v2 := Tryz.zeroValue2
 t3 := Tryz.underlying3
 a3 := Tryz.isAgg3
 z3 := Tryz.sizeOf3
 v3 := Tryz.zeroValue3
 t4 := Tryz.underlying4
 a4 := Tryz.isAgg4
 z4 := Tryz.sizeOf4
 v4 := Tryz.zeroValue4
 t5 := Tryz.underlying5
 a5 := Tryz.isAgg5
 z5 := Tryz.sizeOf5
 v5 := Tryz.zeroValue5
 t9 := Tryz.underlying9
 a9 := Tryz.isAgg9
 z9 := Tryz.sizeOf9
 v9 := Tryz.zeroValue9
 t20 := Tryz.underlying20
 a20 := Tryz.isAgg20
 z20 := Tryz.sizeOf20
 v20 := Tryz.zeroValue20
 t37 := Tryz.underlying141
 a37 := Tryz.isAgg141
 z37 := Tryz.sizeOf141
 v37 := Tryz.zeroValue141
 t46 := Tryz.underlying230
 a46 := Tryz.isAgg230
 z46 := Tryz.sizeOf230
 v46 := Tryz.zeroValue230
 t51 := Tryz.underlying275
 a51 := Tryz.isAgg275
 z51 := Tryz.sizeOf275
 v51 := Tryz.zeroValue275
 t53 := Tryz.underlying261
 a53 := Tryz.isAgg261
 z53 := Tryz.sizeOf261
 v53 := Tryz.zeroValue261
 t171 := Tryz.underlying265
 a171 := Tryz.isAgg265
 z171 := Tryz.sizeOf265
 v171 := Tryz.zeroValue265
 t173 := Tryz.underlying268
 a173 := Tryz.isAgg268
 z173 := Tryz.sizeOf268
 v173 := Tryz.zeroValue268
 t212 := Tryz.underlying274
 a212 := Tryz.isAgg274
 z212 := Tryz.sizeOf274
 v212 := Tryz.zeroValue274
 t213 := Tryz.underlying276
 a213 := Tryz.isAgg276
 z213 := Tryz.sizeOf276
 t232 := Tryz.underlying292
 a232 := Tryz.isAgg292
 z232 := Tryz.sizeOf292
 v232 := Tryz.zeroValue292
 t233 := Tryz.underlying293
 a233 := Tryz.isAgg293
 z233 := Tryz.sizeOf293
 v233 := Tryz.zeroValue293
 g17 := by kernel_rfl
 g18 := by kernel_rfl
 g19 := by kernel_rfl
 i0 := by kernel_rfl
 i2 := by kernel_rfl
 i3 := by kernel_rfl
 i4 := by kernel_rfl
 i5 := by kernel_rfl
 i9 := by kernel_rfl
 i20 := by kernel_rfl
 i37 := by kernel_rfl
 i46 := by kernel_rfl
 i51 := by kernel_rfl
 i53 := by kernel_rfl
 i171 := by kernel_rfl
 i173 := by kernel_rfl
 i212 := by kernel_rfl
 i232 := by kernel_rfl
 i233 := by kernel_rfl
 m17 := by kernel_rfl
 m18 := by kernel_rfl
 m19 := by kernel_rfl }
end Go.Proofs

namespace Go.Proofs.YtgmmfpdekefamaaGreatDoor
open Go.RowKit
set_option linter.unusedVariables false
set_option maxRecDepth 100000

end Go.Proofs.YtgmmfpdekefamaaGreatDoor

namespace Go.Proofs.YtgmmfpdekefamaaGreatDoor
open Go.RowKit
set_option linter.unusedVariables false
set_option maxRecDepth 100000

end Go.Proofs.YtgmmfpdekefamaaGreatDoor

namespace Go.Proofs.YtgmmfpdekefamaaGreatDoor
open Go.RowKit
set_option linter.unusedVariables false
set_option maxRecDepth 100000

/-- these bytes stand there -/
def At (s : ByteArray) (i : Nat) (l : List UInt8) : Prop := ∀ k, (h : k < l.length) → i + k < s.size ∧ s.get! (i + k) = l[k]
theorem At.append {s : ByteArray} {i : Nat} {a b : List UInt8} : At s i (a ++ b) ↔ At s i a ∧ At s (i + a.length) b := by
 constructor
 ·intro h
  refine ⟨fun k hk => ?_, fun k hk => ?_⟩
  ·have := h k (by simp; omega)
   rwa [List.getElem_append_left hk] at this
  ·have := h (a.length + k) (by simp; omega)
   rw [List.getElem_append_right (by omega)] at this
   simpa [Nat.add_assoc] using this
 ·rintro ⟨h1, h2⟩ k hk
  by_cases hka : k < a.length
  ·rw [List.getElem_append_left hka]
   exact h1 k hka
  ·rw [List.getElem_append_right (by omega)]
   have := h2 (k - a.length) (by simp at hk; omega)
   rwa [show i + a.length + (k - a.length) = i + k by omega] at this
theorem At.cons {s : ByteArray} {i : Nat} {b : UInt8} {l : List UInt8} : At s i (b :: l) ↔ (i < s.size ∧ s.get! i = b) ∧ At s (i + 1) l := by
 rw [show b :: l = [b] ++ l from rfl, At.append]
 constructor
 ·rintro ⟨h1, h2⟩
  exact ⟨by simpa using h1 0 (by simp), h2⟩
 ·rintro ⟨h1, h2⟩
  refine ⟨fun k hk => ?_, h2⟩
  have : k = 0 := by simp at hk; omega
  subst this
  simpa using h1
theorem At.one {s : ByteArray} {i : Nat} {b : UInt8} : At s i [b] ↔ (i < s.size ∧ s.get! i = b) := by
 rw [At.cons]
 exact ⟨fun h => h.1, fun h => ⟨h, fun k hk => by simp at hk⟩⟩
theorem At.le {s : ByteArray} {i : Nat} {l : List UInt8} (h : At s i l) (hi : i ≤ s.size) : i + l.length ≤ s.size := by
 rcases Nat.eq_zero_or_pos l.length with h0 | h0
 ·omega
 ·have := (h (l.length - 1) (by omega)).1; omega
theorem at_extract {s : ByteArray} {i : Nat} {x : ByteArray} (h : At s i x.data.toList) (hi : i ≤ s.size) : s.extract i (i + x.data.toList.length) = x := by
 have hle := h.le hi
 have hsz : s.data.size = s.size := rfl
 have e : (s.extract i (i + x.data.toList.length)).data.toList = x.data.toList := by
  apply List.ext_getElem
  ·rw [Array.length_toList]
   show (s.extract i (i + x.data.toList.length)).size = _
   rw [ByteArray.size_extract]
   omega
  ·intro n h1 h2
   have h3 := (h n h2).2
   have h4 := (h n h2).1
   have e2 : (s.extract i (i + x.data.toList.length)).data.toList[n]? = some (s.get! (i + n)) := by
    rw [ByteArray.data_extract, Array.getElem?_toList, Array.getElem?_extract, if_pos (by omega), get_bangA]
    rw [Array.getElem?_eq_getElem (by omega)]
    rfl
   rw [List.getElem?_eq_getElem h1] at e2
   rw [Option.some.inj e2, h3]
 have e3 : (s.extract i (i + x.data.toList.length)).data = x.data := Array.toList_inj.1 e
 cases hx : s.extract i (i + x.data.toList.length) with
 | mk d => rw [hx] at e3; cases x; simp only at e3; rw [e3]

end Go.Proofs.YtgmmfpdekefamaaGreatDoor

namespace Go.Proofs.YtgmmfpdekefamaaGreatDoor
open Go.RowKit
set_option linter.unusedVariables false
set_option maxRecDepth 100000

end Go.Proofs.YtgmmfpdekefamaaGreatDoor

namespace Go.Proofs.YtgmmfpdekefamaaGreatDoor
open Go.RowKit
set_option linter.unusedVariables false
set_option maxRecDepth 100000

end Go.Proofs.YtgmmfpdekefamaaGreatDoor
