/- Texts of the proof, put together: WBld, WBldS. -/
import Derived.Test.YthbglakncijahaaGreatDoorProg
import Derived.Lib.Builder
import Derived.Lib.AppendStr
import Derived.Lib.OthersKept
import Derived.Lib.OwnKind
import Derived.Lib.UnsafeStr
import Derived.WalkKit
import Derived.WalkSpells
import Derived.WalkLawsBesides
import Derived.Below
namespace Go.Proofs.YthbglakncijahaaGreatDoor
open Go.RowKit
set_option linter.unusedVariables false
set_option maxRecDepth 100000

/-- a type at whose head a builder lies -/
def TK (T : TypeId) (n : Nat) : Prop := liesAt Tryz.prog Tryz.prog.depth T ((n + 2) / Tryz.prog.cellsOf T) 0 173 1 = true ∧ T ≠ 5
theorem tk_builder : TK 173 0 := ⟨by kernel_rfl, by decide⟩
/-- a builder that holds bytes -/
def Bld (B b : Nat) (T : TypeId) (rest : List Value) (bs : List Value) (w : World) : Prop :=
  B ≤ b ∧ TK T rest.length ∧ ∃ p v, w.heap[b]? = some (.cells (p :: v :: rest).toArray T (0, 0)) ∧ (p = .pointer none ∨ p = .pointer (some ⟨b, 0, none⟩)) ∧ w.ownsRow B 5 1 v bs.length bs ∧ v.ownBlock ≠ some b
/-- what else is as it was -/
def BFr (B b : Nat) (w w' : World) : Prop := Below B w w' ∧ Lib.OthersKept 5 (some b) w w'
theorem BFr.refl (B b : Nat) (w : World) : BFr B b w w := ⟨Below.refl _ _, Lib.OthersKept.refl _ _ _⟩
theorem BFr.trans {B b : Nat} {a c d : World} (h : BFr B b a c) (k : BFr B b c d) : BFr B b a d := ⟨h.1.trans k.1, h.2.trans k.2⟩
theorem Bld.lt {B b : Nat} {T : TypeId} {rest bs : List Value} {w : World} (h : Bld B b T rest bs w) : b < w.heap.size := by
  obtain ⟨_, _, p, v, hb, _⟩ := h
  exact (Array.getElem?_eq_some_iff.1 hb).1
theorem bld_new {B b : Nat} {T : TypeId} {rest : List Value} {w : World} (hB : B ≤ b) (hT : TK T rest.length) (h : w.heap[b]? = some (.cells (.pointer none :: .slice none 0 0 :: rest).toArray T (0, 0))) : Bld B b T rest [] w :=
  ⟨hB, hT, _, _, h, .inl rfl, World.ownsRow_nil _ _ _ _, by simp [Value.ownBlock]⟩

theorem Tryz.builderSize : (Tryz.prog.info? 173).map (·.size) = some 2 := by kernel_rfl
theorem Tryz.infoByte : (Tryz.prog.info? 5).map (fun i => (i.zero, i.size, i.bytes)) = some (some (.int .u8 0), 1, 1) := by kernel_rfl

set_option maxHeartbeats 2000000 in
theorem ccheck_fresh (b n : Nat) (T : TypeId) (hT : TK T n) (w : World) (h0 : w.cell? ⟨b, 0, none⟩ = some (.pointer none)) (hsh : w.shape? b = some (T, n + 2)) (hfz : w.frozen? ⟨b, 0, none⟩ = false) :
    Calls Tryz.prog 155 #[.pointer (some ⟨b, 0, none⟩)] w fun e w' => e = .returned (.tuple #[]) ∧ w' = w.setCell ⟨b, 0, none⟩ (.pointer (some ⟨b, 0, none⟩)) := by
  obtain ⟨j, hj, hjs⟩ := Option.map_eq_some_iff.1 Tryz.builderSize
  go_enter Tryz.func155, Tryz.ntmps155
  go_wp2
  rw [Lib.run_to_unsafe w ⟨b, 0, none⟩ Tryz.underlying171 Tryz.underlying180 hj (by rw [hjs]; decide) hsh (Nat.zero_lt_succ _)]
  simp only [Result.andThen]
  rw [Oper.upon_value]
  go_wp2
  rw [run_callFunc_extern Tryz.func177 (by kernel_rfl) (by kernel_rfl) (by kernel_rfl) (e := Extern.AbiNoEscape.same) (by kernel_rfl)]
  rw [Lib.run_noEscape]
  simp only [Result.andThen]
  rw [Oper.upon_value]
  go_wp2
  rw [Lib.run_from_unsafe w ⟨b, 0, none⟩ Tryz.underlying180 Tryz.underlying171 hj hsh hT.1]
  simp only [Result.andThen]
  rw [Oper.upon_value]
  go_wp2
  go_end0
  exact ⟨rfl, rfl⟩

set_option maxHeartbeats 2000000 in
theorem ccheck_used (b : Nat) (w : World) (h0 : w.cell? ⟨b, 0, none⟩ = some (.pointer (some ⟨b, 0, none⟩))) :
    Calls Tryz.prog 155 #[.pointer (some ⟨b, 0, none⟩)] w fun e w' => e = .returned (.tuple #[]) ∧ w' = w := by
  obtain ⟨j, hj, _⟩ := Option.map_eq_some_iff.1 Tryz.builderSize
  go_enter Tryz.func155, Tryz.ntmps155
  go_wp2
  rw [Lib.run_neq_ptr_same w _ Tryz.underlying171 hj]
  go_wp2
  go_end0
  exact ⟨rfl, rfl⟩

/-- a builder that was written to -/
def BldU (B b : Nat) (T : TypeId) (rest : List Value) (bs : List Value) (w : World) : Prop :=
  B ≤ b ∧ TK T rest.length ∧ ∃ v, w.heap[b]? = some (.cells (.pointer (some ⟨b, 0, none⟩) :: v :: rest).toArray T (0, 0)) ∧ w.ownsRow B 5 1 v bs.length bs ∧ v.ownBlock ≠ some b
theorem BldU.bld {B b : Nat} {T : TypeId} {rest bs : List Value} {w : World} (h : BldU B b T rest bs w) : Bld B b T rest bs w := by
  obtain ⟨h1, h2, v, h3, h4, h5⟩ := h
  exact ⟨h1, h2, _, v, h3, .inr rfl, h4, h5⟩
theorem ccheck_any {B b : Nat} {T : TypeId} {rest bs : List Value} {w : World} (h : Bld B b T rest bs w) :
    Calls Tryz.prog 155 #[.pointer (some ⟨b, 0, none⟩)] w fun e w' => e = .returned (.tuple #[]) ∧ BldU B b T rest bs w' ∧ BFr B b w w' ∧ w'.heap.size = w.heap.size := by
  obtain ⟨hB, hT, p, v, hb, hp, hown, hne⟩ := h
  have c0 : w.cell? ⟨b, 0, none⟩ = some p := by rw [Lib.cell_of_heap hb]; simp
  rcases hp with rfl | rfl
  · refine (ccheck_fresh b rest.length T hT w c0 (by simp [World.shape?, hb]) (by simp [World.frozen?, hb])).mono ?_
    rintro e w' ⟨rfl, rfl⟩
    refine ⟨rfl, ⟨hB, hT, v, ?_, ?_, hne⟩, ⟨(Below.refl B w).setCell (p := ⟨b, 0, none⟩) hB _, (Lib.OthersKept.refl _ _ w).setCell ⟨b, 0, none⟩ rfl _⟩, by simp [World.setCell]⟩
    · simp [World.setCell, Array.getElem?_modify, hb]
    · exact hown.kept (row := some b) ⟨rfl, rfl, rfl, by simp [World.setCell], fun k _ hk => Below.heap_setCell _ _ _ _ (fun e => hk (by simp [e]))⟩ (Or.inr hne)
  · refine (ccheck_used b w c0).mono ?_
    rintro e w' ⟨rfl, rfl⟩
    exact ⟨rfl, ⟨hB, hT, v, hb, hown, hne⟩, BFr.refl _ _ _, rfl⟩

/-- the buffer is another one -/
theorem bld_put {B b : Nat} {T : TypeId} {rest bs bs' : List Value} {w1 w2 : World} {p v v' : Value} (hB : B ≤ b) (hT : TK T rest.length) (hb : w1.heap[b]? = some (.cells (.pointer (some ⟨b, 0, none⟩) :: v :: rest).toArray T (0, 0))) (hown : w1.ownsRow B 5 1 v bs.length bs) (hne : v.ownBlock ≠ some b)
    (hg : w1.grownBy w2 v.ownBlock) (hown' : w2.ownsRow B 5 1 v' bs'.length bs') : BldU B b T rest bs' (w2.setCell ⟨b, 1, none⟩ v') ∧ BFr B b w1 (w2.setCell ⟨b, 1, none⟩ v') := by
  have hlt := (Array.getElem?_eq_some_iff.1 hb).1
  have hb2 : w2.heap[b]? = some (.cells (.pointer (some ⟨b, 0, none⟩) :: v :: rest).toArray T (0, 0)) := (hg.block b hlt (fun e => hne e.symm)).trans hb
  have hne' := Lib.ownBlock_ne hown' hb2 hT.2
  refine ⟨⟨hB, hT, v', ?_, ?_, hne'⟩, ?_, ?_⟩
  · simp [World.setCell, Array.getElem?_modify, hb2]
  · exact hown'.kept (row := some b) ⟨rfl, rfl, rfl, by simp [World.setCell], fun k _ hk => Below.heap_setCell _ _ _ _ (fun e => hk (by simp [e]))⟩ (Or.inr hne')
  · exact ((Below.refl B w1).grown hg (by omega) (fun k hk => (World.ownsRow.lt hown k hk).1)).setCell (p := ⟨b, 1, none⟩) hB _
  · exact ((Lib.OthersKept.refl _ _ w1).grown hg (Lib.ownsRow_kind hown)).setCell ⟨b, 1, none⟩ rfl _

theorem bown_slice {w : World} {B : Nat} {v : Value} {bs : List Value} (h : w.ownsRow B 5 1 v bs.length bs) : ∃ ao cap, v = .slice ao bs.length cap := by
  rcases h.2 with ⟨hv, h0⟩ | ⟨g, cap, cur, hv, _⟩
  · exact ⟨none, 0, by rw [hv, h0]⟩
  · exact ⟨_, _, hv⟩

set_option maxHeartbeats 2000000 in
theorem wbyte_any {B b : Nat} {T : TypeId} {rest bs : List Value} {w : World} (c : Int) (h : Bld B b T rest bs w) (hlen : bs.length ≤ 1000000) (hBw : B ≤ w.heap.size) :
    Calls Tryz.prog 158 #[.pointer (some ⟨b, 0, none⟩), .int .u8 c] w fun e w' => e = .returned .nilIface ∧ BldU B b T rest (bs ++ [.int .u8 c]) w' ∧ BFr B b w w' := by
  obtain ⟨i0, hi, hz0, hz1, hz2⟩ := info_parts Tryz.infoByte
  have HC : Hid (Calls Tryz.prog 155 #[.pointer (some ⟨b, 0, none⟩)] w fun e w' => e = .returned (.tuple #[]) ∧ BldU B b T rest bs w' ∧ BFr B b w w' ∧ w'.heap.size = w.heap.size) := ccheck_any h
  clear h
  go_enter Tryz.func158, Tryz.ntmps158
  go_wp2_with fail
  go_at_call 155
  refine HC.out.mono ?_
  rintro e w1 ⟨rfl, h1, hf1, hs1⟩
  have hB1 : B ≤ w1.heap.size := by omega
  clear hs1
  obtain ⟨hB, hT, v, hb, hown, hne⟩ := h1
  have hlt := (Array.getElem?_eq_some_iff.1 hb).1
  have c1 : w1.cell? ⟨b, 1, none⟩ = some v := by rw [Lib.cell_of_heap hb]; simp
  obtain ⟨ao, cap, rfl⟩ := bown_slice hown
  have HP : Hid (∀ w2 v', (w1.alloc (.cells #[.int .u8 c] 5)).grownBy w2 (Value.slice ao bs.length cap).ownBlock → w2.ownsRow B 5 1 v' (bs ++ [Value.int .u8 c]).length (bs ++ [Value.int .u8 c]) → (w2.frozen? ⟨b, 1, none⟩ = false ∧ ∃ x, w2.cell? ⟨b, 1, none⟩ = some x) ∧ BldU B b T rest (bs ++ [.int .u8 c]) (w2.setCell ⟨b, 1, none⟩ v') ∧ BFr B b w (w2.setCell ⟨b, 1, none⟩ v')) := fun w2 v' hg hown' => by
    have hba : (w1.alloc (.cells #[.int .u8 c] 5)).heap[b]? = some (.cells (.pointer (some ⟨b, 0, none⟩) :: Value.slice ao bs.length cap :: rest).toArray T (0, 0)) := (Lib.alloc_old w1 _ b hlt).trans hb
    have hq := bld_put (p := .nilIface) hB hT hba (hown.alloc _) hne hg hown'
    have hb2 := (hg.block b (by simp; omega) (fun e => hne e.symm)).trans hba
    refine ⟨⟨by simp [World.frozen?, hb2], Value.slice ao bs.length cap, by rw [Lib.cell_of_heap hb2]; simp⟩, hq.1, ?_⟩
    have h0 : BFr B b w1 (w1.alloc (.cells #[.int .u8 c] 5)) := ⟨(Below.refl B w1).alloc (by omega) _, (Lib.OthersKept.refl _ _ w1).alloc _⟩
    exact hf1.trans (h0.trans hq.2)
  have hown1 := hown.alloc (o := .cells #[.int .u8 c] 5)
  clear hown hb HC hf1
  go_wp2_with (at_builtin; refine wpList_append_own _ rfl _ _ 141 rfl B 5 i0 (.int .u8 0) 1 1 Tryz.underlying141 hi hz0 hz1 hz2 rfl (by decide) _ _ _ rfl hown1 ⟨w1.heap.size, 0, none⟩ 1 1 [.int .u8 c] rfl rfl ?c1 ?c2 ?c3 ?c4 ?c5 ?_)
  case c1 =>
    intro j u hj
    match j, hj with
    | 0, hj => simp at hj; subst hj; simp [Addr.add]
  case c2 => intro u hu; simp at hu; subst hu; rfl
  case c3 => unfold maxLen; omega
  case c4 => omega
  case c5 => simp; omega
  intro v' w2 hown' hgrow _
  obtain ⟨⟨f1, x, d1⟩, hq1, hq2⟩ := HP.out w2 v' hgrow (by simpa using hown')
  have HQ : Hid (BldU B b T rest (bs ++ [.int .u8 c]) (w2.setCell ⟨b, 1, none⟩ v') ∧ BFr B b w (w2.setCell ⟨b, 1, none⟩ v')) := ⟨hq1, hq2⟩
  obtain ⟨ao', n', cap', rfl⟩ : ∃ ao n' cap, v' = .slice ao n' cap := by
    rcases hown'.2 with ⟨hv, _⟩ | ⟨g, cap, cur, hv, _⟩
    · exact ⟨_, _, _, hv⟩
    · exact ⟨_, _, _, hv⟩
  clear hq1 hq2 HP hown' hgrow hown1
  go_wp2
  go_ret
  exact ⟨rfl, HQ.out.1, HQ.out.2⟩

set_option maxHeartbeats 2000000 in
theorem wstr_any {B b : Nat} {T : TypeId} {rest bs : List Value} {w : World} (s : ByteArray) (h : Bld B b T rest bs w) (hlen : bs.length + s.size ≤ 1000000) (hBw : B ≤ w.heap.size) :
    Calls Tryz.prog 97 #[.pointer (some ⟨b, 0, none⟩), .string s] w fun e w' => (∃ n : Int, e = .returned (.tuple #[.int .i64 n, .nilIface])) ∧ BldU B b T rest (bs ++ Lib.strCells s) w' ∧ BFr B b w w' := by
  obtain ⟨i0, hi, hz0, hz1, hz2⟩ := info_parts Tryz.infoByte
  have HC : Hid (Calls Tryz.prog 155 #[.pointer (some ⟨b, 0, none⟩)] w fun e w' => e = .returned (.tuple #[]) ∧ BldU B b T rest bs w' ∧ BFr B b w w' ∧ w'.heap.size = w.heap.size) := ccheck_any h
  clear h
  go_enter Tryz.func97, Tryz.ntmps97
  go_wp2_with fail
  go_at_call 155
  refine HC.out.mono ?_
  rintro e w1 ⟨rfl, h1, hf1, hs1⟩
  have hB1 : B ≤ w1.heap.size := by omega
  clear hs1
  obtain ⟨hB, hT, v, hb, hown, hne⟩ := h1
  have hlt := (Array.getElem?_eq_some_iff.1 hb).1
  have c1 : w1.cell? ⟨b, 1, none⟩ = some v := by rw [Lib.cell_of_heap hb]; simp
  obtain ⟨ao, cap, rfl⟩ := bown_slice hown
  have HP : Hid (∀ w2 v', w1.grownBy w2 (Value.slice ao bs.length cap).ownBlock → w2.ownsRow B 5 1 v' (bs ++ Lib.strCells s).length (bs ++ Lib.strCells s) → (w2.frozen? ⟨b, 1, none⟩ = false ∧ ∃ x, w2.cell? ⟨b, 1, none⟩ = some x) ∧ BldU B b T rest (bs ++ Lib.strCells s) (w2.setCell ⟨b, 1, none⟩ v') ∧ BFr B b w (w2.setCell ⟨b, 1, none⟩ v')) := fun w2 v' hg hown' => by
    have hq := bld_put (p := .nilIface) hB hT hb hown hne hg hown'
    have hb2 := (hg.block b hlt (fun e => hne e.symm)).trans hb
    exact ⟨⟨by simp [World.frozen?, hb2], Value.slice ao bs.length cap, by rw [Lib.cell_of_heap hb2]; simp⟩, hq.1, hf1.trans hq.2⟩
  clear hb HC hf1
  go_wp2_with (at_builtin; refine Lib.wpList_append_own_string _ rfl _ _ 141 9 rfl B 5 i0 Tryz.underlying141 Tryz.underlying9 hi hz0 hz1 hz2 _ _ _ rfl hown s rfl ?c3 ?c4 ?c5 ?_)
  case c3 => unfold maxLen; omega
  case c4 => omega
  case c5 => omega
  intro v' w2 hown' hgrow _
  obtain ⟨⟨f1, x, d1⟩, hq1, hq2⟩ := HP.out w2 v' hgrow (by simpa [Lib.strCells_length] using hown')
  have HQ : Hid (BldU B b T rest (bs ++ Lib.strCells s) (w2.setCell ⟨b, 1, none⟩ v') ∧ BFr B b w (w2.setCell ⟨b, 1, none⟩ v')) := ⟨hq1, hq2⟩
  obtain ⟨ao', n', cap', rfl⟩ : ∃ ao n' cap, v' = .slice ao n' cap := by
    rcases hown'.2 with ⟨hv, _⟩ | ⟨g, cap, cur, hv, _⟩
    · exact ⟨_, _, _, hv⟩
    · exact ⟨_, _, _, hv⟩
  clear hq1 hq2 HP hown' hgrow hown
  go_wp2
  go_ret2
  exact ⟨⟨_, rfl⟩, HQ.out.1, HQ.out.2⟩

end Go.Proofs.YthbglakncijahaaGreatDoor

namespace Go.Proofs.YthbglakncijahaaGreatDoor
open Go.RowKit
set_option linter.unusedVariables false
set_option maxRecDepth 100000

theorem Tryz.cellsByte : Tryz.prog.cellsOf 5 = 1 := by kernel_rfl
set_option maxHeartbeats 2000000 in
theorem bstr_some {B b : Nat} {T : TypeId} {rest : List Value} {w : World} (l : List UInt8) (h : Bld B b T rest (Lib.byteCells l) w) (h0 : l ≠ []) :
    Calls Tryz.prog 98 #[.pointer (some ⟨b, 0, none⟩)] w fun e w' => e = .returned (.string ⟨l.toArray⟩) ∧ Below B w w' := by
  obtain ⟨hB, hT, p, v, hbk, hp, hown, hne⟩ := h
  have hl0 : l.length ≠ 0 := by simpa using h0
  rw [Lib.byteCells_length] at hown
  obtain ⟨g, cap, cur, rfl, hbg, hg, hnc, hcm, hcs, htake⟩ : ∃ g cap cur, v = .slice (some ⟨g, 0, none⟩) l.length cap ∧ B ≤ g ∧ w.heap[g]? = some (.cells cur 5 (0, 0)) ∧ l.length ≤ cap ∧ cap ≤ maxLen ∧ cur.size = cap * 1 ∧ cur.toList.take (l.length * 1) = Lib.byteCells l := by
    rcases hown.2 with ⟨_, hz⟩ | ⟨g, cap, cur, hv, r⟩
    · exact absurd hz hl0
    · exact ⟨g, cap, cur, hv, r⟩
  have c1 : w.drew.cell? ⟨b, 1, none⟩ = some (.slice (some ⟨g, 0, none⟩) l.length cap) := by
    have : w.drew.heap[b]? = some (.cells (p :: .slice (some ⟨g, 0, none⟩) l.length cap :: rest).toArray T (0, 0)) := hbk
    rw [Lib.cell_of_heap this]; simp
  have hSD : (Builtin.unsafeSliceData_ #[141] 231 #[.slice (some ⟨g, 0, none⟩) l.length cap]).run Tryz.prog w.drew = .ok (.pointer (some ⟨g, 0, none⟩)) w.drew :=
    Lib.run_unsafeSliceData_row _ _ _ _ _ _ (by omega)
  have hUS : (Builtin.unsafeString_ #[231, 3] 9 #[.pointer (some ⟨g, 0, none⟩), .int .i64 l.length]).run Tryz.prog w.drew = .ok (.string ⟨l.toArray⟩) (w.drew.freeze ⟨g, 0, none⟩ l.length) := by
    refine Lib.run_unsafeString_row w.drew 231 3 9 5 Tryz.underlying231 Tryz.cellsByte g cur.size (by have hg' : w.drew.heap[g]? = some (.cells cur 5 (0, 0)) := hg; simp [World.shape?, hg']) l h0 (by omega) (by unfold maxLen at hcm; omega) ?_
    intro j x hx
    have := hown.cells (g := g) rfl j (.int .u8 x.toNat) (by simp [Lib.byteCells, hx])
    exact this
  clear hown htake hg hcs hbk hp
  go_enter Tryz.func98, Tryz.ntmps98
  go_wp2
  go_region
  all_goals (go_wp2; go_ret; exact ⟨rfl, Lib.below_freeze (Below.drew (Below.refl B w)) (p := ⟨g, 0, none⟩) hbg _⟩)

theorem bstr_us (W : World) (q : Option Addr) : (Builtin.unsafeString_ #[231, 3] 9 #[.pointer q, .int .i64 0]).run Tryz.prog W = .ok (.string .empty) W := Lib.run_unsafeString_none W _ _ _ q
set_option maxHeartbeats 2000000 in
theorem bstr_none {B b : Nat} {T : TypeId} {rest : List Value} {w : World} (h : Bld B b T rest [] w) (hBw : B ≤ w.heap.size) :
    Calls Tryz.prog 98 #[.pointer (some ⟨b, 0, none⟩)] w fun e w' => e = .returned (.string ⟨#[]⟩) ∧ Below B w w' := by
  have hlt := h.lt
  obtain ⟨hB, hT, p, v, hbk, hp, hown, hne⟩ := h
  have hUS := bstr_us
  rcases hown.2 with ⟨rfl, _⟩ | ⟨g, cap, cur, rfl, hbg, hg, _, _, _, _⟩
  · have c1 : w.drew.cell? ⟨b, 1, none⟩ = some (.slice none 0 0) := by
      have : w.drew.heap[b]? = some (.cells (p :: .slice none 0 0 :: rest).toArray T (0, 0)) := hbk
      rw [Lib.cell_of_heap this]; simp
    have hSD : (Builtin.unsafeSliceData_ #[141] 231 #[.slice none 0 0]).run Tryz.prog w.drew = .ok (.pointer none) w.drew := rfl
    clear hown hbk hp
    go_enter Tryz.func98, Tryz.ntmps98
    go_wp2
    go_region
    all_goals (go_wp2; go_ret; exact ⟨rfl, Below.drew (Below.refl B w)⟩)
  · by_cases hc0 : cap = 0
    · subst hc0
      have c1 : w.drew.cell? ⟨b, 1, none⟩ = some (.slice (some ⟨g, 0, none⟩) 0 0) := by
        have : w.drew.heap[b]? = some (.cells (p :: .slice (some ⟨g, 0, none⟩) 0 0 :: rest).toArray T (0, 0)) := hbk
        rw [Lib.cell_of_heap this]; simp
      have hSD : (Builtin.unsafeSliceData_ #[141] 231 #[.slice (some ⟨g, 0, none⟩) 0 0]).run Tryz.prog w.drew = .ok (.pointer (some ⟨w.drew.heap.size, 0, none⟩)) (w.drew.alloc (.view ⟨g, 0, none⟩ 5)) :=
        Lib.run_unsafeSliceData_zero w.drew _ _ 5 Tryz.underlying231 ⟨g, 0, none⟩ 0 (5, cur.size) (by have hg' : w.drew.heap[g]? = some (.cells cur 5 (0, 0)) := hg; simp [World.shape?, hg'])
      have c2 : (w.drew.alloc (.view ⟨g, 0, none⟩ 5)).cell? ⟨b, 1, none⟩ = some (.slice (some ⟨g, 0, none⟩) 0 0) := by
        have : (w.drew.alloc (.view ⟨g, 0, none⟩ 5)).heap[b]? = _ := (Lib.alloc_old w.drew _ b hlt).trans hbk
        rw [Lib.cell_of_heap this]; simp
      have c3 : (w.alloc (.view ⟨g, 0, none⟩ 5)).drew.cell? ⟨b, 1, none⟩ = some (.slice (some ⟨g, 0, none⟩) 0 0) := c2
      have c0 : w.cell? ⟨b, 1, none⟩ = some (.slice (some ⟨g, 0, none⟩) 0 0) := c1
      clear hown hbk hp hg
      go_enter Tryz.func98, Tryz.ntmps98
      go_wp2
      go_region
      all_goals (go_wp2; go_ret; exact ⟨rfl, (Below.drew (Below.refl B w)).alloc hBw _⟩)
    · have c1 : w.drew.cell? ⟨b, 1, none⟩ = some (.slice (some ⟨g, 0, none⟩) 0 cap) := by
        have : w.drew.heap[b]? = some (.cells (p :: .slice (some ⟨g, 0, none⟩) 0 cap :: rest).toArray T (0, 0)) := hbk
        rw [Lib.cell_of_heap this]; simp
      have hSD : (Builtin.unsafeSliceData_ #[141] 231 #[.slice (some ⟨g, 0, none⟩) 0 cap]).run Tryz.prog w.drew = .ok (.pointer (some ⟨g, 0, none⟩)) w.drew :=
        Lib.run_unsafeSliceData_row _ _ _ _ _ _ hc0
      clear hc0 hown hbk hp hg
      go_enter Tryz.func98, Tryz.ntmps98
      go_wp2
      go_region
      all_goals (go_wp2; go_ret; exact ⟨rfl, Below.drew (Below.refl B w)⟩)
theorem bstr_any {B b : Nat} {T : TypeId} {rest : List Value} {w : World} (l : List UInt8) (h : Bld B b T rest (Lib.byteCells l) w) (hBw : B ≤ w.heap.size) :
    Calls Tryz.prog 98 #[.pointer (some ⟨b, 0, none⟩)] w fun e w' => e = .returned (.string ⟨l.toArray⟩) ∧ Below B w w' := by
  cases l with
  | nil => exact bstr_none h hBw
  | cons x r => exact bstr_some (x :: r) h (by simp)

end Go.Proofs.YthbglakncijahaaGreatDoor
