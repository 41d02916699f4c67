/- Texts of the proof, put together: WTim, WBld, WBldS, WSgn. -/
import Derived.Test.YtbjohedenfindaaGreatDoorPb35
import Derived.Test.YtbjohedenfindaaGreatDoorPb37
import Derived.Test.YtbjohedenfindaaGreatDoorProg
import Derived.Lib.Builder
import Derived.Lib.AppendStr
import Derived.Lib.OthersKept
import Derived.Lib.OwnKind
import Derived.Lib.UnsafeStr
import Derived.WalkKit
import Derived.WalkSpells
import Derived.WalkLawsBesides
import Derived.Below
import Derived.Test.YtbjohedenfindaaGreatDoorPb24
import Derived.Test.YtbjohedenfindaaGreatDoorPb09
import Derived.Maps.RangeWalk
namespace Go.Proofs.YtbjohedenfindaaGreatDoor
open Go.RowKit
set_option linter.unusedVariables false
set_option maxRecDepth 100000

theorem bytesB_append (a b : List Nat) : bytesB a ++ bytesB b = bytesB (a ++ b) := by
  apply ByteArray.ext
  rw [ByteArray.data_append]
  simp [bytesB]
theorem bytesB_eq (l : List Nat) : (⟨(l.map Nat.toUInt8).toArray⟩ : ByteArray) = bytesB l := rfl

set_option maxHeartbeats 4000000 in
theorem wtimes_any {a b : Int} (hok : TimesOk a b) (w : World) : Calls Tryz.prog 60 #[.int .i64 a, .int .i64 b] w fun e w' => e = .returned (.string (bytesB (timesB a b))) ∧ w' = w := by
  obtain ⟨h0, h1, h2⟩ := hok
  have hTa : (bytesB (decB a.toNat)).size ≤ 2 := by rw [bytesB_size]; unfold decB; split <;> simp
  have hTb : (bytesB (decB b.toNat)).size ≤ 2 := by rw [bytesB_size]; unfold decB; split <;> simp
  have HA : Hid (∀ w', Calls Tryz.prog 91 #[.int .i64 a] w' fun e w'' => e = .returned (.string (bytesB (decB a.toNat))) ∧ w'' = w') := fun w' => by
    have := itoa_any a.toNat (by omega) w'
    rw [Int.toNat_of_nonneg h0] at this
    exact this
  have HBb : Hid (0 ≤ b → ∀ w', Calls Tryz.prog 91 #[.int .i64 b] w' fun e w'' => e = .returned (.string (bytesB (decB b.toNat))) ∧ w'' = w') := fun hb w' => by
    have := itoa_any b.toNat (by omega) w'
    rw [Int.toNat_of_nonneg hb] at this
    exact this
  by_cases e1 : a = 0 ∧ b = -1
  · obtain ⟨rfl, rfl⟩ := e1
    go_enter Tryz.func60, Tryz.ntmps60
    go_wp2
    go_ret
    exact ⟨rfl, rfl⟩
  · by_cases e2 : a = 1 ∧ b = -1
    · obtain ⟨rfl, rfl⟩ := e2
      go_enter Tryz.func60, Tryz.ntmps60
      go_wp2
      go_ret
      exact ⟨rfl, rfl⟩
    · by_cases e3 : a = 0 ∧ b = 1
      · obtain ⟨rfl, rfl⟩ := e3
        go_enter Tryz.func60, Tryz.ntmps60
        go_wp2
        go_ret
        exact ⟨rfl, rfl⟩
      · have ht : timesB a b = if b = -1 then 123 :: (decB a.toNat ++ [44, 125]) else if a = b then 123 :: (decB a.toNat ++ [125]) else 123 :: (decB a.toNat ++ 44 :: (decB b.toNat ++ [125])) := by
          unfold timesB; rw [if_neg e1, if_neg e2, if_neg e3]
        rw [ht]
        by_cases e4 : b = -1
        · subst e4
          have na0 : (a == 0) = false := by rw [beq_eq_false_iff_ne]; omega
          have na1 : (a == 1) = false := by rw [beq_eq_false_iff_ne]; omega
          rw [if_pos rfl]
          clear ht e1 e2 e3 HBb
          have HE : Hid (bytesB (123 :: (decB a.toNat ++ [44, 125])) = (bytesB [123] ++ bytesB (decB a.toNat)) ++ bytesB [44, 125]) := by show _ = _; rw [bytesB_append, bytesB_append]; simp
          generalize bytesB (decB a.toNat) = T at *
          generalize bytesB (123 :: (decB a.toNat ++ [44, 125])) = U at *
          go_enter Tryz.func60, Tryz.ntmps60
          go_wp2_with (go_at_call 91; refine (HA.out _).mono ?_; rintro e w' ⟨rfl, rfl⟩)
          go_ret
          exact ⟨by rw [HE.out]; rfl, rfl⟩
        · have nb : (b == -1) = false := by rw [beq_eq_false_iff_ne]; exact e4
          rw [if_neg e4]
          have hb0 : 0 ≤ b := by omega
          have HB2 : Hid (∀ w', Calls Tryz.prog 91 #[.int .i64 b] w' fun e w'' => e = .returned (.string (bytesB (decB b.toNat))) ∧ w'' = w') := HBb.out hb0
          by_cases e5 : a = b
          · subst e5
            rw [if_pos rfl]
            have na : (a == 0) = false := by rw [beq_eq_false_iff_ne]; omega
            clear ht e1 e2 e3 HBb HB2 e4
            have HE : Hid (bytesB (123 :: (decB a.toNat ++ [125])) = (bytesB [123] ++ bytesB (decB a.toNat)) ++ bytesB [125]) := by show _ = _; rw [bytesB_append, bytesB_append]; simp
            generalize bytesB (decB a.toNat) = T at *
            generalize bytesB (123 :: (decB a.toNat ++ [125])) = U at *
            have hc : a = 1 ∨ (a == 1) = false := by
              by_cases h : a = 1
              · exact .inl h
              · right; rw [beq_eq_false_iff_ne]; exact h
            rcases hc with rfl | na1
            all_goals
              go_enter Tryz.func60, Tryz.ntmps60
              go_wp2_with (go_at_call 91; refine (HA.out _).mono ?_; rintro e w' ⟨rfl, rfl⟩)
              go_ret
              exact ⟨by rw [HE.out]; rfl, rfl⟩
          · rw [if_neg e5]
            have nab : (a == b) = false := by rw [beq_eq_false_iff_ne]; exact e5
            have n01 : (a = 0 ∧ (b == 1) = false) ∨ a = 1 ∨ ((a == 0) = false ∧ (a == 1) = false) := by
              by_cases h : a = 0
              · left; exact ⟨h, by rw [beq_eq_false_iff_ne]; exact fun e => e3 ⟨h, e⟩⟩
              · by_cases h' : a = 1
                · exact .inr (.inl h')
                · right; right; exact ⟨by rw [beq_eq_false_iff_ne]; exact h, by rw [beq_eq_false_iff_ne]; exact h'⟩
            have HE : Hid (bytesB (123 :: (decB a.toNat ++ 44 :: (decB b.toNat ++ [125]))) = (((bytesB [123] ++ bytesB (decB a.toNat)) ++ bytesB [44]) ++ bytesB (decB b.toNat)) ++ bytesB [125]) := by show _ = _; simp only [bytesB_append]; simp
            clear ht e1 e2 e3 HBb e4 e5
            generalize bytesB (123 :: (decB a.toNat ++ 44 :: (decB b.toNat ++ [125]))) = U at *
            generalize bytesB (decB a.toNat) = T at *
            generalize bytesB (decB b.toNat) = V at *
            rcases n01 with ⟨rfl, n01⟩ | rfl | ⟨n0, n1⟩
            all_goals
              go_enter Tryz.func60, Tryz.ntmps60
              go_wp2_with fail
              go_at_call 91
              refine (HA.out _).mono ?_
              rintro e w' ⟨rfl, rfl⟩
              go_wp2_with fail
              go_at_call 91
              refine (HB2.out _).mono ?_
              rintro e w' ⟨rfl, rfl⟩
              go_wp2
              go_ret
              exact ⟨by rw [HE.out]; rfl, rfl⟩

end Go.Proofs.YtbjohedenfindaaGreatDoor

namespace Go.Proofs.YtbjohedenfindaaGreatDoor
open Go.RowKit
set_option linter.unusedVariables false
set_option maxRecDepth 100000

/-- a type at whose head a builder lies -/
def TK (T : TypeId) (n : Nat) : Prop := liesAt Tryz.prog Tryz.prog.depth T ((n + 2) / Tryz.prog.cellsOf T) 0 70 1 = true ∧ T ≠ 5
theorem tk_builder : TK 70 0 := ⟨by kernel_rfl, by decide⟩
theorem tk_writer : TK 73 1 := ⟨by kernel_rfl, by decide⟩
/-- a builder that holds bytes -/
def Bld (B b : Nat) (T : TypeId) (rest : List Value) (bs : List Value) (w : World) : Prop :=
  B ≤ b ∧ TK T rest.length ∧ ∃ p v, w.heap[b]? = some (.cells (p :: v :: rest).toArray T (0, 0)) ∧ (p = .pointer none ∨ p = .pointer (some ⟨b, 0, none⟩)) ∧ w.ownsRow B 5 1 v bs.length bs ∧ v.ownBlock ≠ some b
/-- what else is as it was -/
def BFr (B b : Nat) (w w' : World) : Prop := Below B w w' ∧ Lib.OthersKept 5 (some b) w w'
theorem BFr.refl (B b : Nat) (w : World) : BFr B b w w := ⟨Below.refl _ _, Lib.OthersKept.refl _ _ _⟩
theorem BFr.trans {B b : Nat} {a c d : World} (h : BFr B b a c) (k : BFr B b c d) : BFr B b a d := ⟨h.1.trans k.1, h.2.trans k.2⟩
theorem Bld.lt {B b : Nat} {T : TypeId} {rest bs : List Value} {w : World} (h : Bld B b T rest bs w) : b < w.heap.size := by
  obtain ⟨_, _, p, v, hb, _⟩ := h
  exact (Array.getElem?_eq_some_iff.1 hb).1
theorem bld_new {B b : Nat} {T : TypeId} {rest : List Value} {w : World} (hB : B ≤ b) (hT : TK T rest.length) (h : w.heap[b]? = some (.cells (.pointer none :: .slice none 0 0 :: rest).toArray T (0, 0))) : Bld B b T rest [] w :=
  ⟨hB, hT, _, _, h, .inl rfl, World.ownsRow_nil _ _ _ _, by simp [Value.ownBlock]⟩

theorem Tryz.builderSize : (Tryz.prog.info? 70).map (·.size) = some 2 := by kernel_rfl
theorem Tryz.infoByte : (Tryz.prog.info? 5).map (fun i => (i.zero, i.size, i.bytes)) = some (some (.int .u8 0), 1, 1) := by kernel_rfl

set_option maxHeartbeats 2000000 in
theorem ccheck_fresh (b n : Nat) (T : TypeId) (hT : TK T n) (w : World) (h0 : w.cell? ⟨b, 0, none⟩ = some (.pointer none)) (hsh : w.shape? b = some (T, n + 2)) (hfz : w.frozen? ⟨b, 0, none⟩ = false) :
    Calls Tryz.prog 85 #[.pointer (some ⟨b, 0, none⟩)] w fun e w' => e = .returned (.tuple #[]) ∧ w' = w.setCell ⟨b, 0, none⟩ (.pointer (some ⟨b, 0, none⟩)) := by
  obtain ⟨j, hj, hjs⟩ := Option.map_eq_some_iff.1 Tryz.builderSize
  go_enter Tryz.func85, Tryz.ntmps85
  go_wp2
  rw [Lib.run_to_unsafe w ⟨b, 0, none⟩ Tryz.underlying67 Tryz.underlying127 hj (by rw [hjs]; decide) hsh (Nat.zero_lt_succ _)]
  simp only [Result.andThen]
  rw [Oper.upon_value]
  go_wp2
  rw [run_callFunc_extern Tryz.func113 (by kernel_rfl) (by kernel_rfl) (by kernel_rfl) (e := Extern.AbiNoEscape.same) (by kernel_rfl)]
  rw [Lib.run_noEscape]
  simp only [Result.andThen]
  rw [Oper.upon_value]
  go_wp2
  rw [Lib.run_from_unsafe w ⟨b, 0, none⟩ Tryz.underlying127 Tryz.underlying67 hj hsh hT.1]
  simp only [Result.andThen]
  rw [Oper.upon_value]
  go_wp2
  go_end0
  exact ⟨rfl, rfl⟩

set_option maxHeartbeats 2000000 in
theorem ccheck_used (b : Nat) (w : World) (h0 : w.cell? ⟨b, 0, none⟩ = some (.pointer (some ⟨b, 0, none⟩))) :
    Calls Tryz.prog 85 #[.pointer (some ⟨b, 0, none⟩)] w fun e w' => e = .returned (.tuple #[]) ∧ w' = w := by
  obtain ⟨j, hj, _⟩ := Option.map_eq_some_iff.1 Tryz.builderSize
  go_enter Tryz.func85, Tryz.ntmps85
  go_wp2
  rw [Lib.run_neq_ptr_same w _ Tryz.underlying67 hj]
  go_wp2
  go_end0
  exact ⟨rfl, rfl⟩

/-- a builder that was written to -/
def BldU (B b : Nat) (T : TypeId) (rest : List Value) (bs : List Value) (w : World) : Prop :=
  B ≤ b ∧ TK T rest.length ∧ ∃ v, w.heap[b]? = some (.cells (.pointer (some ⟨b, 0, none⟩) :: v :: rest).toArray T (0, 0)) ∧ w.ownsRow B 5 1 v bs.length bs ∧ v.ownBlock ≠ some b
theorem BldU.bld {B b : Nat} {T : TypeId} {rest bs : List Value} {w : World} (h : BldU B b T rest bs w) : Bld B b T rest bs w := by
  obtain ⟨h1, h2, v, h3, h4, h5⟩ := h
  exact ⟨h1, h2, _, v, h3, .inr rfl, h4, h5⟩
theorem ccheck_any {B b : Nat} {T : TypeId} {rest bs : List Value} {w : World} (h : Bld B b T rest bs w) :
    Calls Tryz.prog 85 #[.pointer (some ⟨b, 0, none⟩)] w fun e w' => e = .returned (.tuple #[]) ∧ BldU B b T rest bs w' ∧ BFr B b w w' ∧ w'.heap.size = w.heap.size := by
  obtain ⟨hB, hT, p, v, hb, hp, hown, hne⟩ := h
  have c0 : w.cell? ⟨b, 0, none⟩ = some p := by rw [Lib.cell_of_heap hb]; simp
  rcases hp with rfl | rfl
  · refine (ccheck_fresh b rest.length T hT w c0 (by simp [World.shape?, hb]) (by simp [World.frozen?, hb])).mono ?_
    rintro e w' ⟨rfl, rfl⟩
    refine ⟨rfl, ⟨hB, hT, v, ?_, ?_, hne⟩, ⟨(Below.refl B w).setCell (p := ⟨b, 0, none⟩) hB _, (Lib.OthersKept.refl _ _ w).setCell ⟨b, 0, none⟩ rfl _⟩, by simp [World.setCell]⟩
    · simp [World.setCell, Array.getElem?_modify, hb]
    · exact hown.kept (row := some b) ⟨rfl, rfl, rfl, by simp [World.setCell], fun k _ hk => Below.heap_setCell _ _ _ _ (fun e => hk (by simp [e]))⟩ (Or.inr hne)
  · refine (ccheck_used b w c0).mono ?_
    rintro e w' ⟨rfl, rfl⟩
    exact ⟨rfl, ⟨hB, hT, v, hb, hown, hne⟩, BFr.refl _ _ _, rfl⟩

/-- the buffer is another one -/
theorem bld_put {B b : Nat} {T : TypeId} {rest bs bs' : List Value} {w1 w2 : World} {p v v' : Value} (hB : B ≤ b) (hT : TK T rest.length) (hb : w1.heap[b]? = some (.cells (.pointer (some ⟨b, 0, none⟩) :: v :: rest).toArray T (0, 0))) (hown : w1.ownsRow B 5 1 v bs.length bs) (hne : v.ownBlock ≠ some b)
    (hg : w1.grownBy w2 v.ownBlock) (hown' : w2.ownsRow B 5 1 v' bs'.length bs') : BldU B b T rest bs' (w2.setCell ⟨b, 1, none⟩ v') ∧ BFr B b w1 (w2.setCell ⟨b, 1, none⟩ v') := by
  have hlt := (Array.getElem?_eq_some_iff.1 hb).1
  have hb2 : w2.heap[b]? = some (.cells (.pointer (some ⟨b, 0, none⟩) :: v :: rest).toArray T (0, 0)) := (hg.block b hlt (fun e => hne e.symm)).trans hb
  have hne' := Lib.ownBlock_ne hown' hb2 hT.2
  refine ⟨⟨hB, hT, v', ?_, ?_, hne'⟩, ?_, ?_⟩
  · simp [World.setCell, Array.getElem?_modify, hb2]
  · exact hown'.kept (row := some b) ⟨rfl, rfl, rfl, by simp [World.setCell], fun k _ hk => Below.heap_setCell _ _ _ _ (fun e => hk (by simp [e]))⟩ (Or.inr hne')
  · exact ((Below.refl B w1).grown hg (by omega) (fun k hk => (World.ownsRow.lt hown k hk).1)).setCell (p := ⟨b, 1, none⟩) hB _
  · exact ((Lib.OthersKept.refl _ _ w1).grown hg (Lib.ownsRow_kind hown)).setCell ⟨b, 1, none⟩ rfl _

theorem bown_slice {w : World} {B : Nat} {v : Value} {bs : List Value} (h : w.ownsRow B 5 1 v bs.length bs) : ∃ ao cap, v = .slice ao bs.length cap := by
  rcases h.2 with ⟨hv, h0⟩ | ⟨g, cap, cur, hv, _⟩
  · exact ⟨none, 0, by rw [hv, h0]⟩
  · exact ⟨_, _, hv⟩

set_option maxHeartbeats 2000000 in
theorem wbyte_any {B b : Nat} {T : TypeId} {rest bs : List Value} {w : World} (c : Int) (h : Bld B b T rest bs w) (hlen : bs.length ≤ 1000000) (hBw : B ≤ w.heap.size) :
    Calls Tryz.prog 55 #[.pointer (some ⟨b, 0, none⟩), .int .u8 c] w fun e w' => e = .returned .nilIface ∧ BldU B b T rest (bs ++ [.int .u8 c]) w' ∧ BFr B b w w' := by
  obtain ⟨i0, hi, hz0, hz1, hz2⟩ := info_parts Tryz.infoByte
  have HC : Hid (Calls Tryz.prog 85 #[.pointer (some ⟨b, 0, none⟩)] w fun e w' => e = .returned (.tuple #[]) ∧ BldU B b T rest bs w' ∧ BFr B b w w' ∧ w'.heap.size = w.heap.size) := ccheck_any h
  clear h
  go_enter Tryz.func55, Tryz.ntmps55
  go_wp2_with fail
  go_at_call 85
  refine HC.out.mono ?_
  rintro e w1 ⟨rfl, h1, hf1, hs1⟩
  have hB1 : B ≤ w1.heap.size := by omega
  clear hs1
  obtain ⟨hB, hT, v, hb, hown, hne⟩ := h1
  have hlt := (Array.getElem?_eq_some_iff.1 hb).1
  have c1 : w1.cell? ⟨b, 1, none⟩ = some v := by rw [Lib.cell_of_heap hb]; simp
  obtain ⟨ao, cap, rfl⟩ := bown_slice hown
  have HP : Hid (∀ w2 v', (w1.alloc (.cells #[.int .u8 c] 5)).grownBy w2 (Value.slice ao bs.length cap).ownBlock → w2.ownsRow B 5 1 v' (bs ++ [Value.int .u8 c]).length (bs ++ [Value.int .u8 c]) → (w2.frozen? ⟨b, 1, none⟩ = false ∧ ∃ x, w2.cell? ⟨b, 1, none⟩ = some x) ∧ BldU B b T rest (bs ++ [.int .u8 c]) (w2.setCell ⟨b, 1, none⟩ v') ∧ BFr B b w (w2.setCell ⟨b, 1, none⟩ v')) := fun w2 v' hg hown' => by
    have hba : (w1.alloc (.cells #[.int .u8 c] 5)).heap[b]? = some (.cells (.pointer (some ⟨b, 0, none⟩) :: Value.slice ao bs.length cap :: rest).toArray T (0, 0)) := (Lib.alloc_old w1 _ b hlt).trans hb
    have hq := bld_put (p := .nilIface) hB hT hba (hown.alloc _) hne hg hown'
    have hb2 := (hg.block b (by simp; omega) (fun e => hne e.symm)).trans hba
    refine ⟨⟨by simp [World.frozen?, hb2], Value.slice ao bs.length cap, by rw [Lib.cell_of_heap hb2]; simp⟩, hq.1, ?_⟩
    have h0 : BFr B b w1 (w1.alloc (.cells #[.int .u8 c] 5)) := ⟨(Below.refl B w1).alloc (by omega) _, (Lib.OthersKept.refl _ _ w1).alloc _⟩
    exact hf1.trans (h0.trans hq.2)
  have hown1 := hown.alloc (o := .cells #[.int .u8 c] 5)
  clear hown hb HC hf1
  go_wp2_with (at_builtin; refine wpList_append_own _ rfl _ _ 68 rfl B 5 i0 (.int .u8 0) 1 1 Tryz.underlying68 hi hz0 hz1 hz2 rfl (by decide) _ _ _ rfl hown1 ⟨w1.heap.size, 0, none⟩ 1 1 [.int .u8 c] rfl rfl ?c1 ?c2 ?c3 ?c4 ?c5 ?_)
  case c1 =>
    intro j u hj
    match j, hj with
    | 0, hj => simp at hj; subst hj; simp [Addr.add]
  case c2 => intro u hu; simp at hu; subst hu; rfl
  case c3 => unfold maxLen; omega
  case c4 => omega
  case c5 => simp; omega
  intro v' w2 hown' hgrow _
  obtain ⟨⟨f1, x, d1⟩, hq1, hq2⟩ := HP.out w2 v' hgrow (by simpa using hown')
  have HQ : Hid (BldU B b T rest (bs ++ [.int .u8 c]) (w2.setCell ⟨b, 1, none⟩ v') ∧ BFr B b w (w2.setCell ⟨b, 1, none⟩ v')) := ⟨hq1, hq2⟩
  obtain ⟨ao', n', cap', rfl⟩ : ∃ ao n' cap, v' = .slice ao n' cap := by
    rcases hown'.2 with ⟨hv, _⟩ | ⟨g, cap, cur, hv, _⟩
    · exact ⟨_, _, _, hv⟩
    · exact ⟨_, _, _, hv⟩
  clear hq1 hq2 HP hown' hgrow hown1
  go_wp2
  go_ret
  exact ⟨rfl, HQ.out.1, HQ.out.2⟩

set_option maxHeartbeats 2000000 in
theorem wstr_any {B b : Nat} {T : TypeId} {rest bs : List Value} {w : World} (s : ByteArray) (h : Bld B b T rest bs w) (hlen : bs.length + s.size ≤ 1000000) (hBw : B ≤ w.heap.size) :
    Calls Tryz.prog 56 #[.pointer (some ⟨b, 0, none⟩), .string s] w fun e w' => (∃ n : Int, e = .returned (.tuple #[.int .i64 n, .nilIface])) ∧ BldU B b T rest (bs ++ Lib.strCells s) w' ∧ BFr B b w w' := by
  obtain ⟨i0, hi, hz0, hz1, hz2⟩ := info_parts Tryz.infoByte
  have HC : Hid (Calls Tryz.prog 85 #[.pointer (some ⟨b, 0, none⟩)] w fun e w' => e = .returned (.tuple #[]) ∧ BldU B b T rest bs w' ∧ BFr B b w w' ∧ w'.heap.size = w.heap.size) := ccheck_any h
  clear h
  go_enter Tryz.func56, Tryz.ntmps56
  go_wp2_with fail
  go_at_call 85
  refine HC.out.mono ?_
  rintro e w1 ⟨rfl, h1, hf1, hs1⟩
  have hB1 : B ≤ w1.heap.size := by omega
  clear hs1
  obtain ⟨hB, hT, v, hb, hown, hne⟩ := h1
  have hlt := (Array.getElem?_eq_some_iff.1 hb).1
  have c1 : w1.cell? ⟨b, 1, none⟩ = some v := by rw [Lib.cell_of_heap hb]; simp
  obtain ⟨ao, cap, rfl⟩ := bown_slice hown
  have HP : Hid (∀ w2 v', w1.grownBy w2 (Value.slice ao bs.length cap).ownBlock → w2.ownsRow B 5 1 v' (bs ++ Lib.strCells s).length (bs ++ Lib.strCells s) → (w2.frozen? ⟨b, 1, none⟩ = false ∧ ∃ x, w2.cell? ⟨b, 1, none⟩ = some x) ∧ BldU B b T rest (bs ++ Lib.strCells s) (w2.setCell ⟨b, 1, none⟩ v') ∧ BFr B b w (w2.setCell ⟨b, 1, none⟩ v')) := fun w2 v' hg hown' => by
    have hq := bld_put (p := .nilIface) hB hT hb hown hne hg hown'
    have hb2 := (hg.block b hlt (fun e => hne e.symm)).trans hb
    exact ⟨⟨by simp [World.frozen?, hb2], Value.slice ao bs.length cap, by rw [Lib.cell_of_heap hb2]; simp⟩, hq.1, hf1.trans hq.2⟩
  clear hb HC hf1
  go_wp2_with (at_builtin; refine Lib.wpList_append_own_string _ rfl _ _ 68 9 rfl B 5 i0 Tryz.underlying68 Tryz.underlying9 hi hz0 hz1 hz2 _ _ _ rfl hown s rfl ?c3 ?c4 ?c5 ?_)
  case c3 => unfold maxLen; omega
  case c4 => omega
  case c5 => omega
  intro v' w2 hown' hgrow _
  obtain ⟨⟨f1, x, d1⟩, hq1, hq2⟩ := HP.out w2 v' hgrow (by simpa [Lib.strCells_length] using hown')
  have HQ : Hid (BldU B b T rest (bs ++ Lib.strCells s) (w2.setCell ⟨b, 1, none⟩ v') ∧ BFr B b w (w2.setCell ⟨b, 1, none⟩ v')) := ⟨hq1, hq2⟩
  obtain ⟨ao', n', cap', rfl⟩ : ∃ ao n' cap, v' = .slice ao n' cap := by
    rcases hown'.2 with ⟨hv, _⟩ | ⟨g, cap, cur, hv, _⟩
    · exact ⟨_, _, _, hv⟩
    · exact ⟨_, _, _, hv⟩
  clear hq1 hq2 HP hown' hgrow hown
  go_wp2
  go_ret2
  exact ⟨⟨_, rfl⟩, HQ.out.1, HQ.out.2⟩

set_option maxHeartbeats 1000000 in
theorem blen_any {B b : Nat} {T : TypeId} {rest bs : List Value} {w : World} (h : Bld B b T rest bs w) :
    Calls Tryz.prog 30 #[.pointer (some ⟨b, 0, none⟩)] w fun e w' => e = .returned (.int .i64 bs.length) ∧ w' = w := by
  obtain ⟨hB, hT, p, v, hb, hp, hown, hne⟩ := h
  have c1 : w.cell? ⟨b, 1, none⟩ = some v := by rw [Lib.cell_of_heap hb]; simp
  obtain ⟨ao, cap, rfl⟩ := bown_slice hown
  clear hb hown hp
  go_enter Tryz.func30, Tryz.ntmps30
  go_wp2
  go_ret
  exact ⟨rfl, rfl⟩

end Go.Proofs.YtbjohedenfindaaGreatDoor

namespace Go.Proofs.YtbjohedenfindaaGreatDoor
open Go.RowKit
set_option linter.unusedVariables false
set_option maxRecDepth 100000

theorem Tryz.cellsByte : Tryz.prog.cellsOf 5 = 1 := by kernel_rfl
set_option maxHeartbeats 2000000 in
theorem bstr_some {B b : Nat} {T : TypeId} {rest : List Value} {w : World} (l : List UInt8) (h : Bld B b T rest (Lib.byteCells l) w) (h0 : l ≠ []) :
    Calls Tryz.prog 31 #[.pointer (some ⟨b, 0, none⟩)] w fun e w' => e = .returned (.string ⟨l.toArray⟩) ∧ Below B w w' := by
  obtain ⟨hB, hT, p, v, hbk, hp, hown, hne⟩ := h
  have hl0 : l.length ≠ 0 := by simpa using h0
  rw [Lib.byteCells_length] at hown
  obtain ⟨g, cap, cur, rfl, hbg, hg, hnc, hcm, hcs, htake⟩ : ∃ g cap cur, v = .slice (some ⟨g, 0, none⟩) l.length cap ∧ B ≤ g ∧ w.heap[g]? = some (.cells cur 5 (0, 0)) ∧ l.length ≤ cap ∧ cap ≤ maxLen ∧ cur.size = cap * 1 ∧ cur.toList.take (l.length * 1) = Lib.byteCells l := by
    rcases hown.2 with ⟨_, hz⟩ | ⟨g, cap, cur, hv, r⟩
    · exact absurd hz hl0
    · exact ⟨g, cap, cur, hv, r⟩
  have c1 : w.drew.cell? ⟨b, 1, none⟩ = some (.slice (some ⟨g, 0, none⟩) l.length cap) := by
    have : w.drew.heap[b]? = some (.cells (p :: .slice (some ⟨g, 0, none⟩) l.length cap :: rest).toArray T (0, 0)) := hbk
    rw [Lib.cell_of_heap this]; simp
  have hSD : (Builtin.unsafeSliceData_ #[68] 113 #[.slice (some ⟨g, 0, none⟩) l.length cap]).run Tryz.prog w.drew = .ok (.pointer (some ⟨g, 0, none⟩)) w.drew :=
    Lib.run_unsafeSliceData_row _ _ _ _ _ _ (by omega)
  have hUS : (Builtin.unsafeString_ #[113, 3] 9 #[.pointer (some ⟨g, 0, none⟩), .int .i64 l.length]).run Tryz.prog w.drew = .ok (.string ⟨l.toArray⟩) (w.drew.freeze ⟨g, 0, none⟩ l.length) := by
    refine Lib.run_unsafeString_row w.drew 113 3 9 5 Tryz.underlying113 Tryz.cellsByte g cur.size (by have hg' : w.drew.heap[g]? = some (.cells cur 5 (0, 0)) := hg; simp [World.shape?, hg']) l h0 (by omega) (by unfold maxLen at hcm; omega) ?_
    intro j x hx
    have := hown.cells (g := g) rfl j (.int .u8 x.toNat) (by simp [Lib.byteCells, hx])
    exact this
  clear hown htake hg hcs hbk hp
  go_enter Tryz.func31, Tryz.ntmps31
  go_wp2
  go_region
  all_goals (go_wp2; go_ret; exact ⟨rfl, Lib.below_freeze (Below.drew (Below.refl B w)) (p := ⟨g, 0, none⟩) hbg _⟩)

theorem bstr_us (W : World) (q : Option Addr) : (Builtin.unsafeString_ #[113, 3] 9 #[.pointer q, .int .i64 0]).run Tryz.prog W = .ok (.string .empty) W := Lib.run_unsafeString_none W _ _ _ q
set_option maxHeartbeats 2000000 in
theorem bstr_none {B b : Nat} {T : TypeId} {rest : List Value} {w : World} (h : Bld B b T rest [] w) (hBw : B ≤ w.heap.size) :
    Calls Tryz.prog 31 #[.pointer (some ⟨b, 0, none⟩)] w fun e w' => e = .returned (.string ⟨#[]⟩) ∧ Below B w w' := by
  have hlt := h.lt
  obtain ⟨hB, hT, p, v, hbk, hp, hown, hne⟩ := h
  have hUS := bstr_us
  rcases hown.2 with ⟨rfl, _⟩ | ⟨g, cap, cur, rfl, hbg, hg, _, _, _, _⟩
  · have c1 : w.drew.cell? ⟨b, 1, none⟩ = some (.slice none 0 0) := by
      have : w.drew.heap[b]? = some (.cells (p :: .slice none 0 0 :: rest).toArray T (0, 0)) := hbk
      rw [Lib.cell_of_heap this]; simp
    have hSD : (Builtin.unsafeSliceData_ #[68] 113 #[.slice none 0 0]).run Tryz.prog w.drew = .ok (.pointer none) w.drew := rfl
    clear hown hbk hp
    go_enter Tryz.func31, Tryz.ntmps31
    go_wp2
    go_region
    all_goals (go_wp2; go_ret; exact ⟨rfl, Below.drew (Below.refl B w)⟩)
  · by_cases hc0 : cap = 0
    · subst hc0
      have c1 : w.drew.cell? ⟨b, 1, none⟩ = some (.slice (some ⟨g, 0, none⟩) 0 0) := by
        have : w.drew.heap[b]? = some (.cells (p :: .slice (some ⟨g, 0, none⟩) 0 0 :: rest).toArray T (0, 0)) := hbk
        rw [Lib.cell_of_heap this]; simp
      have hSD : (Builtin.unsafeSliceData_ #[68] 113 #[.slice (some ⟨g, 0, none⟩) 0 0]).run Tryz.prog w.drew = .ok (.pointer (some ⟨w.drew.heap.size, 0, none⟩)) (w.drew.alloc (.view ⟨g, 0, none⟩ 5)) :=
        Lib.run_unsafeSliceData_zero w.drew _ _ 5 Tryz.underlying113 ⟨g, 0, none⟩ 0 (5, cur.size) (by have hg' : w.drew.heap[g]? = some (.cells cur 5 (0, 0)) := hg; simp [World.shape?, hg'])
      have c2 : (w.drew.alloc (.view ⟨g, 0, none⟩ 5)).cell? ⟨b, 1, none⟩ = some (.slice (some ⟨g, 0, none⟩) 0 0) := by
        have : (w.drew.alloc (.view ⟨g, 0, none⟩ 5)).heap[b]? = _ := (Lib.alloc_old w.drew _ b hlt).trans hbk
        rw [Lib.cell_of_heap this]; simp
      have c3 : (w.alloc (.view ⟨g, 0, none⟩ 5)).drew.cell? ⟨b, 1, none⟩ = some (.slice (some ⟨g, 0, none⟩) 0 0) := c2
      have c0 : w.cell? ⟨b, 1, none⟩ = some (.slice (some ⟨g, 0, none⟩) 0 0) := c1
      clear hown hbk hp hg
      go_enter Tryz.func31, Tryz.ntmps31
      go_wp2
      go_region
      all_goals (go_wp2; go_ret; exact ⟨rfl, (Below.drew (Below.refl B w)).alloc hBw _⟩)
    · have c1 : w.drew.cell? ⟨b, 1, none⟩ = some (.slice (some ⟨g, 0, none⟩) 0 cap) := by
        have : w.drew.heap[b]? = some (.cells (p :: .slice (some ⟨g, 0, none⟩) 0 cap :: rest).toArray T (0, 0)) := hbk
        rw [Lib.cell_of_heap this]; simp
      have hSD : (Builtin.unsafeSliceData_ #[68] 113 #[.slice (some ⟨g, 0, none⟩) 0 cap]).run Tryz.prog w.drew = .ok (.pointer (some ⟨g, 0, none⟩)) w.drew :=
        Lib.run_unsafeSliceData_row _ _ _ _ _ _ hc0
      clear hc0 hown hbk hp hg
      go_enter Tryz.func31, Tryz.ntmps31
      go_wp2
      go_region
      all_goals (go_wp2; go_ret; exact ⟨rfl, Below.drew (Below.refl B w)⟩)
theorem bstr_any {B b : Nat} {T : TypeId} {rest : List Value} {w : World} (l : List UInt8) (h : Bld B b T rest (Lib.byteCells l) w) (hBw : B ≤ w.heap.size) :
    Calls Tryz.prog 31 #[.pointer (some ⟨b, 0, none⟩)] w fun e w' => e = .returned (.string ⟨l.toArray⟩) ∧ Below B w w' := by
  cases l with
  | nil => exact bstr_none h hBw
  | cons x r => exact bstr_some (x :: r) h (by simp)

end Go.Proofs.YtbjohedenfindaaGreatDoor

namespace Go.Proofs.YtbjohedenfindaaGreatDoor
open Go.RowKit
open Go.Maps (Keyed)
set_option linter.unusedVariables false
set_option maxRecDepth 100000

theorem esc_sign {c p : Int} (h : escOf c = some p) : 0 ≤ p ∧ 0 ≤ c ∧ signOf p.toNat = some c.toNat ∧ c < 128 ∧ p < 128 := by
  unfold escOf at h
  split at h
  · rename_i e; cases h; subst e; decide
  · split at h
    · rename_i e; cases h; subst e; decide
    · split at h
      · rename_i e; cases h; subst e; decide
      · split at h
        · rename_i e
          cases h
          have he := e
          simp [escSign] at he
          have h0 : 0 ≤ c ∧ c < 128 := by omega
          refine ⟨h0.1, h0.1, ?_, h0.2, h0.2⟩
          unfold signOf
          rw [if_neg (by omega), if_neg (by omega), if_neg (by omega), show ((c.toNat : Nat) : Int) = c by omega, if_pos e]
        · cases h
theorem esc_inj {c c' p : Int} (h : escOf c = some p) (h' : escOf c' = some p) : c = c' := by
  have a := esc_sign h
  have b := esc_sign h'
  have := a.2.2.1.symm.trans b.2.2.1
  have := Option.some.inj this
  omega

theorem Tryz.lawIntS : Keyed Tryz.prog 3 := Maps.int_keyed Tryz.underlying3
/-- the signs that the map says for points -/
def SgnSays (D : DataW Unit) : Prop := ∀ c : Nat, Maps.has D (.int .i64 (c : Int)) = (signOf c).isSome ∧ ∀ b, signOf c = some b → D.atKey (.int .i64 (c : Int)) (.lit (.int .i32 0)) = .lit (.int .i32 (b : Int))
def SgnMap (w : World) (M : Nat) : Prop := ∃ (n : Nat) (D : DataW Unit), n ≤ 1000 ∧ w.ownsMap Tryz.prog 3 (plainElem Tryz.prog 21) M n D ∧ SgnSays D
/-- what it says while some signs are still to come -/
def SgnPart (D : DataW Unit) (left : Lit → Bool) : Prop := Maps.IsMap D ∧ (∀ p : Int, Maps.has D (.int .i64 p) = true ↔ ∃ c, escOf c = some p ∧ left (.int .i32 c) = false) ∧ ∀ p c : Int, escOf c = some p → left (.int .i32 c) = false → ∀ zd, D.atKey (.int .i64 p) zd = .lit (.int .i32 c)
theorem SgnPart.step {D : DataW Unit} {left : Lit → Bool} {x p : Int} (h : SgnPart D left) (hx : escOf x = some p) : SgnPart (D.put (.int .i64 p) (.lit (.int .i32 x))) (fun z => left z && !z.sameKey (.int .i32 x)) := by
  obtain ⟨hm, h1, h2⟩ := h
  have hl : ∀ c : Int, (left (.int .i32 c) && !(Lit.int .i32 c).sameKey (.int .i32 x)) = false ↔ left (.int .i32 c) = false ∨ c = x := by
    intro c
    by_cases h : c = x <;> simp [Lit.sameKey, h]
  refine ⟨by obtain ⟨es, rfl⟩ := hm; exact ⟨_, rfl⟩, fun q => ?_, fun q c hc hlc zd => ?_⟩
  · by_cases e : q = p
    · subst e
      rw [Maps.has_put_same hm (show WideAt.IsKeyLit (.int .i64 q) from trivial)]
      exact ⟨fun _ => ⟨x, hx, (hl x).2 (.inr rfl)⟩, fun _ => rfl⟩
    · have hne : (Lit.int .i64 q) ≠ .int .i64 p := fun e' => e (by cases e'; rfl)
      rw [Maps.has_put_other hne, h1 q]
      constructor
      · rintro ⟨c, g1, g2⟩; exact ⟨c, g1, (hl c).2 (.inl g2)⟩
      · rintro ⟨c, g1, g2⟩
        rcases (hl c).1 g2 with g | rfl
        · exact ⟨c, g1, g⟩
        · rw [hx] at g1; exact absurd (Option.some.inj g1).symm e
  · by_cases e : q = p
    · subst e
      rw [Maps.atKey_put_same hm (show WideAt.IsKeyLit (.int .i64 q) from trivial)]
      rw [esc_inj hc hx]
    · have hne : (Lit.int .i64 q) ≠ .int .i64 p := fun e' => e (by cases e'; rfl)
      rw [Maps.atKey_put_other hne]
      rcases (hl c).1 hlc with g | rfl
      · exact h2 q c hc g zd
      · rw [hx] at hc; exact absurd (Option.some.inj hc).symm e
theorem SgnPart.start {left : Lit → Bool} (h : ∀ c p, escOf c = some p → left (.int .i32 c) = true) : SgnPart (.map []) left := by
  refine ⟨⟨[], rfl⟩, fun p => ⟨fun e => (by cases e), ?_⟩, fun p c hc hl => ?_⟩
  · rintro ⟨c, h1, h2⟩; rw [h c p h1] at h2; cases h2
  · rw [h c p hc] at hl; cases hl
theorem SgnPart.done {D : DataW Unit} {left : Lit → Bool} (h : SgnPart D left) (hl : ∀ kl, left kl = false) : SgnSays D := by
  intro c
  cases hs : signOf c with
  | none =>
    refine ⟨?_, fun b hb => by cases hb⟩
    cases hh : Maps.has D (.int .i64 (c : Int)) with
    | false => rfl
    | true =>
      obtain ⟨x, h1, _⟩ := (h.2.1 _).1 hh
      have := (esc_sign h1).2.2.1
      rw [Int.toNat_natCast, hs] at this
      cases this
  | some b =>
    have he := (sign_esc hs).1
    exact ⟨(h.2.1 _).2 ⟨_, he, hl _⟩, fun b' hb' => by cases hb'; exact h.2.2 _ _ he (hl _) _⟩

set_option maxHeartbeats 4000000 in
theorem newWriter_any (w : World) : Calls Tryz.prog 28 #[] w fun e w' => e = .returned (.pointer (some ⟨w.heap.size + 1, 0, none⟩)) ∧ w'.heap[w.heap.size + 1]? = some (.cells #[.pointer none, .slice none 0 0, .map (some w.heap.size)] 73 (0, 0)) ∧ SgnMap w' w.heap.size ∧ Below w.heap.size w w' := by
  have hmm := @run_makeMap Tryz.prog
  have HE : Hid (∀ w', Calls Tryz.prog 41 #[] w' fun e w'' => e = .returned (.map (some w'.heap.size)) ∧ EscMap w'' w'.heap.size ∧ Below w'.heap.size w' w'') := escapes_any
  go_enter Tryz.func28, Tryz.ntmps28
  go_wp2_with fail
  refine (HE.out _).mono ?_
  rintro e w1 ⟨rfl, ⟨n, D0, hn, hown, hD⟩, hb1⟩
  have es : ((w.alloc (.map #[] 0)).alloc (.cells #[.pointer none, .slice none 0 0, .map (some w.heap.size)] 73 (0, 0))).heap.size = w.heap.size + 2 := by simp
  have b0 : Below w.heap.size w ((w.alloc (.map #[] 0)).alloc (.cells #[.pointer none, .slice none 0 0, .map (some w.heap.size)] 73 (0, 0))) := ((Below.refl _ w).alloc (Nat.le_refl _) _).alloc (by simp) _
  have m0 : (w.alloc (.map #[] 0)).ownsMap (H := Unit) Tryz.prog 3 (plainElem Tryz.prog 21) w.heap.size 0 (.map []) := World.ownsMap_made w Tryz.prog 3 (plainElem Tryz.prog 21)
  have m1 := m0.alloc (.cells #[.pointer none, .slice none 0 0, .map (some w.heap.size)] 73 (0, 0))
  have c0 : ((w.alloc (.map #[] 0)).alloc (.cells #[.pointer none, .slice none 0 0, .map (some w.heap.size)] 73 (0, 0))).heap[w.heap.size + 1]? = some (.cells #[.pointer none, .slice none 0 0, .map (some w.heap.size)] 73 (0, 0)) := by
    have := heap_alloc_new (w.alloc (.map #[] 0)) (.cells #[.pointer none, .slice none 0 0, .map (some w.heap.size)] 73 (0, 0))
    simpa using this
  generalize (w.alloc (.map #[] 0)).alloc (.cells #[.pointer none, .slice none 0 0, .map (some w.heap.size)] 73 (0, 0)) = w0 at *
  rw [es] at hown hb1 ⊢
  have m2 : w1.ownsMap (H := Unit) Tryz.prog 3 (plainElem Tryz.prog 21) w.heap.size 0 (.map []) := by
    obtain ⟨es, clock, h1, h2⟩ := m1
    exact ⟨es, clock, (hb1.block w.heap.size (by omega)).trans h1, h2⟩
  have c1 : w1.heap[w.heap.size + 1]? = some (.cells #[.pointer none, .slice none 0 0, .map (some w.heap.size)] 73 (0, 0)) := (hb1.block _ (by omega)).trans c0
  have b1 : Below w.heap.size w w1 := b0.trans (hb1.mono (by omega))
  have hs1 : w.heap.size + 3 ≤ w1.heap.size := by have := hown.lt; omega
  have HD : Hid (∀ c : Int, Maps.has D0 (.int .i32 c) = (escOf c).isSome ∧ ∀ p, escOf c = some p → D0.atKey (.int .i32 c) (.lit (.int .i64 0)) = .lit (.int .i64 p)) := hD
  clear hD m0 m1 c0 b0 hb1 hmm HE es
  go_wp2_with (first
    | (at_range; refine wpList_range_own _ rfl _ 88 rfl 21 3 Tryz.lawRune Tryz.underlying88 _ (w.heap.size + 2) n _ rfl hown ?_; intro w2 hrg0 hg0 hs0)
    | go_in)
  go_frame
  have HS : Hid (Maps.size D0 ≤ 1000) := Nat.le_trans hown.size_le hn
  have HP0 : Hid (SgnPart (.map []) (Maps.has D0)) := SgnPart.start fun c p hc => by rw [(HD.out c).1, hc]; rfl
  generalize hr : w1.heap.size = r at *
  go_loopw [3] (fun _ wr => ∃ (left : Lit → Bool) (cnt : Nat) (D : DataW Unit), wr.ranges Tryz.prog 21 (plainElem Tryz.prog 3) (w.heap.size + 2) r n D0 left cnt ∧ cnt ≤ Maps.size D0 ∧
      wr.ownsMap Tryz.prog 3 (plainElem Tryz.prog 21) w.heap.size (Maps.size D0 - cnt) D ∧ SgnPart D left ∧ (∀ kl, left kl = true → Maps.has D0 kl = true) ∧ wr.heap[w.heap.size + 1]? = some (.cells #[.pointer none, .slice none 0 0, .map (some w.heap.size)] 73 (0, 0)) ∧ Below w.heap.size w wr ∧ w2.heap.size ≤ wr.heap.size)
    (fun _ wr => wr.rangeLeft (w.heap.size + 2) r)
  case atStart =>
    exact ⟨_, _, .map [], hrg0, Nat.le_refl _, (m2.kept hg0 (by simp)).mono (Nat.zero_le _), HP0.out, fun kl h => h, (hg0.block _ (by omega) (by simp)).trans c1, b1.grown hg0 (by omega) (fun j hj => by cases hj), Nat.le_refl _⟩
  case round =>
    obtain ⟨left, cnt, D, hrg, hcs, hout, hP, hL, hc, hnx, hsz⟩ := hrel
    have HP : Hid (SgnPart D left) := hP
    have HL : Hid (∀ kl, left kl = true → Maps.has D0 kl = true) := hL
    clear hP hL
    go_wp2_with (first
      | (at_next; refine wpList_next_ranges_ii _ rfl _ rfl 21 3 .i32 .i64 Tryz.lawRune Tryz.underlying21 Tryz.underlying3 (w.heap.size + 2) r n _ _ _ rfl hrg ?_ ?_)
      | go_in)
    · intro hc0 hl0
      go_wp2
      go_ret
      exact ⟨rfl, hc, ⟨_, D, by have := HS.out; omega, hout, HP.out.done hl0⟩, hnx⟩
    · intro x p w3 cnt1 hwx hwc hlx hat hrg1 hlt hg1 hs1 hen
      have hout1 := hout.kept hg1 (by simp; omega)
      have hc3 := (hg1.block (w.heap.size + 1) (by omega) (by simp; omega)).trans hc
      have hx : escOf x = some p := by
        have h1 := HL.out _ hlx
        rw [(HD.out x).1] at h1
        obtain ⟨q, hq⟩ := Option.isSome_iff_exists.1 h1
        have := (HD.out x).2 q hq
        rw [hat] at this
        rw [hq]; simpa using this.symm
      have HX : Hid (escOf x = some p) := hx
      have hr := esc_sign hx
      have hr1 := hr.1
      have hr2 := hr.2.1
      have hr3 := hr.2.2.2.1
      have hr4 := hr.2.2.2.2
      have hk : keyOf Tryz.prog 3 (.int .i64 p) = some (.int .i64 p) := Maps.keyOf_int_mk Tryz.underlying3 hwc
      have hv := plainElem_int (H := Unit) Tryz.underlying21 hwx
      clear hx hr hat
      have hcell : w3.cell? ⟨w.heap.size + 1, 2, none⟩ = some (.map (some w.heap.size)) := by simp [World.cell?, hc3]
      go_wp2_with (first
        | (at_mapUpdate; refine wpList_mapUpdate_own _ rfl _ _ _ 71 rfl 3 21 Tryz.lawIntS Tryz.underlying71 _ w.heap.size _ _ rfl hout1 (by have := HS.out; unfold maxLen; omega) _ _ _ rfl rfl hk _ [] hv ?_; intro w4 hout2 hg2; go_frame)
        | go_in)
      have hrg2 := hrg1.kept hg2 (fun e => by have := Option.some.inj e; omega) (fun e => by have := Option.some.inj e; omega)
      go_roundw
      case rel =>
        refine ⟨_, cnt1, _, hrg2, by omega, hout2.mono (by omega), HP.out.step HX.out, fun kl hkl => HL.out kl (by simp only [Bool.and_eq_true] at hkl; exact hkl.1), (hg2.block (w.heap.size + 1) (by omega) (by simp)).trans hc3,
          (hnx.grown hg1 hnx.size (fun j hj => by cases hj; omega)).grown hg2 (by have := hnx.size; omega) (fun j hj => by cases hj; exact Nat.le_refl _), by have := hg2.size; omega⟩
      case measure => rw [hrg2.left_eq, hrg.left_eq]; exact hlt


end Go.Proofs.YtbjohedenfindaaGreatDoor
