/- The program: a tree as a text. -/
import Derived.Test.YtbgklfmhmpjboaaDoorTTre
import Derived.Test.YtbgklfmhmpjboaaDoorTShf
import Derived.Lib.AppendStr
import Derived.Lib.Slices
import Derived.Lib.Hide
import Derived.Laws.IdiomStrings
import Derived.OwnWalk
import Derived.BigCall
namespace Go.Proofs.YtbgklfmhmpjboaaDoor
open Go.RowKit
set_option linter.unusedVariables false
set_option maxRecDepth 100000

theorem Tryd.infoU8 : (Tryd.prog.info? 5).map (fun i => (i.zero, i.size, i.bytes)) = some (some (.int .u8 0), 1, 1) := by kernel_rfl
def TabP (B : Nat) (w : World) : Prop := Lib.TabBelow Tryd.prog B w "internal/strconv.uint64pow10" .u64 Lib.pow10Tab
/-- a row of bytes of the call's own -/
def OwnB (B : Nat) (w : World) (v : Value) (l : List UInt8) : Prop := w.ownsRow B 5 1 v l.length (Lib.byteCells l)
/-- what shown answers, of a tree at a place of memory -/
def SwC (B : Nat) (w0 : World) (u : Value) (t : Tr) : Prop := ∀ w, Below B w0 w → ∀ sv l, OwnB B w sv l → l.length + (shT t).length ≤ 1000000 →
  Calls Tryd.prog 16 #[sv, u] w fun e w' => ∃ v', e = .returned v' ∧ OwnB B w' v' (l ++ shT t) ∧ Below B w w'
theorem ownB_append {B : Nat} {w : World} {v : Value} {l m : List UInt8} {k : Nat} (h : w.ownsRow B 5 1 v k (Lib.byteCells l ++ Lib.byteCells m)) (hk : k = l.length + m.length) : OwnB B w v (l ++ m) := by
  unfold OwnB
  rw [List.length_append, ← hk, show Lib.byteCells (l ++ m) = Lib.byteCells l ++ Lib.byteCells m by simp [Lib.byteCells]]
  exact h
theorem OwnB.lt {B : Nat} {w : World} {v : Value} {l : List UInt8} (h : OwnB B w v l) : ∀ k, v.ownBlock = some k → B ≤ k ∧ k < w.heap.size := fun k hk => World.ownsRow.lt h k hk

set_option maxHeartbeats 4000000 in
theorem shown_nil (B : Nat) (w : World) (hB : B ≤ w.heap.size) (sv : Value) (l : List UInt8) (hown : OwnB B w sv l) (hl : l.length ≤ 1000000) :
    Calls Tryd.prog 16 #[sv, .pointer none] w fun e w' => ∃ v', e = .returned v' ∧ OwnB B w' v' (l ++ [40, 41]) ∧ Below B w w' := by
  obtain ⟨i0, hi, hz0, hz1, hz2⟩ := info_parts Tryd.infoU8
  have HO : Hid (OwnB B w sv l) := hown
  clear hown
  go_enter Tryd.func16, Tryd.ntmps16
  go_wp2_with (at_builtin; refine Lib.wpList_append_own_string _ rfl _ _ 48 9 rfl B 5 i0 Tryd.underlying48 Tryd.underlying9 hi hz0 hz1 hz2 sv l.length (Lib.byteCells l) rfl HO.out ⟨#[40, 41]⟩ rfl (by unfold maxLen; show l.length + 2 ≤ _; omega) (by show l.length + 2 ≤ _; omega) hB ?_)
  intro v2 w2 hown2 hgrow _
  have hb2 : Below B w w2 := (Below.refl B w).grown hgrow hB (fun k hk => (HO.out.lt k hk).1)
  have ho2 : OwnB B w2 v2 (l ++ [40, 41]) := ownB_append hown2 rfl
  have HO2 : Hid (OwnB B w2 v2 (l ++ [40, 41])) := ho2
  clear hown2 hgrow ho2
  go_wp2
  go_ret
  exact ⟨v2, rfl, HO2.out, hb2⟩

set_option maxHeartbeats 4000000 in
theorem shown_leaf (B : Nat) (p k : Int) (hp : p < 0) (hk : -9223372036854775808 ≤ k ∧ k ≤ 9223372036854775807) (b : Nat) (kv : Value) (w : World) (hB : B ≤ w.heap.size) (hT : TabP B w) (hb : w.heap[b]? = some (.cells #[.int .i64 p, .int .i64 k, kv] 40 (0, 0))) (sv : Value) (l : List UInt8) (hown : OwnB B w sv l) (hl : l.length ≤ 1000000) :
    Calls Tryd.prog 16 #[sv, .pointer (some ⟨b, 0, none⟩)] w fun e w' => ∃ v', e = .returned v' ∧ OwnB B w' v' (l ++ Lib.itoa k) ∧ Below B w w' := by
  have HA : Hid (Calls Tryd.prog 23 #[sv, .int .i64 k, .int .i64 10] w fun e w' => ∃ v', e = .returned v' ∧ OwnB B w' v' (l ++ Lib.itoa k) ∧ Below B w w') := by
    refine (Tryd.strconv_AppendInt_10 B l.length k hk.1 hk.2 sv (Lib.byteCells l) w hown hB (by omega) hT).mono ?_
    rintro e w' ⟨v', rfl, h1, h2, _⟩
    exact ⟨v', rfl, ownB_append h1 rfl, h2⟩
  have hlt := (Array.getElem?_eq_some_iff.1 hb).1
  have c0 : w.cell? ⟨b, 0, none⟩ = some (.int .i64 p) := by simp [World.cell?, hb]
  have c1 : w.cell? ⟨b, 1, none⟩ = some (.int .i64 k) := by simp [World.cell?, hb]
  have d0 : decide (p < 0) = true := decide_eq_true hp
  clear hb hk hT hown
  go_enter Tryd.func16, Tryd.ntmps16
  go_wp2_with fail
  go_at_call 23
  refine HA.out.mono ?_
  rintro e w1 ⟨v1, rfl, ho1, hb1⟩
  have HO1 : Hid (OwnB B w1 v1 (l ++ Lib.itoa k)) := ho1
  clear ho1
  go_wp2
  go_ret
  exact ⟨v1, rfl, HO1.out, hb1⟩

/-- one byte more, out of a new array -/
theorem ownB_one {B : Nat} {w w2 : World} {v v2 : Value} {l : List UInt8} {c : UInt8} {o : Obj} (hB : B ≤ w.heap.size) (h : OwnB B w v l) (h2 : w2.ownsRow B 5 1 v2 (l.length + 1) (Lib.byteCells l ++ [.int .u8 (c.toNat : Int)])) (hg : (w.alloc o).grownBy w2 v.ownBlock) : OwnB B w2 v2 (l ++ [c]) ∧ Below B w w2 :=
  ⟨ownB_append (m := [c]) h2 rfl, ((Below.refl B w).alloc hB o).grown hg (by rw [alloc_size]; omega) (fun k hk => (h.lt k hk).1)⟩

theorem OwnB.slice {B : Nat} {w : World} {v : Value} {l : List UInt8} (h : OwnB B w v l) : ∃ a c, v = .slice a l.length c := by
  rcases (show w.ownsRow B 5 1 v l.length (Lib.byteCells l) from h).2 with ⟨rfl, h0⟩ | ⟨g, cap, cur, rfl, _⟩
  · exact ⟨none, 0, by rw [h0]⟩
  · exact ⟨_, _, rfl⟩

set_option maxHeartbeats 8000000 in
theorem shown_node (B : Nat) (p k : Int) (hp : 0 ≤ p) (hp2 : p ≤ 9223372036854775807) (ks : List Tr) (b : Nat) (ka : Option Addr) (kc : Nat) (w : World) (hB : B ≤ w.heap.size) (hT : TabP B w) (hb : w.heap[b]? = some (.cells #[.int .i64 p, .int .i64 k, .slice ka ks.length kc] 40 (0, 0))) (hbB : b < B) (hn : ks.length ≤ 1000000) (sv : Value) (l : List UInt8) (hown : OwnB B w sv l)
    (hl : l.length + (40 :: (Lib.itoa p ++ (shK ks ++ [41]))).length ≤ 1000000)
    (hK : ∀ j, j < ks.length → ∃ kb off u, ka = some ⟨kb, off, none⟩ ∧ kb < B ∧ w.cell? ⟨kb, off + j, none⟩ = some u ∧ SwC B w u (ks.getD j nilT)) :
    Calls Tryd.prog 16 #[sv, .pointer (some ⟨b, 0, none⟩)] w fun e w' => ∃ v', e = .returned v' ∧ OwnB B w' v' (l ++ (40 :: (Lib.itoa p ++ (shK ks ++ [41])))) ∧ Below B w w' := by
  obtain ⟨i0, hi, hz0, hz1, hz2⟩ := info_parts Tryd.infoU8
  have HCl : Hid (∀ w', Below B w w' → w'.cell? ⟨b, 0, none⟩ = some (.int .i64 p) ∧ w'.cell? ⟨b, 2, none⟩ = some (.slice ka ks.length kc)) := fun w' h => by
    have hbb := (h.block b hbB).trans hb
    exact ⟨by simp [World.cell?, hbb], by simp [World.cell?, hbb]⟩
  clear hb
  have HA : Hid (∀ w' v' l', Below B w w' → OwnB B w' v' l' → l'.length ≤ 1000000 → Calls Tryd.prog 23 #[v', .int .i64 p, .int .i64 10] w' fun e w'' => ∃ v'', e = .returned v'' ∧ OwnB B w'' v'' (l' ++ Lib.itoa p) ∧ Below B w' w'') := fun w' v' l' h ho hl' => by
    refine (Tryd.strconv_AppendInt_10 B l'.length p (by omega) hp2 v' (Lib.byteCells l') w' ho (Nat.le_trans hB h.size) (by omega) (hT.on h)).mono ?_
    rintro e w' ⟨v', rfl, h1, h2, _⟩
    exact ⟨v', rfl, ownB_append h1 rfl, h2⟩
  clear hT
  have HL : Hid (∀ j, j ≤ ks.length → l.length + (40 :: (Lib.itoa p ++ shK (ks.take j))).length + 1 ≤ 1000000) := fun j hj => by
    have e := shK_append (ks.take j) (ks.drop j)
    rw [List.take_append_drop] at e
    rw [e] at hl
    simp at hl ⊢
    omega
  have HST : Hid (∀ j, j < ks.length → shK (ks.take (j + 1)) = shK (ks.take j) ++ (32 :: shT (ks.getD j nilT))) := fun j hj => by
    rw [List.take_succ_eq_append_getElem hj, shK_append, shK_one]
    simp [hj]
  clear hl
  have HK : Hid (∀ j, j < ks.length → ∃ kb off u, ka = some ⟨kb, off, none⟩ ∧ kb < B ∧ w.cell? ⟨kb, off + j, none⟩ = some u ∧ SwC B w u (ks.getD j nilT)) := hK
  clear hK
  have HO : Hid (OwnB B w sv l) := hown
  clear hown
  obtain ⟨c0, c2⟩ := HCl.out w (Below.refl _ _)
  have hbw : b < w.heap.size := by omega
  have d0 : decide (p < 0) = false := decide_eq_false (by omega)
  have hL0 := HL.out 0 (Nat.zero_le _)
  have hl0 : l.length + 2 ≤ 1000000 := by simp at hL0; omega
  clear hL0
  go_enter Tryd.func16, Tryd.ntmps16
  go_wp2_with (at_builtin; refine wpList_append_own _ rfl _ _ 48 rfl B 5 i0 (.int .u8 0) 1 1 Tryd.underlying48 hi hz0 hz1 hz2 rfl (by decide) sv l.length (Lib.byteCells l) rfl (World.ownsRow.alloc HO.out _) ⟨w.heap.size, 0, none⟩ 1 1 [Value.int .u8 40] rfl rfl (by intro j u' hj; match j, hj with | 0, hj => simp at hj; subst hj; simp [Addr.add]) (by intro u' hu'; simp at hu'; subst hu'; rfl) (by unfold maxLen; omega) (by omega) (by simp; omega) ?_)
  intro v2 w2 hown2 hgrow _
  obtain ⟨ho2, hb2⟩ := ownB_one (c := 40) hB HO.out hown2 hgrow
  have HO2 : Hid (OwnB B w2 v2 (l ++ [40])) := ho2
  obtain ⟨x0, x2⟩ := HCl.out w2 hb2
  have hbw2 : b < w2.heap.size := Nat.lt_of_lt_of_le hbw hb2.size
  clear hown2 hgrow ho2 c0 c2
  go_wp2_with fail
  go_at_call 23
  refine (HA.out w2 v2 _ hb2 HO2.out (by simp; omega)).mono ?_
  rintro e w3 ⟨v3, rfl, ho3, hb3'⟩
  have hb3 := hb2.trans hb3'
  have HO3 : Hid (OwnB B w3 v3 (l ++ (40 :: (Lib.itoa p ++ shK (ks.take 0))))) := by
    show OwnB _ _ _ _
    have e : l ++ (40 :: (Lib.itoa p ++ shK (ks.take 0))) = l ++ [40] ++ Lib.itoa p := by simp [shK]
    rw [e]
    exact ho3
  obtain ⟨y0, y2⟩ := HCl.out w3 hb3
  have hbw3 : b < w3.heap.size := Nat.lt_of_lt_of_le hbw hb3.size
  clear ho3 hb3' x0 x2 HO2 HO
  go_wp2
  go_loopw [0, 36] (fun tv iv wr => ∃ (j : Nat), j ≤ ks.length ∧ iv = .int .i64 j ∧ Hid (OwnB B wr tv (l ++ (40 :: (Lib.itoa p ++ shK (ks.take j))))) ∧ Below B w wr) (fun _ iv _ => ks.length - (intOf iv).toNat)
  case atStart => exact ⟨0, Nat.zero_le _, rfl, HO3, hb3⟩
  case round =>
    obtain ⟨j, hj, rfl, HOJ, hbr⟩ := hrel
    have hLj := HL.out j hj
    have hlj : (l ++ (40 :: (Lib.itoa p ++ shK (ks.take j)))).length + 1 ≤ 1000000 := by rw [List.length_append]; omega
    have HE : Hid (∀ m, l ++ (40 :: (Lib.itoa p ++ shK (ks.take j))) ++ m = l ++ (40 :: (Lib.itoa p ++ (shK (ks.take j) ++ m)))) := fun m => by simp
    generalize hm : l ++ (40 :: (Lib.itoa p ++ shK (ks.take j))) = L at *
    clear hm hLj
    obtain ⟨ta, tc, htv⟩ := HOJ.out.slice
    subst htv
    have hBr := Nat.le_trans hB hbr.size
    by_cases hjn : j < ks.length
    · obtain ⟨kb, off, u, rfl, hkb, hu, hSw⟩ := HK.out j hjn
      have x1 := (hbr.cell (p := ⟨kb, off + j, none⟩) hkb).trans hu
      have hkb2 : kb < wr.heap.size := by omega
      have HSw : Hid (SwC B w u (ks.getD j nilT)) := hSw
      have HSt := HST.out j hjn
      have HLn := HL.out (j + 1) (by omega)
      rw [HSt] at HLn
      have HLL : Hid ((L ++ [32]).length + (shT (ks.getD j nilT)).length ≤ 1000000) := by
        show _ ≤ _
        have e := congrArg List.length (HE.out [])
        simp at e HLn ⊢
        omega
      have HEQ : Hid (L ++ [32] ++ shT (ks.getD j nilT) = l ++ (40 :: (Lib.itoa p ++ shK (ks.take (j + 1))))) := by
        show _ = _
        rw [HSt, List.append_assoc, HE.out]
        simp
      clear hSw hu HSt HLn HE
      go_wp2_with (at_builtin; refine wpList_append_own _ rfl _ _ 48 rfl B 5 i0 (.int .u8 0) 1 1 Tryd.underlying48 hi hz0 hz1 hz2 rfl (by decide) (.slice ta L.length tc) L.length (Lib.byteCells L) rfl (World.ownsRow.alloc HOJ.out _) ⟨wr.heap.size, 0, none⟩ 1 1 [Value.int .u8 32] rfl rfl (by intro j u' hj; match j, hj with | 0, hj => simp at hj; subst hj; simp [Addr.add]) (by intro u' hu'; simp at hu'; subst hu'; rfl) (by unfold maxLen; omega) (by omega) (by simp; omega) ?_)
      intro v5 w5 hown5 hgrow5 _
      obtain ⟨ho5, hb5⟩ := ownB_one (c := 32) hBr HOJ.out hown5 hgrow5
      have HO5 : Hid (OwnB B w5 v5 (L ++ [32])) := ho5
      have hb6 := hbr.trans hb5
      clear hown5 hgrow5 ho5 hb5 x1
      go_wp2_with fail
      go_at_call 16
      refine (HSw.out w5 hb6 v5 _ HO5.out HLL.out).mono ?_
      rintro e w7 ⟨v7, rfl, ho7, hb7⟩
      have hb8 := hb6.trans hb7
      rw [HEQ.out] at ho7
      have HO7 : Hid (OwnB B w7 v7 (l ++ (40 :: (Lib.itoa p ++ shK (ks.take (j + 1)))))) := ho7
      clear ho7 hb7
      go_wp2
      go_roundw
      case rel => exact ⟨j + 1, by omega, by go_num, HO7, hb8⟩
      case measure => simp [intOf]; omega
    · obtain rfl : j = ks.length := by omega
      have HEQ : Hid (L ++ [41] = l ++ (40 :: (Lib.itoa p ++ (shK ks ++ [41])))) := by
        show _ = _
        rw [HE.out, List.take_of_length_le (Nat.le_refl _)]
      clear HE
      go_wp2_with (at_builtin; refine wpList_append_own _ rfl _ _ 48 rfl B 5 i0 (.int .u8 0) 1 1 Tryd.underlying48 hi hz0 hz1 hz2 rfl (by decide) (.slice ta L.length tc) L.length (Lib.byteCells L) rfl (World.ownsRow.alloc HOJ.out _) ⟨wr.heap.size, 0, none⟩ 1 1 [Value.int .u8 41] rfl rfl (by intro j u' hj; match j, hj with | 0, hj => simp at hj; subst hj; simp [Addr.add]) (by intro u' hu'; simp at hu'; subst hu'; rfl) (by unfold maxLen; omega) (by omega) (by simp; omega) ?_)
      intro v5 w5 hown5 hgrow5 _
      obtain ⟨ho5, hb5⟩ := ownB_one (c := 41) hBr HOJ.out hown5 hgrow5
      rw [HEQ.out] at ho5
      have HO5 : Hid (OwnB B w5 v5 (l ++ (40 :: (Lib.itoa p ++ (shK ks ++ [41]))))) := ho5
      have hb6 := hbr.trans hb5
      clear hown5 hgrow5 ho5 hb5
      go_wp2
      go_ret
      exact ⟨v5, rfl, HO5.out, hb6⟩

theorem shK_lenleP (ks : List Tr) : ks.length ≤ (shK ks).length := by
  induction ks with
  | nil => simp
  | cons t ks ih =>
    have e := shK_append [t] ks
    rw [shK_one] at e
    rw [show t :: ks = [t] ++ ks from rfl, e]
    simp
    omega
theorem shown_all (B : Nat) : ∀ (n : Nat) (w0 : World) (v : Value) (t : Tr), B ≤ w0.heap.size → TabP B w0 → IsTr (fun b => b < B) n w0 v t → okT t = true → SwC B w0 v t
  | 0, w0, v, t, _, _, h, _ => h.elim
  | n + 1, w0, v, t, hB, hT, h, hok => by
    intro w hb sv l ho hl
    have hT' : TabP B w := hT.on hb
    have hB' := Nat.le_trans hB hb.size
    rcases h with ⟨rfl, rfl⟩ | ⟨his, b, kv, rfl, hbB, hblk, hkids⟩
    · have e : shT nilT = [40, 41] := by rw [shT_eq]; rfl
      rw [e] at hl ⊢
      exact shown_nil B w hB' sv l ho (by simp at hl; omega)
    · have hblk' := (hb.block b hbB).trans hblk
      obtain ⟨o1, o2, o3⟩ := (okT_eq t).1 hok
      obtain ⟨ka, kc, rfl⟩ := hkids.slice
      rw [shT_eq, his] at hl ⊢
      simp only [Bool.true_eq_false, if_false] at hl ⊢
      by_cases hp : t.prod < 0
      · rw [if_pos hp] at hl ⊢
        exact shown_leaf B t.prod t.tok hp o2 b _ w hB' hT' hblk' sv l ho (by omega)
      · rw [if_neg hp] at hl ⊢
        have h1 := shK_lenleP t.kids
        have hl2 : (shK t.kids).length ≤ 1000000 := by simp at hl; omega
        refine shown_node B t.prod t.tok (by omega) o1.2 t.kids b ka kc w hB' hT' hblk' hbB (by omega) sv l ho hl fun j hj => ?_
        have hmem : t.kids.getD j nilT ∈ t.kids := by rw [List.getD_eq_getElem?_getD, List.getElem?_eq_getElem hj]; exact List.getElem_mem hj
        rcases hkids with ⟨h0, _⟩ | ⟨g, off, c, e, hg1, hg2, hg⟩
        · rw [h0] at hj; simp at hj
        · simp only [Value.slice.injEq] at e
          obtain ⟨rfl, _, rfl⟩ := e
          obtain ⟨u, hc, hu⟩ := hg j hj
          exact ⟨g, off, u, rfl, hg2, (hb.cell (p := ⟨g, off + j, none⟩) hg2).trans hc, shown_all B n w u _ hB' hT' (IsTr.moved hb.size (fun b' h1 h2 => ⟨h2, hb.block b' h2⟩) n hu) (o3 _ hmem)⟩
theorem shT_pos (t : Tr) : 0 < (shT t).length := by
  rw [shT_eq]
  split
  · simp
  · split
    · unfold Lib.itoa
      split
      · simp
      · rw [Lib.decDigits]
        split <;> simp
    · simp

set_option maxHeartbeats 4000000 in
theorem pshow_any {ok : Nat → Prop} (n : Nat) (w : World) (v : Value) (t : Tr) (hT : Lib.TabIs Tryd.prog w "internal/strconv.uint64pow10" .u64 Lib.pow10Tab) (h : IsTr ok n w v t) (hok : okT t = true) (hl : (shT t).length ≤ 1000000) :
    Calls Tryd.prog 10 #[v] w fun e w' => e = .returned (.string ⟨(shT t).toArray⟩) ∧ Below w.heap.size w w' := by
  have HC : Hid (Calls Tryd.prog 16 #[.slice none 0 0, v] w fun e w' => ∃ g cap, e = .returned (.slice (some ⟨g, 0, none⟩) (shT t).length cap) ∧ (convert 48 9 (.slice (some ⟨g, 0, none⟩) (shT t).length cap)).run Tryd.prog w' = .ok (.string ⟨(shT t).toArray⟩) w' ∧ Below w.heap.size w w') := by
    refine (shown_all w.heap.size n w v t (Nat.le_refl _) (Lib.tabBelow_of_tabIs hT) (IsTr.moved (Nat.le_refl _) (fun b hb _ => ⟨hb, rfl⟩) n h) hok w (Below.refl _ _) (.slice none 0 0) [] (World.ownsRow_nil _ _ _ _) (by simpa using hl)).mono ?_
    rintro e w' ⟨v', rfl, ho, hb⟩
    rw [List.nil_append] at ho
    have hpos := shT_pos t
    obtain ⟨g, cap, rfl, _, _⟩ := World.ownsRow.form ho hpos
    refine ⟨g, cap, rfl, ?_, hb⟩
    refine run_convert_bytes_back _ 48 9 5 ⟨g, 0, none⟩ cap (shT t) Tryd.underlying48 Tryd.underlying5 Tryd.underlying9 (fun j hj => World.ownsRow.cells ho (g := g) rfl j _ (by simp [Lib.byteCells, hj]))
  clear h hok hl hT
  generalize (shT t).length = m at *
  generalize (⟨(shT t).toArray⟩ : ByteArray) = S at *
  go_enter Tryd.func10, Tryd.ntmps10
  go_wp2_with fail
  go_at_call 16
  refine HC.out.mono ?_
  rintro e w1 ⟨g, cap, rfl, hcv, hb1⟩
  go_wp2
  go_ret
  exact ⟨rfl, hb1⟩

end Go.Proofs.YtbgklfmhmpjboaaDoor
