/- Texts of the proof, put together: GLls, GLlp, GTbM, GPop. -/
import Derived.Test.YtmkimaceioacgaaDoorGk26
import Derived.Test.YtmkimaceioacgaaDoorGk18
import Derived.Test.YtmkimaceioacgaaDoorGk25
import Derived.Test.YtmkimaceioacgaaDoorGk15
import Derived.Test.YtmkimaceioacgaaDoorGk37
import Derived.Test.YtmkimaceioacgaaDoorGk13
import Derived.Test.YtmkimaceioacgaaDoorGk44
import Derived.Deep.Cut
import Derived.Deep.RegionWith
namespace Go.Proofs.YtmkimaceioacgaaDoor
open Go.RowKit
set_option linter.unusedVariables false
set_option maxRecDepth 100000

/-- rows of rows in memory -/
def LssM (w : World) (v : Value) (ll : List (List Int)) : Prop := ∃ a c, v = .slice a ll.length c ∧ (ll = [] ∨ ∃ b off, a = some ⟨b, off, none⟩ ∧ b < w.heap.size ∧ ∀ j, j < ll.length → ∃ rv, w.cell? ⟨b, off + j, none⟩ = some rv ∧ IntsR w rv (ll.getD j []))
theorem LssM.slice {w : World} {v : Value} {l : List (List Int)} (h : LssM w v l) : ∃ a c, v = .slice a l.length c := by
  obtain ⟨a, c, e, _⟩ := h; exact ⟨a, c, e⟩
theorem LssM.below {w w' : World} {v : Value} {l : List (List Int)} (h : LssM w v l) (hb : Below w.heap.size w w') : LssM w' v l := by
  obtain ⟨a, c, h1, h2⟩ := h
  refine ⟨a, c, h1, h2.imp id fun ⟨g, off, e, hg, hc⟩ => ⟨g, off, e, Nat.lt_of_lt_of_le hg hb.size, fun j hj => ?_⟩⟩
  obtain ⟨rv, h3, h4⟩ := hc j hj
  exact ⟨rv, (hb.cell (p := ⟨g, off + j, none⟩) hg).trans h3, h4.below hb⟩
theorem LssM.at {w : World} {a : Option Addr} {n c : Nat} {l : List (List Int)} (h : LssM w (.slice a n c) l) {k : Nat} (hk : k < l.length) : ∃ b off rv, a = some ⟨b, off, none⟩ ∧ b < w.heap.size ∧ w.cell? ⟨b, off + k, none⟩ = some rv ∧ IntsR w rv (l.getD k []) := by
  obtain ⟨a', c', e, h2⟩ := h
  obtain ⟨rfl, rfl, rfl⟩ : a = a' ∧ n = l.length ∧ c = c' := by simpa using e
  rcases h2 with rfl | ⟨b, off, rfl, hb, hc⟩
  · simp at hk
  · obtain ⟨rv, h3, h4⟩ := hc k hk
    exact ⟨b, off, rv, rfl, hb, h3, h4⟩
theorem OwnI.intsR {w : World} {B : Nat} {v : Value} {l : List Int} (h : OwnI w B v l) : IntsR w v l := by
  rcases h.2 with ⟨e, h0⟩ | ⟨g, cap, cur, e, hB, hg, hcap, _⟩
  · exact ⟨none, 0, by rw [e, h0], by omega, .inl (List.eq_nil_of_length_eq_zero h0)⟩
  · have hc := h.cells (g := g) (by rw [e]; rfl)
    refine ⟨_, _, e, hcap, .inr ⟨g, 0, rfl, (Array.getElem?_eq_some_iff.1 hg).1, fun j hj => ?_⟩⟩
    have := hc j (.int .i64 (l.getD j 0)) (by simp [List.getD, hj])
    rw [show (⟨g, 0, none⟩ : Addr).add j = ⟨g, 0 + j, none⟩ by unfold Addr.add; split <;> simp_all] at this
    exact this
/-- a row of numbers is no row of rows -/
theorem own_apartI {w : World} {B B' k : Nat} {v ov : Value} {l : List Int} {vs : List Value} (h : OwnI w B v l) (h' : w.ownsRow B' 23 1 ov k vs) : v.ownBlock = none ∨ v.ownBlock ≠ ov.ownBlock := by
  rcases h.2 with ⟨e, h0⟩ | ⟨g, cap, cur, e, hB, hg, hcap, _⟩
  · rw [e]; exact .inl rfl
  · refine .inr ?_
    rcases h'.2 with ⟨e', h0'⟩ | ⟨g', cap', cur', e', hB', hg', hcap', _⟩
    · rw [e, e']; simp [Value.ownBlock]
    · rw [e, e']
      intro he
      have : g = g' := by simpa [Value.ownBlock] using he
      rw [this, hg'] at hg
      simp at hg
theorem own_belowI {w w' : World} {B : Nat} {v : Value} {l : List Int} (h : OwnI w B v l) (hb : Below w.heap.size w w') : OwnI w' B v l := World.ownsRow.kept h (below_grownN hb) (by cases hq : v.ownBlock <;> simp)
theorem own_mono {w : World} {B B' : Nat} {v : Value} {l : List Int} (h : OwnI w B v l) (hb : B' ≤ B) : OwnI w B' v l := ⟨h.1, h.2.imp id fun ⟨g, cap, cur, e, hB, r⟩ => ⟨g, cap, cur, e, Nat.le_trans hb hB, r⟩⟩
/-- the places that hold -/
def numR (m : Nat) (L : List Bool) : List Int := ((List.range m).filter (factB L)).map fun (n : Nat) => (n : Int)
def numL (n m : Nat) (LL : Nat → List Bool) : List (List Int) := (List.range n).map fun i => numR m (LL i)
theorem numR_yes (m : Nat) (L : List Bool) (h : factB L m = true) : numR (m + 1) L = numR m L ++ [(m : Int)] := by
  unfold numR
  rw [List.range_succ, List.filter_append, List.map_append]
  simp [h]
theorem numR_no (m : Nat) (L : List Bool) (h : factB L m = false) : numR (m + 1) L = numR m L := by
  unfold numR
  rw [List.range_succ, List.filter_append, List.map_append]
  simp [h]
theorem numR_len (m : Nat) (L : List Bool) : (numR m L).length ≤ m := by
  unfold numR
  rw [List.length_map]
  exact Nat.le_trans (List.length_filter_le _ _) (by simp)
/-- rows of numbers on their way -/
structure LsO (w wr : World) (f : Nat → List Int) (v : Value) (vs : List Value) : Prop where
  own : wr.ownsRow w.heap.size 23 1 v vs.length vs
  row : ∀ j (h : j < vs.length), OwnI wr w.heap.size vs[j] (f j)
theorem LsO.slice {w wr : World} {f : Nat → List Int} {v : Value} {vs : List Value} (h : LsO w wr f v vs) : ∃ a c, v = .slice a vs.length c := by
  rcases h.own.2 with ⟨e, h0⟩ | ⟨g, cap, cur, e, _⟩
  · exact ⟨none, 0, by rw [e, h0]⟩
  · exact ⟨_, _, e⟩
theorem LsO.below {w wr w' : World} {f : Nat → List Int} {v : Value} {vs : List Value} (h : LsO w wr f v vs) (hb : Below wr.heap.size wr w') : LsO w w' f v vs :=
  ⟨World.ownsRow.kept h.own (below_grownN hb) (by cases hq : v.ownBlock <;> simp), fun j hj => own_belowI (h.row j hj) hb⟩
theorem LsO.step {w wr w9 : World} {f : Nat → List Int} {v rv : Value} {vs : List Value} {g cap : Nat} {o : Obj} (h : LsO w wr f v vs) (hr : OwnI wr w.heap.size rv (f vs.length))
    (hown : w9.ownsRow w.heap.size 23 1 (.slice (some ⟨g, 0, none⟩) (vs.length + 1) cap) (vs.length + 1) (vs ++ [rv])) (hg9 : (wr.alloc o).grownBy w9 v.ownBlock) :
    LsO w w9 f (.slice (some ⟨g, 0, none⟩) (vs.length + 1) cap) (vs ++ [rv]) := by
  have hk : ∀ u l, OwnI wr w.heap.size u l → OwnI w9 w.heap.size u l := fun u l hu => World.ownsRow.kept (World.ownsRow.alloc hu o) hg9 (own_apartI hu h.own)
  refine ⟨by rw [List.length_append]; exact hown, fun j hj => ?_⟩
  by_cases e : j < vs.length
  · rw [List.getElem_append_left e]; exact hk _ _ (h.row j e)
  · obtain rfl : j = vs.length := by rw [List.length_append] at hj; simp at hj; omega
    rw [List.getElem_append_right (Nat.le_refl _)]
    simp only [Nat.sub_self, List.getElem_cons_zero]
    exact hk _ _ hr
theorem LsO.done {w wr : World} {f : Nat → List Int} {v : Value} {vs : List Value} (h : LsO w wr f v vs) {n : Nat} (hn : vs.length = n) : LssM wr v ((List.range n).map f) := by
  subst hn
  obtain ⟨a, c, e⟩ := h.slice
  refine ⟨a, c, by rw [e]; simp, ?_⟩
  rcases h.own.2 with ⟨e', h0⟩ | ⟨g, cap, cur, e', hB, hg, _⟩
  · exact .inl (by simp [h0])
  · obtain ⟨rfl, _⟩ : a = some ⟨g, 0, none⟩ ∧ c = cap := by rw [e] at e'; simpa using e'
    have hc := h.own.cells (g := g) (by rw [e']; rfl)
    refine .inr ⟨g, 0, rfl, (Array.getElem?_eq_some_iff.1 hg).1, fun j hj => ?_⟩
    have hj' : j < vs.length := by simpa using hj
    refine ⟨vs[j], ?_, ?_⟩
    · have := hc j vs[j] (by simp [hj'])
      rw [show (⟨g, 0, none⟩ : Addr).add j = ⟨g, 0 + j, none⟩ by unfold Addr.add; split <;> simp_all] at this
      exact this
    · have := (h.row j hj').intsR
      rw [show ((List.range vs.length).map f).getD j [] = f j by simp [List.getD, hj']]
      exact this
theorem Tryd.infoInts : (Tryd.prog.info? 23).map (fun i => (i.zero, i.size, i.bytes)) = some (some (.slice none 0 0), 1, 24) := by kernel_rfl

end Go.Proofs.YtmkimaceioacgaaDoor

namespace Go.Proofs.YtmkimaceioacgaaDoor
open Go.RowKit
set_option linter.unusedVariables false
set_option maxRecDepth 100000

def nilA (m : Nat) : Array Value := (List.replicate m (Value.slice none 0 0)).toArray
theorem nilsI (m : Nat) : madeCells (Value.slice none 0 0).cells m = nilA m := by
  unfold nilA
  apply Array.ext
  · simp [madeCells, Value.cells]
  · intro i h1 h2
    simp [madeCells, Value.cells, Nat.mod_one]
theorem makeIntss (m : Nat) (hm : m ≤ 1000000) (W : World) : (Instr.makeSlice 33 (.int .i64 m) (.int .i64 m)).run Tryd.prog W = .ok (.slice (some ⟨W.heap.size, 0, none⟩) m m) (W.alloc (.cells (nilA m) 23)) := by
  obtain ⟨i0, hi, hz0, hz1, hz2⟩ := infoParts Tryd.infoInts
  have := run_make W 33 23 i0 (.slice none 0 0) Tryd.underlying33 hi hz0 .i64 .i64 m m (by omega) (by omega) (by rw [hz2]; omega) (by omega)
  rw [this, hz1, nilsI]
  simp
/-- a row of rows that fills a block -/
def RowVi (w : World) (D : Nat) (vs : List Value) : Prop := w.heap[D]? = some (.cells vs.toArray 23 (0, 0))
theorem RowVi.lt {w : World} {D : Nat} {vs : List Value} (h : RowVi w D vs) : D < w.heap.size := (Array.getElem?_eq_some_iff.1 h).1
theorem RowVi.fz {w : World} {D : Nat} {vs : List Value} (h : RowVi w D vs) (j : Nat) : w.frozen? ⟨D, j, none⟩ = false := by
  unfold RowVi at h
  simp [World.frozen?, h]
theorem RowVi.cell {w : World} {D : Nat} {vs : List Value} (h : RowVi w D vs) {j : Nat} (hj : j < vs.length) : w.cell? ⟨D, j, none⟩ = some (vs.getD j (.slice none 0 0)) := by
  unfold RowVi at h
  simp [World.cell?, h, List.getD, hj]
theorem RowVi.set {w : World} {D : Nat} {vs : List Value} (h : RowVi w D vs) (j : Nat) (x : Value) : RowVi (w.setCell ⟨D, j, none⟩ x) D (vs.set j x) := by
  unfold RowVi at *
  rw [heap_setC _ _ _ _ _ _ h]
  simp
/-- rows of numbers on their way -/
structure LpO (w wr : World) (D : Nat) (f : Nat → List Int) (vs : List Value) (k : Nat) : Prop where
  row : RowVi wr D vs
  done : ∀ j, j < k → OwnI wr w.heap.size (vs.getD j (.slice none 0 0)) (f j)
theorem LpO.step {w wr w' : World} {D k : Nat} {f : Nat → List Int} {vs : List Value} (h : LpO w wr D f vs k) (hk : k < vs.length) (hb : Below wr.heap.size wr w') {v : Value} (hv : OwnI w' w.heap.size v (f k)) : LpO w (w'.setCell ⟨D, k, none⟩ v) D f (vs.set k v) (k + 1) := by
  have hr : RowVi w' D vs := (hb.block D h.row.lt).trans h.row
  have hkp : ∀ u l, OwnI w' w.heap.size u l → OwnI (w'.setCell ⟨D, k, none⟩ v) w.heap.size u l := fun u l hu => by
    refine World.ownsRow.kept hu (set_grown w' D k v) ?_
    rcases hu.2 with ⟨e, h0⟩ | ⟨g, cap, cur, e, hB, hg, hcap, _⟩
    · rw [e]; exact .inl rfl
    · refine .inr ?_
      rw [e]
      intro he
      have : g = D := by simpa [Value.ownBlock] using he
      unfold RowVi at hr
      rw [this, hr] at hg
      simp at hg
  refine ⟨hr.set k v, fun j hj => ?_⟩
  by_cases e : j = k
  · subst e
    rw [show (vs.set j v).getD j (.slice none 0 0) = v by simp [List.getD, hk]]
    exact hkp _ _ hv
  · rw [show (vs.set k v).getD j (.slice none 0 0) = vs.getD j (.slice none 0 0) by simp only [List.getD]; rw [List.getElem?_set_ne (Ne.symm e)]]
    exact hkp _ _ (own_belowI (h.done j (by omega)) hb)
theorem LpO.final {w wr : World} {D N : Nat} {f : Nat → List Int} {vs : List Value} (h : LpO w wr D f vs N) (hl : vs.length = N) : LssM wr (.slice (some ⟨D, 0, none⟩) N N) ((List.range N).map f) := by
  refine ⟨_, _, by simp; rfl, .inr ⟨D, 0, rfl, h.row.lt, fun j hj => ?_⟩⟩
  have hj' : j < N := by simpa using hj
  refine ⟨_, by rw [Nat.zero_add]; exact h.row.cell (by omega), ?_⟩
  rw [show ((List.range N).map f).getD j [] = f j by simp [List.getD, hj']]
  exact (h.done j hj').intsR

set_option maxHeartbeats 8000000 in
theorem listsOf_any (N B : Nat) (L : List Nat) (w : World) (hN : N ≤ 300) (hL : L.length = N) (hlt : ∀ n, factM L n < 512) (hv : RowM w B L) (hG : 0 < w.heap.size) (hT : TabAt 0 Lib.deBruijn64tab w) :
    Calls Tryd.prog 20 #[.slice (some ⟨B, 0, none⟩) N N] w fun e w' => ∃ v, e = .returned v ∧ LssM w' v ((List.range N).map fun n => bitsZ (factM L n)) ∧ Below w.heap.size w w' := by
  have hmk := makeIntss N (by omega) w
  have hA := alloc_below w (.cells (nilA N) 23)
  have HR0 : Hid (LpO w (w.alloc (.cells (nilA N) 23)) w.heap.size (fun n => bitsZ (factM L n)) (List.replicate N (Value.slice none 0 0)) 0) := ⟨alloc_at _ _, fun j hj => by omega⟩
  have HV : Hid (RowM w B L) := hv
  have HL : Hid (L.length = N) := hL
  have HML : Hid (∀ wx k, Below w.heap.size w wx → Calls Tryd.prog 43 #[mkV (factM L k)] wx fun e w' => ∃ v, e = .returned v ∧ OwnI w' (wx.heap.size + 1) v (bitsZ (factM L k)) ∧ Below wx.heap.size wx w') := fun wx k hb => mlist_any (factM L k) (hlt k) wx (Nat.lt_of_lt_of_le hG hb.size) (tab_below hT hG hb)
  clear hv hL hlt hG hT
  unfold mkV mkA at HML
  go_enter Tryd.func20, Tryd.ntmps20
  go_wp2
  clear hmk
  generalize w.alloc (.cells (nilA N) 23) = w1 at *
  go_loopw [11] (fun iv wr => ∃ (k : Nat) (vs : List Value), k ≤ N ∧ iv = .int .i64 k ∧ Hid (LpO w wr w.heap.size (fun n => bitsZ (factM L n)) vs k) ∧ Hid (vs.length = N) ∧ Below w.heap.size w wr) (fun iv _ => N - (intOf iv).toNat)
  case atStart => exact ⟨0, _, Nat.zero_le _, rfl, HR0, (by show _ = _; simp), hA⟩
  case round =>
    clear HR0 hA
    obtain ⟨k, vs, hk, rfl, HR, HVL, hbw⟩ := hrel
    by_cases hlt : k < N
    · have hV := HV.out.below hbw
      have hkL : k < L.length := by rw [HL.out]; exact hlt
      have c0 := hV.c0 hkL
      have c1 := hV.ck hkL (k := 1) (by omega) (by omega)
      have c2 := hV.ck hkL (k := 2) (by omega) (by omega)
      have c3 := hV.ck hkL (k := 3) (by omega) (by omega)
      have c4 := hV.ck hkL (k := 4) (by omega) (by omega)
      have lV := hV.lt
      have hA := alloc_below wr (.cells #[.int .u64 (factM L k), .int .u64 0, .int .u64 0, .int .u64 0, .int .u64 0] 76)
      have hAs := alloc_size wr (.cells #[.int .u64 (factM L k), .int .u64 0, .int .u64 0, .int .u64 0, .int .u64 0] 76)
      have hX : BoxM (wr.alloc (.cells #[.int .u64 (factM L k), .int .u64 0, .int .u64 0, .int .u64 0, .int .u64 0] 76)) wr.heap.size (factM L k) := alloc_at _ _
      have x0 := hX.c0
      have x1 := hX.c1
      have x2 := hX.c2
      have x3 := hX.c3
      have x4 := hX.c4
      have x5 := hX.lt
      have hbA : Below w.heap.size w (wr.alloc (.cells #[.int .u64 (factM L k), .int .u64 0, .int .u64 0, .int .u64 0, .int .u64 0] 76)) := hbw.trans (hA.mono hbw.size)
      have hC := HML.out _ k hbA
      have HSTP : Hid (∀ w7 v, Below (wr.alloc (.cells #[.int .u64 (factM L k), .int .u64 0, .int .u64 0, .int .u64 0, .int .u64 0] 76)).heap.size (wr.alloc (.cells #[.int .u64 (factM L k), .int .u64 0, .int .u64 0, .int .u64 0, .int .u64 0] 76)) w7 → OwnI w7 ((wr.alloc (.cells #[.int .u64 (factM L k), .int .u64 0, .int .u64 0, .int .u64 0, .int .u64 0] 76)).heap.size + 1) v (bitsZ (factM L k)) → LpO w (w7.setCell ⟨w.heap.size, k, none⟩ v) w.heap.size (fun n => bitsZ (factM L n)) (vs.set k v) (k + 1) ∧ Below w.heap.size w (w7.setCell ⟨w.heap.size, k, none⟩ v) ∧ w7.frozen? ⟨w.heap.size, k, none⟩ = false ∧ w7.cell? ⟨w.heap.size, k, none⟩ = some (vs.getD k (.slice none 0 0)) ∧ w.heap.size < w7.heap.size) := fun w7 v h7 ho => by
        have h8 : Below wr.heap.size wr w7 := hA.trans (h7.mono (by omega))
        have h9 : RowVi w7 w.heap.size vs := (h8.block _ HR.out.row.lt).trans HR.out.row
        exact ⟨HR.out.step (by rw [HVL.out]; exact hlt) h8 (own_mono ho (by have := hbw.size; omega)), below_set (hbw.trans (h8.mono hbw.size)) (Nat.le_refl _) _ _, h9.fz k, h9.cell (by rw [HVL.out]; exact hlt), h9.lt⟩
      have HVL2 : Hid (∀ v, (vs.set k v).length = N) := fun v => by rw [List.length_set]; exact HVL.out
      clear hV hX hA hbA HR
      generalize factM L k = fm at *
      go_wp2_with fail
      refine hC.mono ?_
      rintro e w7 ⟨v, rfl, ho7, hb7⟩
      obtain ⟨s1, s2, s3, s4, s5⟩ := HSTP.out w7 v hb7 ho7
      have S1 : Hid (LpO w (w7.setCell ⟨w.heap.size, k, none⟩ v) w.heap.size (fun n => bitsZ (factM L n)) (vs.set k v) (k + 1)) := s1
      obtain ⟨va, vc, hve⟩ := ho7.slice
      subst hve
      clear hC HSTP s1 ho7 hb7 c0 c1 c2 c3 c4 lV x0 x1 x2 x3 x4 x5 hAs
      go_wp2
      go_roundw
      case rel => exact ⟨k + 1, _, by omega, by go_num, S1, HVL2.out _, s2⟩
      case measure => simp [intOf]; omega
    · obtain rfl : k = N := by omega
      have HE : Hid (LssM wr (.slice (some ⟨w.heap.size, 0, none⟩) k k) ((List.range k).map fun n => bitsZ (factM L n))) := HR.out.final HVL.out
      clear HR
      go_wp2
      go_ret
      exact ⟨_, rfl, HE.out, hbw⟩

end Go.Proofs.YtmkimaceioacgaaDoor

namespace Go.Proofs.YtmkimaceioacgaaDoor
open Go.RowKit
set_option linter.unusedVariables false

theorem TabM.setT {w : World} {D n m : Nat} {bl : Nat → Nat} {LL : Nat → List Bool} (h : TabM w D n m bl LL) {i k : Nat} (hi : i < n) (b : Bool) : TabM (w.setCell ⟨bl i, k, none⟩ (.bool b)) D n m bl (setT LL i k b) := h.set hi b
/-- a production in a variable -/
def BoxP (w : World) (b : Nat) (lf : Int) (rv : Value) (lv : Int) : Prop := w.heap[b]? = some (.cells #[.int .i64 lf, rv, .int .i64 lv] 38 (0, 0))
theorem BoxP.lt {w : World} {b : Nat} {lf lv : Int} {rv : Value} (h : BoxP w b lf rv lv) : b < w.heap.size := (Array.getElem?_eq_some_iff.1 h).1
theorem BoxP.c0 {w : World} {b : Nat} {lf lv : Int} {rv : Value} (h : BoxP w b lf rv lv) : w.cell? ⟨b, 0, none⟩ = some (.int .i64 lf) := by unfold BoxP at h; simp only [World.cell?, h]; rfl
theorem BoxP.c1 {w : World} {b : Nat} {lf lv : Int} {rv : Value} (h : BoxP w b lf rv lv) : w.cell? ⟨b, 1, none⟩ = some rv := by unfold BoxP at h; simp only [World.cell?, h]; rfl
theorem BoxP.c2 {w : World} {b : Nat} {lf lv : Int} {rv : Value} (h : BoxP w b lf rv lv) : w.cell? ⟨b, 2, none⟩ = some (.int .i64 lv) := by unfold BoxP at h; simp only [World.cell?, h]; rfl
theorem BoxP.other {w : World} {b B o : Nat} {lf lv : Int} {rv v : Value} (h : BoxP w b lf rv lv) (hne : b ≠ B) : BoxP (w.setCell ⟨B, o, none⟩ v) b lf rv lv := by
  unfold BoxP at *
  rw [Below.heap_setCell _ _ _ _ (by simpa using hne)]
  exact h
theorem BoxP.drew {w : World} {b : Nat} {lf lv : Int} {rv : Value} (h : BoxP w b lf rv lv) : BoxP w.drew b lf rv lv := h
theorem BoxP.below {w w' : World} {b : Nat} {lf lv : Int} {rv : Value} (h : BoxP w b lf rv lv) {K : Nat} (hB : b < K) (hb : Below K w w') : BoxP w' b lf rv lv := (hb.block b hB).trans h
theorem TabM.bl_lt {w : World} {D n m : Nat} {bl : Nat → Nat} {LL : Nat → List Bool} (h : TabM w D n m bl LL) {j : Nat} (hj : j < n) : bl j < w.heap.size := (h.row j hj).lt

end Go.Proofs.YtmkimaceioacgaaDoor

namespace Go.Proofs.YtmkimaceioacgaaDoor
open Go.RowKit
set_option linter.unusedVariables false
set_option maxRecDepth 100000

theorem Tryd.infoOps : (Tryd.prog.info? 82).map (fun i => (i.zero, i.size, i.bytes)) = some (some (.slice none 0 0), 1, 24) := by kernel_rfl
/-- a row of rows of openings -/
def RowVo (w : World) (D : Nat) (vs : List Value) : Prop := w.heap[D]? = some (.cells vs.toArray 82 (0, 0))
theorem RowVo.lt {w : World} {D : Nat} {vs : List Value} (h : RowVo w D vs) : D < w.heap.size := (Array.getElem?_eq_some_iff.1 h).1
theorem RowVo.fz {w : World} {D : Nat} {vs : List Value} (h : RowVo w D vs) (j : Nat) : w.frozen? ⟨D, j, none⟩ = false := by
  unfold RowVo at h
  simp [World.frozen?, h]
theorem RowVo.cell {w : World} {D : Nat} {vs : List Value} (h : RowVo w D vs) {j : Nat} (hj : j < vs.length) : w.cell? ⟨D, j, none⟩ = some (vs.getD j (.slice none 0 0)) := by
  unfold RowVo at h
  simp [World.cell?, h, List.getD, hj]
theorem RowVo.set {w : World} {D : Nat} {vs : List Value} (h : RowVo w D vs) (j : Nat) (x : Value) : RowVo (w.setCell ⟨D, j, none⟩ x) D (vs.set j x) := by
  unfold RowVo at *
  rw [heap_setC _ _ _ _ _ _ h]
  simp
theorem RowO.other {w : World} {D : Nat} {L : List (Nat × Bool)} (h : RowO w D L) {B o : Nat} {v : Value} (hne : D ≠ B) : RowO (w.setCell ⟨B, o, none⟩ v) D L := by
  unfold RowO at *
  rw [Below.heap_setCell _ _ _ _ (by simpa using hne)]
  exact h
/-- how the rest of a production begins, in memory -/
def OpR (w : World) (D : Nat) (f : Nat → Nat) (e : Nat → Bool) (r : List Int) (v : Value) : Prop := ∃ b O, v = .slice (some ⟨b, 0, none⟩) (r.length + 1) (r.length + 1) ∧ b ≠ D ∧ RowO w b O ∧ O.length = r.length + 1 ∧ ∀ i, i ≤ r.length → factQ O i = opnS f e (r.drop i)
structure PoO (w : World) (D : Nat) (f : Nat → Nat) (e : Nat → Bool) (ps : List PdR) (vs : List Value) (k : Nat) : Prop where
  row : RowVo w D vs
  done : ∀ j, j < k → OpR w D f e (ps.getD j noPd).right (vs.getD j (.slice none 0 0))
theorem OpR.below {w w' : World} {D : Nat} {f : Nat → Nat} {e : Nat → Bool} {r : List Int} {v : Value} (h : OpR w D f e r v) (hb : Below w.heap.size w w') : OpR w' D f e r v := by
  obtain ⟨b, O, h1, h2, h3, h4⟩ := h
  exact ⟨b, O, h1, h2, h3.below hb, h4⟩
theorem PoO.below {w w' : World} {D : Nat} {f : Nat → Nat} {e : Nat → Bool} {ps : List PdR} {vs : List Value} {k : Nat} (h : PoO w D f e ps vs k) (hb : Below w.heap.size w w') : PoO w' D f e ps vs k :=
  ⟨(hb.block D h.row.lt).trans h.row, fun j hj => (h.done j hj).below hb⟩
theorem PoO.step {w w' : World} {D : Nat} {f : Nat → Nat} {e : Nat → Bool} {ps : List PdR} {vs : List Value} {k : Nat} (h : PoO w D f e ps vs k) (hk : k < vs.length) (hb : Below w.heap.size w w') {v : Value} (hv : OpR w' D f e (ps.getD k noPd).right v) : PoO (w'.setCell ⟨D, k, none⟩ v) D f e ps (vs.set k v) (k + 1) := by
  have h' := h.below hb
  have hkp : ∀ r u, OpR w' D f e r u → OpR (w'.setCell ⟨D, k, none⟩ v) D f e r u := fun r u ⟨b, O, h1, h2, h3, h4⟩ => ⟨b, O, h1, h2, h3.other h2, h4⟩
  refine ⟨h'.row.set k v, fun j hj => ?_⟩
  by_cases e1 : j = k
  · subst e1
    rw [show (vs.set j v).getD j (.slice none 0 0) = v by simp [List.getD, hk]]
    exact hkp _ _ hv
  · rw [show (vs.set k v).getD j (.slice none 0 0) = vs.getD j (.slice none 0 0) by simp only [List.getD]; rw [List.getElem?_set_ne (Ne.symm e1)]]
    exact hkp _ _ (h'.done j (by omega))
/-- what 'firsts' says -/
structure FsOk (N : Nat) (ps : List PdR) (L : List Nat) : Prop where
  len : L.length = N
  lt : ∀ n, factM L n < 512
  bit : ∀ n, n < N → ∀ i, ((factM L n).testBit i = true ↔ fstP N ps n i)
  liv : ∀ n, n < N → hgtB true (prsS ps) N n = true → factM L n ≠ 0 ∨ hgtB false (prsS ps) N n = true
/-- behind the first statement -/
structure PrF (w0 wx : World) (N : Nat) (ps : List PdR) (FB EB : Nat) (L : List Nat) (E : List Bool) : Prop where
  fr : RowM wx FB L
  fs : FsOk N ps L
  er : RowB wx EB E
  el : E.length = N
  ef : factB E = hgtB false (prsS ps) N
  bl : Below w0.heap.size w0 wx

end Go.Proofs.YtmkimaceioacgaaDoor
