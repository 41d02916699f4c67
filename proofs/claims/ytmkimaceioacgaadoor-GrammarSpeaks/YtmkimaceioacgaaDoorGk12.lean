/- Texts of the proof, put together: GHvT, GWho, GRch, GRcN, GAlk. -/
import Derived.Test.YtmkimaceioacgaaDoorGk06
import Derived.Test.YtmkimaceioacgaaDoorGk10
import Derived.Test.YtmkimaceioacgaaDoorGk11
import Derived.Laws.Rows
namespace Go.Proofs.YtmkimaceioacgaaDoor
open Go.RowKit
set_option linter.unusedVariables false
set_option maxRecDepth 100000

theorem link_of (ps : List PdR) (hl : ∀ p ∈ ps, 0 ≤ p.left) (p : PdR) (hp : p ∈ ps) (s : Int) (hs : s ∈ p.right) (h0 : s < 0) : linkR ps ps.length p.left.toNat (-1 - s).toNat := by
  have h1 := hl _ hp
  obtain ⟨i, hi, rfl⟩ := List.mem_iff_getElem.1 hp
  obtain ⟨j, hj, rfl⟩ := List.mem_iff_getElem.1 hs
  have e : ps.getD i noPd = ps[i] := by simp [List.getD, hi]
  refine ⟨i, hi, ?_⟩
  rw [e]
  refine ⟨by omega, j, hj, ?_⟩
  have e2 : (ps[i]).right.getD j 0 = (ps[i]).right[j] := by simp [List.getD, hj]
  rw [e2]
  exact ⟨h0, by omega⟩
theorem hasB_same {leaf : Bool} {f g : Nat → Bool} (r : List Int) (h : ∀ s ∈ r, s < 0 → f (-1 - s).toNat = g (-1 - s).toNat) : hasB leaf f r = hasB leaf g r := by
  unfold hasB
  rw [Bool.eq_iff_iff, List.all_eq_true, List.all_eq_true]
  refine forall_congr' fun s => forall_congr' fun hs => ?_
  by_cases h0 : s < 0
  · rw [if_pos h0, if_pos h0, h s hs h0]
  · rw [if_neg h0, if_neg h0]
theorem saysB_ok (leaf : Bool) (N : Nat) (ps : List PdR) (hl : ∀ p ∈ ps, 0 ≤ p.left) : SayOk N (saysB leaf (prsS ps)) (linkR ps ps.length) (fun n => ∃ h, hgtB leaf (prsS ps) h n = true) where
  mono f g h n hf := saysB_mono h n hf
  dep f g n hn h := by
    have hp : ∀ p ∈ prsS ps, p.left = n → hasB leaf f p.right = hasB leaf g p.right := fun q hq e => by
      obtain ⟨p, hp, rfl⟩ := List.mem_map.1 hq
      refine hasB_same _ fun s hs h0 => h _ ?_
      have := link_of ps hl p hp s hs h0
      have e' : p.left.toNat = n := e
      rw [e'] at this
      exact this
    rw [Bool.eq_iff_iff, saysB_iff, saysB_iff]
    constructor
    · rintro ⟨p, hp1, h1, h2⟩; exact ⟨p, hp1, h1, by rw [← hp p hp1 h1]; exact h2⟩
    · rintro ⟨p, hp1, h1, h2⟩; exact ⟨p, hp1, h1, by rw [hp p hp1 h1]; exact h2⟩
  sound f h n hn hs := by
    obtain ⟨p, hp, rfl, h2⟩ := (saysB_iff _ _ _ _).1 hs
    exact SoundB.step h hp h2
theorem WkB.trees {leaf : Bool} {N : Nat} {ps : List PdR} {L : List Bool} (h : WkB (saysB leaf (prsS ps)) (fun n => ∃ h, hgtB leaf (prsS ps) h n = true) N L (fun _ => False)) (hN : ∀ p ∈ prsS ps, p.left < N) : ∀ n, factB L n = hgtB leaf (prsS ps) N n :=
  bools_unique (leaf := leaf) (ps := prsS ps) (fun p hp h2 => by rw [h.closed p.left (hN p hp) (fun e => e), saysB_iff]; exact ⟨p, hp, rfl, h2⟩) h.sound (hgtB_closed leaf (prsS ps) N hN) (fun n hn => ⟨N, hn⟩)

set_option maxHeartbeats 4000000 in
theorem haveTrees_any (leaf : Bool) (t s : Int) (N : Nat) (ps : List PdR) (ls ss : List Int) (pv lv sv : Value) (w : World) (hG : GOkM N ps) (h : PdsM w pv ps) :
    Calls Tryd.prog 19 #[gv ⟨t, N, s, ps, ls, ss⟩ pv lv sv, .bool leaf] w fun e w' => ∃ B L, e = .returned (.slice (some ⟨B, 0, none⟩) N N) ∧ RowB w' B L ∧ L.length = N ∧ (∀ n, factB L n = hgtB leaf (prsS ps) N n) ∧ w.heap.size ≤ B ∧ Below w.heap.size w w' := by
  have hB0 := boxG_below w ⟨t, N, s, ps, ls, ss⟩ pv lv sv
  have hB1 := boxG_size w ⟨t, N, s, ps, ls, ss⟩ pv lv sv
  have hB2 := boxG_box w ⟨t, N, s, ps, ls, ss⟩ pv lv sv
  have hmf : ∀ (fn : Fn) (first cap : Array Value) (w : World), (Instr.makeFunc fn first cap).run Tryd.prog w = .ok (.func fn first cap) w := fun _ _ _ _ => rfl
  have hF0 := alloc_below (boxG w ⟨t, N, s, ps, ls, ss⟩ pv lv sv) (.cells #[.bool leaf] 4)
  have hF1 := alloc_size (boxG w ⟨t, N, s, ps, ls, ss⟩ pv lv sv) (.cells #[.bool leaf] 4)
  have hFc : VarF ((boxG w ⟨t, N, s, ps, ls, ss⟩ pv lv sv).alloc (.cells #[.bool leaf] 4)) (boxG w ⟨t, N, s, ps, ls, ss⟩ pv lv sv).heap.size leaf := by
    have h : ((boxG w ⟨t, N, s, ps, ls, ss⟩ pv lv sv).alloc (.cells #[.bool leaf] 4)).heap[(boxG w ⟨t, N, s, ps, ls, ss⟩ pv lv sv).heap.size]? = some (.cells #[.bool leaf] 4) := by
      show ((boxG w ⟨t, N, s, ps, ls, ss⟩ pv lv sv).heap.push _)[_]? = _
      exact Array.getElem?_push_size
    refine ⟨by omega, ?_⟩
    simp only [World.cell?, h]; rfl
  have hOP := ownProds_any t s N ps ls ss pv lv sv ((boxG w ⟨t, N, s, ps, ls, ss⟩ pv lv sv).alloc (.cells #[.bool leaf] 4)) hG.n hG.len (fun m hm => ⟨(hG.pd m hm).1.1, (hG.pd m hm).1.2.1⟩) ((h.below hB0).below hF0)
  obtain ⟨pa, pc, rfl⟩ := h.slice
  have HP : Hid (PdsM w (.slice pa ps.length pc) ps) := h
  have hB3 := hB2.below (K := (boxG w ⟨t, N, s, ps, ls, ss⟩ (.slice pa ps.length pc) lv sv).heap.size) (by omega) hF0
  have HBX : Hid (BoxG ((boxG w ⟨t, N, s, ps, ls, ss⟩ (.slice pa ps.length pc) lv sv).alloc (.cells #[.bool leaf] 4)) w.heap.size ⟨t, N, s, ps, ls, ss⟩ (.slice pa ps.length pc) lv sv) := hB3
  have hB4 : Below w.heap.size w ((boxG w ⟨t, N, s, ps, ls, ss⟩ (.slice pa ps.length pc) lv sv).alloc (.cells #[.bool leaf] 4)) := hB0.trans (hF0.mono (by omega))
  rw [hB1] at hF1 hFc
  clear h hB0 hB2 hF0
  unfold boxG gv gvs at hOP
  unfold boxG gvs at hB1 hB3 hB4 HBX hF1 hFc
  unfold gv gvs
  simp only at *
  obtain ⟨q0, q1, q2, q3, q4, q5, q6⟩ := hB3
  simp only at q0 q1 q2 q3 q4 q5 q6
  go_enter Tryd.func19, Tryd.ntmps19
  go_wp2_with fail
  refine hOP.mono ?_
  rintro e w2 ⟨rfl, hown, hb2⟩
  clear hOP q0 q1 q2 q3 q4 q5 q6
  try rw [hB1]
  clear hB1
  generalize (w.alloc (.cells #[.int .i64 t, .int .i64 N, .int .i64 s, .slice pa ps.length pc, lv, sv] 25)).alloc (.cells #[.bool leaf] 4) = w0 at *
  generalize w0.heap.size + 1 = DD at *
  have hb2' : Below w.heap.size w w2 := hB4.trans (hb2.mono (by omega))
  have hAb := alloc_below w2 (.cells #[.slice (some ⟨DD, 0, none⟩) N N] 58)
  have hAs := alloc_size w2 (.cells #[.slice (some ⟨DD, 0, none⟩) N N] 58)
  have HOM : Hid (OwnM (w2.alloc (.cells #[.slice (some ⟨DD, 0, none⟩) N N] 58)) w2.heap.size N (ownL ps)) := by
    have hd := hown.below hAb
    have h : (w2.alloc (.cells #[.slice (some ⟨DD, 0, none⟩) N N] 58)).heap[w2.heap.size]? = some (.cells #[.slice (some ⟨DD, 0, none⟩) N N] 58) := by
      show (w2.heap.push _)[w2.heap.size]? = _
      exact Array.getElem?_push_size
    refine ⟨DD, by rw [hAs]; omega, hd.1, ?_, hd.2⟩
    simp only [World.cell?, h]; rfl
  have HFC : Hid (VarF (w2.alloc (.cells #[.slice (some ⟨DD, 0, none⟩) N N] 58)) (w.heap.size + 1) leaf) := (hFc.below hb2).below hAb
  have hbx2 : Below w0.heap.size w0 (w2.alloc (.cells #[.slice (some ⟨DD, 0, none⟩) N N] 58)) := hb2.trans (hAb.mono hb2.size)
  obtain ⟨q0, q1, q2, q3, q4, q5, q6⟩ := HBX.out.below (show w.heap.size < w0.heap.size by omega) hbx2
  simp only at q0 q1 q2 q3 q4 q5 q6
  have hb3 : Below w.heap.size w (w2.alloc (.cells #[.slice (some ⟨DD, 0, none⟩) N N] 58)) := hb2'.trans (hAb.mono hb2'.size)
  have hWi := within_any t s N ps ls ss (.slice pa ps.length pc) lv sv (w2.alloc (.cells #[.slice (some ⟨DD, 0, none⟩) N N] 58)) hG.n hG.len hG.pd (HP.out.below hb3)
  unfold gv gvs at hWi
  simp only at hWi
  clear hown hbx2 hAb hFc
  have hlt2 : w2.heap.size < (w2.alloc (.cells #[.slice (some ⟨DD, 0, none⟩) N N] 58)).heap.size := by omega
  clear hAs
  go_wp2_with fail
  refine hWi.mono ?_
  rintro e w4 ⟨rfl, ⟨cnt, hlnk, hcb⟩, hb4⟩
  clear hWi q0 q1 q2 q3 q4 q5 q6
  generalize w2.alloc (.cells #[.slice (some ⟨DD, 0, none⟩) N N] 58) = w3 at *
  have hb4' : Below w.heap.size w w4 := hb3.trans (hb4.mono hb3.size)
  have hOM4 := HOM.out.below hb4
  have hFC4 := HFC.out.below hb4
  have hen : ∀ args w, (callFunc 40 args).run Tryd.prog w = .ok (.enter 40 args) w := enters_of Tryd.func40 (by kernel_rfl) rfl
  have hl : ∀ p ∈ ps, 0 ≤ p.left := fun p hp => (hG.mem hp).1.1
  have hSy : SaysG w4 40 (.pointer (some ⟨w2.heap.size, 0, none⟩)) (.pointer (some ⟨w.heap.size + 1, 0, none⟩)) N (saysB leaf (prsS ps)) := by
    intro w' L B n hn hL hv hb
    have := haveC_any N hG.n (ownL ps) L leaf B n w2.heap.size (w.heap.size + 1) hn w' (Nat.le_trans (ownL_len ps n) hG.len) (fun p hp => (hG.mem (List.mem_filter.1 hp).1).2) hL hv (hOM4.below hb) (hFC4.below hb)
    rw [anyB_says _ _ ps hl n] at this
    exact this
  have hLe := leastB_any N hG.n _ _ _ 10000 (by omega) (saysB_ok leaf N ps hl) 40 hen (.pointer (some ⟨w2.heap.size, 0, none⟩)) (.pointer (some ⟨w.heap.size + 1, 0, none⟩)) w4 (w3.heap.size + 1) _ cnt hlnk (fun n _ => Nat.le_trans (hcb n) (by omega)) (fun n k _ hk => hG.link n k hk) hSy
  have HLT : Hid (∀ p ∈ prsS ps, p.left < N) := fun q hq => by
    obtain ⟨p, hp, rfl⟩ := List.mem_map.1 hq
    have h1 := (hG.mem hp).1
    show p.left.toNat < N
    have h2 := h1.1; have h3 := h1.2.1
    omega
  clear hSy hOM4 hFC4 HFC HOM hlnk hcb hl
  go_wp2_with fail
  refine hLe.mono ?_
  rintro e w5 ⟨B, L, rfl, hrow, hwk, hB, hb5⟩
  have HRw : Hid (RowB w5 B L) := hrow
  have HWk : Hid (∀ n, factB L n = hgtB leaf (prsS ps) N n) := hwk.trees HLT.out
  have HLn : Hid (L.length = N) := hwk.len
  have hb5' : Below w.heap.size w w5 := hb4'.trans (hb5.mono hb4'.size)
  have hBl : w.heap.size ≤ B := Nat.le_trans hb4'.size hB
  clear hrow hwk hLe HLT
  go_wp2
  go_ret
  exact ⟨B, L, rfl, HRw.out, HLn.out, HWk.out, hBl, hb5'⟩

end Go.Proofs.YtmkimaceioacgaaDoor

namespace Go.Proofs.YtmkimaceioacgaaDoor
open Go.RowKit
set_option linter.unusedVariables false
set_option maxRecDepth 100000

/-- each symbol of a production has a tree -/
def keepP (N : Nat) (ps : List PdR) (p : PdR) : Bool := hasB true (hgtB true (prsS ps) N) p.right
/-- the productions that stand in trees -/
def wholeP (N : Nat) (ps : List PdR) : List PdR := ps.filter (keepP N ps)
/-- the productions that are left so far, in memory -/
structure WhI (w0 w : World) (B : Nat) (v : Value) (l : List PdR) (zs : List (PdR × Value)) : Prop where
  own : w.ownsRow B 38 3 v zs.length (zcs zs)
  fst : zs.map Prod.fst = l
  rts : ∀ q ∈ zs, IntsR w0 q.2 q.1.right
theorem WhI.done {w0 w : World} {B : Nat} {v : Value} {l : List PdR} {zs : List (PdR × Value)} (h : WhI w0 w B v l zs) (hb : Below w0.heap.size w0 w) : PdsM w v l := by
  have hz := h.fst
  have hl : zs.length = l.length := by rw [← hz, List.length_map]
  have ho := h.own
  rcases ho.2 with ⟨e, h0⟩ | ⟨g, cap, cur, e, hB, hg, hcap, _⟩
  · exact ⟨none, 0, by rw [e, ← hl, h0], .inl (List.eq_nil_of_length_eq_zero (by omega))⟩
  · rw [e] at ho
    refine ⟨_, cap, by rw [e, hl], .inr ⟨g, 0, rfl, (Array.getElem?_eq_some_iff.1 hg).1, fun j hj => ?_⟩⟩
    have hjz : j < zs.length := by omega
    obtain ⟨q, hq⟩ : ∃ q, zs[j]? = some q := ⟨zs[j], by simp [hjz]⟩
    obtain ⟨c0, c1, c2⟩ := zcs_get _ _ _ hq
    have hp : l.getD j noPd = q.1 := by
      rw [← hz]
      simp [List.getD, hq]
    refine ⟨q.2, ?_⟩
    rw [hp, Nat.zero_add]
    exact ⟨(ho.cellAt _ (by omega)).trans c0, (ho.cellAt _ (by omega)).trans c1, (ho.cellAt _ (by omega)).trans c2, (h.rts q (List.mem_of_getElem? hq)).below hb⟩
theorem WhI.below {w0 w w' : World} {B : Nat} {v : Value} {l : List PdR} {zs : List (PdR × Value)} (h : WhI w0 w B v l zs) (hb : Below w.heap.size w w') : WhI w0 w' B v l zs :=
  ⟨h.own.kept (row := none) ⟨hb.os, hb.tape, hb.output, hb.size, fun k hk _ => hb.block k hk⟩ (by cases hq : v.ownBlock <;> simp), h.fst, h.rts⟩
theorem WhI.slice {w0 w : World} {B : Nat} {v : Value} {l : List PdR} {zs : List (PdR × Value)} (h : WhI w0 w B v l zs) : ∃ a c, v = .slice a zs.length c := by
  rcases h.own.2 with ⟨e, h0⟩ | ⟨g, cap, cur, e, _⟩
  · exact ⟨none, 0, by rw [e, h0]⟩
  · exact ⟨_, _, e⟩
theorem grown_belowO {w w' : World} {row : Option Nat} {B : Nat} (h : w.grownBy w' row) (hB : ∀ g, row = some g → B ≤ g) (hs : B ≤ w.heap.size) : Below B w w' :=
  ⟨h.os, h.tape, h.output, h.size, fun k hk => h.block k (by omega) (fun e => by have := hB k e.symm; omega)⟩
theorem filter_take {α : Type} (l : List α) (d : α) (f : α → Bool) (k : Nat) (h : k < l.length) : (l.take (k + 1)).filter f = if f (l.getD k d) then (l.take k).filter f ++ [l.getD k d] else (l.take k).filter f := by
  have e : l.getD k d = l[k] := by simp [List.getD, h]
  rw [List.take_succ_eq_append_getElem h, List.filter_append, e]
  by_cases hf : f l[k] = true
  · simp [hf]
  · simp [hf]

theorem Tryd.infoGramSz : (Tryd.prog.info? 25).map (·.size) = some 6 := by kernel_rfl
theorem six_cells {w : World} {b : Nat} {ty : TypeId} {a0 a1 a2 a3 a4 a5 : Value} (h : w.heap[b]? = some (.cells #[a0, a1, a2, a3, a4, a5] ty (0, 0))) :
    w.cell? ⟨b, 0, none⟩ = some a0 ∧ w.cell? ⟨b, 1, none⟩ = some a1 ∧ w.cell? ⟨b, 2, none⟩ = some a2 ∧ w.cell? ⟨b, 3, none⟩ = some a3 ∧ w.cell? ⟨b, 4, none⟩ = some a4 ∧ w.cell? ⟨b, 5, none⟩ = some a5 ∧ (∀ j, w.frozen? ⟨b, j, none⟩ = false) ∧ b < w.heap.size := by
  refine ⟨?_, ?_, ?_, ?_, ?_, ?_, fun j => ?_, (Array.getElem?_eq_some_iff.1 h).1⟩
  all_goals first | (simp [World.cell?, h]; done) | simp [World.frozen?, h]

end Go.Proofs.YtmkimaceioacgaaDoor

namespace Go.Proofs.YtmkimaceioacgaaDoor
open Go.RowKit
open Go.Maps (Keyed)
set_option linter.unusedVariables false
set_option maxRecDepth 100000

/-- a variable that holds links -/
structure VarL (w : World) (H D N : Nat) (mp cnt : Nat → Nat) (r : Nat → Nat → Prop) : Prop where
  lt : H < w.heap.size
  cell : w.cell? ⟨H, 0, none⟩ = some (.slice (some ⟨D, 0, none⟩) N N)
  lnk : LinksM w D N mp cnt r
theorem VarL.below {w w' : World} {H D N : Nat} {mp cnt : Nat → Nat} {r : Nat → Nat → Prop} (h : VarL w H D N mp cnt r) (hb : Below w.heap.size w w') : VarL w' H D N mp cnt r :=
  ⟨Nat.lt_of_lt_of_le h.lt hb.size, (hb.cell (p := ⟨H, 0, none⟩) h.lt).trans h.cell, h.lnk.below hb⟩

end Go.Proofs.YtmkimaceioacgaaDoor

namespace Go.Proofs.YtmkimaceioacgaaDoor
open Go.RowKit
set_option linter.unusedVariables false
set_option maxRecDepth 100000

theorem GOkM.whole {N : Nat} {ps : List PdR} (h : GOkM N ps) : GOkM N (wholeP N ps) := by
  refine ⟨h.n, Nat.le_trans (List.length_filter_le _ _) h.len, fun m hm => ?_⟩
  have e : (wholeP N ps).getD m noPd ∈ wholeP N ps := by simp [List.getD, hm]
  obtain ⟨h1, h2⟩ := h.mem (List.mem_filter.1 e).1
  exact ⟨h1, fun j hj => (h2.2 j hj).2⟩
/-- a name stands in a production -/
def inB (p : PdR) (n : Nat) : Bool := p.right.any fun x => decide (x < 0) && decide ((-1 - x).toNat = n)
theorem inB_iff (p : PdR) (n : Nat) : inB p n = true ↔ ∃ x ∈ p.right, x < 0 ∧ (-1 - x).toNat = n := by
  unfold inB
  rw [List.any_eq_true]
  simp only [Bool.and_eq_true, decide_eq_true_eq]
/-- what the hosts of a name say -/
def reachB (ps : List PdR) (s : Int) (f : Nat → Bool) (n : Nat) : Bool := (ps.any fun p => inB p n && f p.left.toNat) || decide ((n : Int) = s)
theorem reachB_iff (ps : List PdR) (s : Int) (f : Nat → Bool) (n : Nat) : reachB ps s f n = true ↔ (∃ p ∈ ps, inB p n = true ∧ f p.left.toNat = true) ∨ (n : Int) = s := by
  unfold reachB
  rw [Bool.or_eq_true, List.any_eq_true, decide_eq_true_eq]
  simp only [Bool.and_eq_true]
theorem reach_link {N : Nat} {ps : List PdR} (hG : GOkM N ps) (s : Int) (f : Nat → Bool) (n : Nat) : reachB ps s f n = true ↔ (∃ k, (k < N ∧ linkR ps ps.length k n) ∧ f k = true) ∨ (n : Int) = s := by
  rw [reachB_iff]
  refine or_congr_left ?_
  constructor
  · rintro ⟨p, hp, h1, h2⟩
    obtain ⟨x, hx, h3, h4⟩ := (inB_iff p n).1 h1
    have h5 := link_of ps (fun p hp => (hG.mem hp).1.1) p hp x hx h3
    rw [h4] at h5
    have h6 := (hG.mem hp).1
    exact ⟨p.left.toNat, ⟨by have := h6.1; have := h6.2.1; omega, h5⟩, h2⟩
  · rintro ⟨k, ⟨_, q, hq, hl, i, hi, h1, h2⟩, h3⟩
    refine ⟨ps.getD q noPd, by simp [List.getD, hq], (inB_iff _ _).2 ⟨(ps.getD q noPd).right.getD i 0, ?_, h1, by omega⟩, ?_⟩
    · have e : ∀ (l : List Int) (i : Nat), i < l.length → l.getD i 0 ∈ l := fun l i h => by simp [List.getD, h]
      exact e _ i hi
    · rw [hl, Int.toNat_natCast]; exact h3
/-- .. by so many steps -/
def reachH (ps : List PdR) (s : Int) : Nat → Nat → Bool
  | 0, _ => false
  | h + 1, n => reachB ps s (reachH ps s h) n
theorem reachB_mono {ps : List PdR} {s : Int} {f g : Nat → Bool} (h : ∀ n, f n = true → g n = true) (n : Nat) (hf : reachB ps s f n = true) : reachB ps s g n = true := by
  rw [reachB_iff] at *
  rcases hf with ⟨p, hp, h1, h2⟩ | h1
  · exact .inl ⟨p, hp, h1, h _ h2⟩
  · exact .inr h1
theorem reachB_ok {N : Nat} {ps : List PdR} (hG : GOkM N ps) (s : Int) : SayOk N (reachB ps s) (fun n k => k < N ∧ linkR ps ps.length k n) (fun n => ∃ h, reachH ps s h n = true) where
  mono f g h n hf := reachB_mono h n hf
  dep f g n hn h := by
    rw [Bool.eq_iff_iff, reach_link hG, reach_link hG]
    refine or_congr_left ?_
    constructor
    · rintro ⟨k, h1, h2⟩; exact ⟨k, h1, by rw [← h k h1]; exact h2⟩
    · rintro ⟨k, h1, h2⟩; exact ⟨k, h1, by rw [h k h1]; exact h2⟩
  sound f h n hn hs := by
    rcases (reachB_iff _ _ _ _).1 hs with ⟨p, hp, h1, h2⟩ | h1
    · obtain ⟨k, hk⟩ := h _ h2
      exact ⟨k + 1, (reachB_iff _ _ _ _).2 (.inl ⟨p, hp, h1, hk⟩)⟩
    · exact ⟨1, (reachB_iff _ _ _ _).2 (.inr h1)⟩
theorem WkB.reach {N : Nat} {ps : List PdR} {s : Int} {L : List Bool} (hG : GOkM N ps) (h : WkB (reachB ps s) (fun n => ∃ h, reachH ps s h n = true) N L (fun _ => False)) : ∀ n, n < N → (factB L n = true ↔ ∃ h, reachH ps s h n = true) := by
  have hup : ∀ k n, n < N → reachH ps s k n = true → factB L n = true := by
    intro k
    induction k with
    | zero => intro n _ h0; simp [reachH] at h0
    | succ k ih =>
      intro n hn h1
      rw [h.closed n hn (fun e => e), reachB_iff]
      rcases (reachB_iff _ _ _ _).1 (show reachB ps s (reachH ps s k) n = true from h1) with ⟨p, hp, h2, h3⟩ | h2
      · have h6 := (hG.mem hp).1
        exact .inl ⟨p, hp, h2, ih _ (by have := h6.1; have := h6.2.1; omega) h3⟩
      · exact .inr h2
  exact fun n hn => ⟨h.sound n, fun ⟨k, hk⟩ => hup k n hn hk⟩

end Go.Proofs.YtmkimaceioacgaaDoor

namespace Go.Proofs.YtmkimaceioacgaaDoor
open Go.RowKit
set_option linter.unusedVariables false
set_option maxRecDepth 100000

/-- at this place stands a name, and all others may be empty -/
def alkAt (e : Nat → Bool) (r : List Int) (i : Nat) : Bool := decide (r.getD i 0 < 0) && (hasB false e (r.take i) && hasB false e (r.drop (i + 1)))
def PdAlk (e : Nat → Bool) (p : PdR) (j m n : Nat) : Prop := p.left = (m : Int) ∧ ∃ i, i < j ∧ alkAt e p.right i = true ∧ -1 - p.right.getD i 0 = (n : Int)
def alkR (e : Nat → Bool) (ps : List PdR) (k : Nat) (m n : Nat) : Prop := ∃ q, q < k ∧ PdAlk e (ps.getD q noPd) (ps.getD q noPd).right.length m n
theorem alkR_succ (e : Nat → Bool) (ps : List PdR) (k m n : Nat) : alkR e ps (k + 1) m n ↔ alkR e ps k m n ∨ PdAlk e (ps.getD k noPd) (ps.getD k noPd).right.length m n := by
  constructor
  · rintro ⟨q, hq, h⟩
    by_cases e : q = k
    · subst e; exact .inr h
    · exact .inl ⟨q, by omega, h⟩
  · rintro (⟨q, hq, h⟩ | h)
    · exact ⟨q, by omega, h⟩
    · exact ⟨k, by omega, h⟩
theorem PdAlk_no (e : Nat → Bool) (p : PdR) (j m n : Nat) (h : alkAt e p.right j = false) : PdAlk e p (j + 1) m n ↔ PdAlk e p j m n := by
  constructor
  · rintro ⟨h1, i, hi, h2, h3⟩
    by_cases e : i = j
    · subst e; rw [h] at h2; cases h2
    · exact ⟨h1, i, by omega, h2, h3⟩
  · rintro ⟨h1, i, hi, h2⟩; exact ⟨h1, i, by omega, h2⟩
theorem PdAlk_yes (e : Nat → Bool) (p : PdR) (j lf q m n : Nat) (hl : p.left = (lf : Int)) (h : alkAt e p.right j = true) (hq : -1 - p.right.getD j 0 = (q : Int)) : PdAlk e p (j + 1) m n ↔ PdAlk e p j m n ∨ (m = lf ∧ n = q) := by
  constructor
  · rintro ⟨h1, i, hi, h2, h3⟩
    by_cases e : i = j
    · subst e; exact .inr ⟨by omega, by omega⟩
    · exact .inl ⟨h1, i, by omega, h2, h3⟩
  · rintro (⟨h1, i, hi, h2⟩ | ⟨rfl, rfl⟩)
    · exact ⟨h1, i, by omega, h2⟩
    · exact ⟨hl, j, by omega, h, hq⟩
theorem SymsL.take {N : Nat} {r : List Int} (h : SymsL N r) (k : Nat) : SymsL N (r.take k) := by
  refine ⟨Nat.le_trans (by rw [List.length_take]; omega) h.1, fun j hj => ?_⟩
  rw [List.length_take] at hj
  have := h.2 j (by omega)
  rwa [show (r.take k).getD j 0 = r.getD j 0 by simp [List.getD, List.getElem?_take_of_lt (show j < k by omega)]]
theorem SymsL.drop {N : Nat} {r : List Int} (h : SymsL N r) (k : Nat) : SymsL N (r.drop k) := by
  refine ⟨Nat.le_trans (by rw [List.length_drop]; omega) h.1, fun j hj => ?_⟩
  rw [List.length_drop] at hj
  have := h.2 (k + j) (by omega)
  rwa [show (r.drop k).getD j 0 = r.getD (k + j) 0 by simp [List.getD, List.getElem?_drop]]

end Go.Proofs.YtmkimaceioacgaaDoor
