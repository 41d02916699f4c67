/- Texts of the proof, put together: QPse, QGd, QPsm. -/
import Derived.Test.YtgmmfpdekefamaaGreatDoorAt26
import Derived.Test.YtgmmfpdekefamaaGreatDoorAt16
import Derived.Test.YtgmmfpdekefamaaGreatDoorAt15
namespace Go.Proofs.YtgmmfpdekefamaaGreatDoor
open Go.RowKit
set_option linter.unusedVariables false
set_option maxRecDepth 100000

/-- a checker, its arguments' types, and the errors, all below B -/
structure ShE (B : Nat) (W : World) (C : Nat) (args : List Sh) (an at' : Addr) : Prop where
 lo : 16 ≤ B
 le : B ≤ W.heap.size
 lt : C < B
 env : EnvC W an at'
 row : ∃ aa ac, W.cell? ⟨C, 0, none⟩ = some (.slice aa args.length ac) ∧ ∀ j, j < args.length → ∃ g off, aa = some ⟨g, off, none⟩ ∧ g < B ∧ W.cell? ⟨g, off + j * 2, none⟩ = some (.int .i64 (args.getD j noS).1) ∧ W.cell? ⟨g, off + j * 2 + 1, none⟩ = some (.int .i64 (args.getD j noS).2)
theorem EnvC.belowB {w w' : World} {an at' : Addr} {B : Nat} (h : EnvC w an at') (hB : 16 ≤ B) (hb : Below B w w') : EnvC w' an at' :=
 ⟨(hb.cell (p := ⟨3, 0, none⟩) (Nat.lt_of_lt_of_le (by decide) hB)).trans h.nam, (hb.cell (p := ⟨4, 0, none⟩) (Nat.lt_of_lt_of_le (by decide) hB)).trans h.typ⟩
theorem ShE.below {B : Nat} {W W' : World} {C : Nat} {args : List Sh} {an at' : Addr} (h : ShE B W C args an at') (hb : Below B W W') : ShE B W' C args an at' := by
 refine ⟨h.lo, Nat.le_trans h.le hb.size, h.lt, h.env.belowB h.lo hb, ?_⟩
 obtain ⟨aa, ac, h1, h2⟩ := h.row
 refine ⟨aa, ac, (hb.cell (p := ⟨C, 0, none⟩) h.lt).trans h1, fun j hj => ?_⟩
 obtain ⟨g, off, e, hg, c0, c1⟩ := h2 j hj
 exact ⟨g, off, e, hg, (hb.cell (p := ⟨g, off + j * 2, none⟩) hg).trans c0, (hb.cell (p := ⟨g, off + j * 2 + 1, none⟩) hg).trans c1⟩
theorem grown_below {W W' : World} {B : Nat} {r : Option Nat} (h : W.grownBy W' r) (hB : B ≤ W.heap.size) (hr : ∀ k, r = some k → B ≤ k) : Below B W W' :=
 ⟨h.os, h.tape, h.output, h.size, fun k hk => h.block k (by omega) fun e => by have := hr k e.symm; omega⟩
theorem below_grown {W W' : World} {r : Option Nat} (h : Below W.heap.size W W') : W.grownBy W' r := ⟨h.os, h.tape, h.output, h.size, fun k hk _ => h.block k hk⟩
theorem grownBy_trans {a b c : World} {r : Option Nat} (h : a.grownBy b r) (k : b.grownBy c r) : a.grownBy c r :=
 ⟨k.os.trans h.os, k.tape.trans h.tape, k.output.trans h.output, Nat.le_trans h.size k.size, fun i hi hr => (k.block i (Nat.lt_of_lt_of_le hi h.size) hr).trans (h.block i hi hr)⟩
theorem NmP.below {B : Nat} {W W' : World} {v : Value} {ns : List Nm} (h : NmP B W v ns) (hb : Below W.heap.size W W') : NmP B W' v ns := own_blockT h fun b hb2 => hb.block b (World.ownsRow.lt h b hb2).2
theorem NmP.lt {B : Nat} {W : World} {v : Value} {ns : List Nm} (h : NmP B W v ns) : ∀ k, v.ownBlock = some k → B ≤ k ∧ k < W.heap.size := World.ownsRow.lt h
/-- what the checker answers: it may have written behind the names in their row -/
def GotKp (B : Nat) (an at' : Addr) (W : World) (nv : Value) (ns : List Nm) (r : CkR) (e : Ending) (w' : World) : Prop := W.grownBy w' nv.ownBlock ∧ NmP B w' nv ns ∧ ((∃ s, r = .ok s ∧ e = .returned (.tuple #[shV s, .nilIface])) ∨ ∃ b u, r = .error b ∧ e = .returned (.tuple #[shV u, errV an at' b]))
theorem GotKp.yes {B : Nat} {an at' : Addr} {W w' : World} {nv : Value} {ns : List Nm} {r : CkR} {s : Sh} (hr : r = .ok s) (hg : W.grownBy w' nv.ownBlock) (hN : NmP B w' nv ns) : GotKp B an at' W nv ns r (.returned (.tuple #[shV s, .nilIface])) w' := ⟨hg, hN, .inl ⟨s, hr, rfl⟩⟩
theorem GotKp.no {B : Nat} {an at' : Addr} {W w' : World} {nv : Value} {ns : List Nm} {r : CkR} {b : Bool} (u : Sh) (hr : r = .error b) (hg : W.grownBy w' nv.ownBlock) (hN : NmP B w' nv ns) : GotKp B an at' W nv ns r (.returned (.tuple #[shV u, errV an at' b])) w' := ⟨hg, hN, .inr ⟨b, u, hr, rfl⟩⟩

set_option maxHeartbeats 4000000 in
theorem pse_arg {B : Nat} {an at' : Addr} {W : World} {C b : Nat} {args : List Sh} {nv : Value} {ns : List Nm} {num : Int} (hE : ShE B W C args an at') (hN : NmP B W nv ns) (hb : b < W.heap.size) (e0 : W.cell? ⟨b, 0, none⟩ = some (.int .i64 3)) (e1 : W.cell? ⟨b, 1, none⟩ = some (.int .i64 num)) (h1 : 1 ≤ num) (h2 : num ≤ 20) (hal : args.length ≤ 1000) :
  Calls Tryz.prog 37 #[.pointer (some ⟨C, 0, none⟩), .pointer (some ⟨b, 0, none⟩), nv] W (GotKp B an at' W nv ns (if (args.length : Int) < num then .error true else .ok (args.getD (num - 1).toNat noS))) := by
 have HS0 : Hid (S1 W (W.alloc (.cells #[.int .i64 0, .int .i64 0] 89))) := S1.new W
 have HN : Hid (NmP B W nv ns) := hN
 obtain ⟨aa, ac, cC, hrow⟩ := hE.row
 have hCl : C < W.heap.size := Nat.lt_of_lt_of_le hE.lt hE.le
 by_cases hlt : (args.length : Int) < num
 ·rw [if_pos hlt]
  have hNm := hE.env.nam
  have hNl := World.block_lt_of_cell? W _ hNm
  have hd : Below (W.alloc (.cells #[.int .i64 0, .int .i64 0] 89)).heap.size (W.alloc (.cells #[.int .i64 0, .int .i64 0] 89)) (W.alloc (.cells #[.int .i64 0, .int .i64 0] 89)).drew := below_drewG (Below.refl _ _) 1
  have HS2 : Hid (S1 W (W.alloc (.cells #[.int .i64 0, .int .i64 0] 89)).drew) := HS0.out.after hd
  have ne : W.heap.size ≠ 3 := by have : (3 : Nat) < W.heap.size := hNl; omega
  clear hd HS0 hE hN hrow
  go_enter Tryz.func37, Tryz.ntmps37
  go_wp2_with fail
  go_big_region
  generalize (W.alloc (.cells #[.int .i64 0, .int .i64 0] 89)).drew = w1 at *
  have d1 := (HS2.out.bel.cell (p := ⟨3, 0, none⟩) hNl).trans hNm
  have d1l := World.block_lt_of_cell? w1 _ d1
  have r0 := HS2.out.r.c0
  have r1 := HS2.out.r.c1
  have f0 := HS2.out.r.fz 0
  have f1 := HS2.out.r.fz 1
  have rr := HS2.out.r.lt
  have HS3 : Hid (ShAt (putS w1 W.heap.size 0 0).drew W.heap.size 0 0 ∧ Below W.heap.size W (putS w1 W.heap.size 0 0).drew) := by
   have h1 : ShAt (putS w1 W.heap.size 0 0) W.heap.size 0 0 := HS2.out.r.put 0 0
   have h2 : Below W.heap.size W (putS w1 W.heap.size 0 0) := below_putS HS2.out.bel (Nat.le_refl _) 0 0
   have h3 : Below (putS w1 W.heap.size 0 0).heap.size (putS w1 W.heap.size 0 0) (putS w1 W.heap.size 0 0).drew := below_drewG (Below.refl _ _) 1
   exact ⟨h1.below h3 h1.lt, h2.trans (h3.mono h2.size)⟩
  generalize hVV : putS w1 W.heap.size 0 0 = V0 at HS3
  have HW : Hid (putS w1 W.heap.size 0 0 = V0) := hVV
  clear HS2 hVV
  go_wp2_with fail
  go_big_region
  go_wp2
  have hW := HW.out
  unfold putS at hW
  rw [hW]
  generalize V0.drew = V at *
  have s0 := HS3.out.1.c0
  have s1 := HS3.out.1.c1
  refine bodyPost_ret (v := .tuple #[.agg #[.int .i64 0, .int .i64 0], errV an at' true]) ?_ rfl ?_
  ·simp [results, go_sem, s0, s1, errV]
  ·exact GotKp.no (0, 0) rfl (below_grown HS3.out.2) (HN.out.below HS3.out.2)
 ·rw [if_neg hlt]
  obtain ⟨j, rfl⟩ : ∃ j : Nat, num = (j : Int) + 1 := ⟨(num - 1).toNat, by omega⟩
  rw [show ((j : Int) + 1 - 1).toNat = j by omega]
  have hjl : j < args.length := by omega
  obtain ⟨g, off, rfl, hg, c0, c1⟩ := hrow j hjl
  have hgl : g < W.heap.size := Nat.lt_of_lt_of_le hg hE.le
  generalize args.getD j noS = s at *
  obtain ⟨ls, bs⟩ := s
  simp only at c0 c1
  have hd : Below (W.alloc (.cells #[.int .i64 0, .int .i64 0] 89)).heap.size (W.alloc (.cells #[.int .i64 0, .int .i64 0] 89)) (W.alloc (.cells #[.int .i64 0, .int .i64 0] 89)).drew := below_drewG (Below.refl _ _) 1
  have HS2 : Hid (S1 W (W.alloc (.cells #[.int .i64 0, .int .i64 0] 89)).drew) := HS0.out.after hd
  have hw2 : IntKind.i64.wrap ((j : Int) + 1 - 1) = (j : Int) := by rw [IntKind.wrap_i64]; omega
  have hi1 : (j : Int) < (args.length : Int) := by omega
  clear hd hE hN hrow hg hjl HS0
  go_enter Tryz.func37, Tryz.ntmps37
  go_wp2_with fail
  go_big_region
  generalize (W.alloc (.cells #[.int .i64 0, .int .i64 0] 89)).drew = w1 at *
  have hb1 := HS2.out.bel
  have r0 := HS2.out.r.c0
  have r1 := HS2.out.r.c1
  have f0 := HS2.out.r.fz 0
  have f1 := HS2.out.r.fz 1
  have rr := HS2.out.r.lt
  have hbl1 : b < w1.heap.size := Nat.lt_of_lt_of_le hb hb1.size
  have hCl1 : C < w1.heap.size := Nat.lt_of_lt_of_le hCl hb1.size
  have hgl1 : g < w1.heap.size := Nat.lt_of_lt_of_le hgl hb1.size
  have d1 := (hb1.cell (p := ⟨b, 1, none⟩) hb).trans e1
  have dC := (hb1.cell (p := ⟨C, 0, none⟩) hCl).trans cC
  have x0 := (hb1.cell (p := ⟨g, off + j * 2, none⟩) hgl).trans c0
  have x1 := (hb1.cell (p := ⟨g, off + j * 2 + 1, none⟩) hgl).trans c1
  have HS3 : Hid (ShAt (putS w1 W.heap.size ls bs).drew W.heap.size ls bs ∧ Below W.heap.size W (putS w1 W.heap.size ls bs).drew) := by
   have h1 : ShAt (putS w1 W.heap.size ls bs) W.heap.size ls bs := HS2.out.r.put ls bs
   have h2 : Below W.heap.size W (putS w1 W.heap.size ls bs) := below_putS HS2.out.bel (Nat.le_refl _) ls bs
   have h3 : Below (putS w1 W.heap.size ls bs).heap.size (putS w1 W.heap.size ls bs) (putS w1 W.heap.size ls bs).drew := below_drewG (Below.refl _ _) 1
   exact ⟨h1.below h3 h1.lt, h2.trans (h3.mono h2.size)⟩
  generalize hVV : putS w1 W.heap.size ls bs = V0 at HS3
  have HW : Hid (putS w1 W.heap.size ls bs = V0) := hVV
  clear HS2 hVV hb1
  go_wp2_with fail
  go_big_region
  go_wp2
  have hW := HW.out
  unfold putS at hW
  rw [hW]
  generalize V0.drew = V at *
  have s0 := HS3.out.1.c0
  have s1 := HS3.out.1.c1
  refine bodyPost_ret (v := .tuple #[.agg #[.int .i64 ls, .int .i64 bs], .nilIface]) ?_ rfl ?_
  ·simp [results, go_sem, s0, s1]
  ·exact GotKp.yes rfl (below_grown HS3.out.2) (HN.out.below HS3.out.2)

set_option maxHeartbeats 4000000 in
theorem pse_name {B : Nat} {an at' : Addr} {W : World} {C b : Nat} {args : List Sh} {nv : Value} {ns : List Nm} {tx : ByteArray} (hE : ShE B W C args an at') (hN : NmP B W nv ns) (hn : ns.length ≤ 1000) (hb : b < W.heap.size) (e0 : W.cell? ⟨b, 0, none⟩ = some (.int .i64 4)) (e2 : W.cell? ⟨b, 2, none⟩ = some (.string tx)) :
  Calls Tryz.prog 37 #[.pointer (some ⟨C, 0, none⟩), .pointer (some ⟨b, 0, none⟩), nv] W (GotKp B an at' W nv ns (match lkP ns tx.toList with | some s => .ok s | none => .error true)) := by
 have HS0 : Hid (S1 W (W.alloc (.cells #[.int .i64 0, .int .i64 0] 89))) := S1.new W
 have HN : Hid (NmP B W nv ns) := hN
 have HL : Hid (Calls Tryz.prog 69 #[nv, .string tx] (W.alloc (.cells #[.int .i64 0, .int .i64 0] 89)) (GotS (W.alloc (.cells #[.int .i64 0, .int .i64 0] 89)) (lkP ns tx.toList))) := alookup_any (hN.below HS0.out.bel) hn tx
 have HV : Hid (EnvC W an at') := hE.env
 generalize lkP ns tx.toList = O at *
 clear hE hN
 go_enter Tryz.func37, Tryz.ntmps37
 go_wp2_with fail
 generalize W.alloc (.cells #[.int .i64 0, .int .i64 0] 89) = w1 at *
 go_at_call 69
 refine HL.out.mono ?_
 rintro e w2 ⟨hb2, u, yes, rfl, hy, hu⟩
 have HS2 : Hid (S1 W w2) := HS0.out.after hb2
 obtain ⟨lu, bu⟩ := u
 clear hb2 HL HS0
 cases O with
 | none =>
  have hy' : yes = false := hy
  subst hy'
  have hEw : EnvC w2 an at' := HV.out.below HS2.out.bel
  have hNm := hEw.nam
  have hNl := World.block_lt_of_cell? w2 _ hNm
  have ne1 : W.heap.size ≠ 3 := by
   have h1 := World.block_lt_of_cell? W _ HV.out.nam
   have : (3 : Nat) < W.heap.size := h1
   omega
  have ne2 : w2.heap.size ≠ 3 := by have : (3 : Nat) < w2.heap.size := hNl; omega
  have hb6 : Below W.heap.size w2 (putS w2 W.heap.size 0 0) := below_putS (Below.refl _ _) (Nat.le_refl _) 0 0
  have ha7 := alloc_below (putS w2 W.heap.size 0 0) (.cells #[.int .i64 (lu : Int), .int .i64 bu] 89)
  have hd7 : Below ((putS w2 W.heap.size 0 0).alloc (.cells #[.int .i64 (lu : Int), .int .i64 bu] 89)).heap.size ((putS w2 W.heap.size 0 0).alloc (.cells #[.int .i64 (lu : Int), .int .i64 bu] 89)) ((putS w2 W.heap.size 0 0).alloc (.cells #[.int .i64 (lu : Int), .int .i64 bu] 89)).drew := below_drewG (Below.refl _ _) 1
  have hTW2 : ShAt ((putS w2 W.heap.size 0 0).alloc (.cells #[.int .i64 (lu : Int), .int .i64 bu] 89)) W.heap.size 0 0 := (HS2.out.r.put 0 0).below ha7 (HS2.out.r.put 0 0).lt
  have hTW3 := hTW2.below hd7 hTW2.lt
  have HS3 : Hid (ShAt ((putS w2 W.heap.size 0 0).alloc (.cells #[.int .i64 (lu : Int), .int .i64 bu] 89)).drew W.heap.size 0 0 ∧ Below W.heap.size W ((putS w2 W.heap.size 0 0).alloc (.cells #[.int .i64 (lu : Int), .int .i64 bu] 89)).drew) := by
   have h1 := HS2.out.bel.trans hb6
   have h2 := h1.trans (ha7.mono h1.size)
   exact ⟨hTW3, h2.trans (hd7.mono h2.size)⟩
  have rr := HS2.out.r.lt
  have r0 := HS2.out.r.c0
  have r1 := HS2.out.r.c1
  have f0 := HS2.out.r.fz 0
  have f1 := HS2.out.r.fz 1
  have hne6 : w2.heap.size ≠ W.heap.size := by omega
  generalize hVV : putS w2 W.heap.size 0 0 = VV at HS3
  have HW : Hid (putS w2 W.heap.size 0 0 = VV) := hVV
  clear hy hu hEw hb6 ha7 hd7 hTW2 hTW3 HS2 hVV
  unfold shV
  go_wp2_with fail
  go_big_region
  go_wp2
  have hW := HW.out
  unfold putS at hW
  rw [hW]
  generalize (VV.alloc (.cells #[.int .i64 (lu : Int), .int .i64 bu] 89)).drew = V at *
  have s0 := HS3.out.1.c0
  have s1 := HS3.out.1.c1
  refine bodyPost_ret (v := .tuple #[.agg #[.int .i64 0, .int .i64 0], errV an at' true]) ?_ rfl ?_
  ·simp [results, go_sem, s0, s1, errV]
  ·exact GotKp.no (0, 0) rfl (below_grown HS3.out.2) (HN.out.below HS3.out.2)
 | some s =>
  have hy' : yes = true := hy
  subst hy'
  have hu' := hu s rfl
  subst hu'
  have r0 := HS2.out.r.c0
  have r1 := HS2.out.r.c1
  have f0 := HS2.out.r.fz 0
  have f1 := HS2.out.r.fz 1
  have rr := HS2.out.r.lt
  have hb6 : Below W.heap.size w2 (putS w2 W.heap.size lu bu) := below_putS (Below.refl _ _) (Nat.le_refl _) lu bu
  have ha7 := alloc_below (putS w2 W.heap.size lu bu) (.cells #[.int .i64 (lu : Int), .int .i64 bu] 89)
  have hTW2 : ShAt ((putS w2 W.heap.size lu bu).alloc (.cells #[.int .i64 (lu : Int), .int .i64 bu] 89)) W.heap.size lu bu := (HS2.out.r.put lu bu).below ha7 (HS2.out.r.put lu bu).lt
  have HS3 : Hid (ShAt ((putS w2 W.heap.size lu bu).alloc (.cells #[.int .i64 (lu : Int), .int .i64 bu] 89)) W.heap.size lu bu ∧ Below W.heap.size W ((putS w2 W.heap.size lu bu).alloc (.cells #[.int .i64 (lu : Int), .int .i64 bu] 89))) := by
   have h1 := HS2.out.bel.trans hb6
   exact ⟨hTW2, h1.trans (ha7.mono h1.size)⟩
  generalize hVV : putS w2 W.heap.size lu bu = VV at HS3
  have HW : Hid (putS w2 W.heap.size lu bu = VV) := hVV
  unfold shV
  clear hy hu HS2 HV hb6 ha7 hTW2 hVV
  go_wp2
  have hW := HW.out
  unfold putS at hW
  rw [hW]
  generalize VV.alloc (.cells #[.int .i64 (lu : Int), .int .i64 bu] 89) = V at *
  have s0 := HS3.out.1.c0
  have s1 := HS3.out.1.c1
  refine bodyPost_ret (v := .tuple #[.agg #[.int .i64 lu, .int .i64 bu], .nilIface]) ?_ rfl ?_
  ·simp [results, go_sem, s0, s1]
  ·exact GotKp.yes rfl (below_grown HS3.out.2) (HN.out.below HS3.out.2)
end Go.Proofs.YtgmmfpdekefamaaGreatDoor

namespace Go.Proofs.YtgmmfpdekefamaaGreatDoor
open Go.RowKit
set_option linter.unusedVariables false
set_option maxRecDepth 100000

def Gd (N : Nat) (s : Sh) : Prop := OkS s ∧ s.1 ≤ N
theorem Gd.mono {N M : Nat} {s : Sh} (h : Gd N s) (hm : N ≤ M) : Gd M s := ⟨h.1, Nat.le_trans h.2 hm⟩
theorem gd_join {N : Nat} {a b t : Sh} (h : joinP a b = some t) (ha : Gd N a) (hb : Gd N b) : Gd N t := by
 unfold joinP at h
 split at h
 ·cases h; exact hb
 ·split at h
  ·cases h; exact ha
  ·cases h
theorem gd_one (N : Nat) {k : Int} (h : k = 1 ∨ k = 2 ∨ k = 4) : Gd N (0, k) := ⟨by unfold OkS; simp only; omega, Nat.zero_le _⟩
theorem gd_up {N : Nat} {s : Sh} (h : Gd N s) : Gd (N + 1) (s.1 + 1, s.2) := ⟨by have := h.1; unfold OkS at this ⊢; simp only; omega, by have := h.2; simp only; omega⟩
theorem gdS_fold {N : Nat} : ∀ (l : List Sh) (o : Option Sh), (∀ s ∈ l, Gd N s) → (∀ t, o = some t → Gd (N + 1) t) → ∀ t, l.foldl (fun o s => o.bind fun t => joinP t (s.1 + 1, s.2)) o = some t → Gd (N + 1) t
 | [], o, _, h, t, e => h t e
 | a :: l, o, hl, h, t, e => by
  rw [List.foldl_cons] at e
  refine gdS_fold l _ (fun s hs => hl s (List.mem_cons_of_mem _ hs)) (fun t' e' => ?_) t e
  cases ho : o with
  | none => rw [ho] at e'; cases e'
  | some u =>
   rw [ho] at e'
   exact gd_join e' (h u ho) (gd_up (hl a (List.mem_cons_self ..)))
theorem gd_lst {N : Nat} {l : List Sh} (h : ∀ s ∈ l, Gd N s) {t : Sh} (e : lstP l = some t) : Gd (N + 1) t :=
 gdS_fold l _ h (fun t' e' => by cases e'; exact ⟨by unfold OkS; simp, by simp⟩) t e
theorem gd_at {N : Nat} {a b c t : Sh} (e : atP a b c = some t) (ha : Gd N a) (hc : Gd N c) : Gd N t := by
 unfold atP at e
 split at e
 ·rename_i h1
  rw [Bool.and_eq_true, decide_eq_true_eq, decide_eq_true_eq] at h1
  split at e
  ·cases e; exact hc
  ·rename_i h2
   refine gd_join e ⟨?_, ?_⟩ hc
   ·have h3 := ha.1
    obtain ⟨l, b'⟩ := a
    unfold OkS at h3 ⊢
    simp only [Prod.mk.injEq] at *
    omega
   ·have h3 := ha.2
    simp only
    omega
 ·cases e
theorem gd_call {N : Nat} {f : List UInt8} {l : List Sh} {t : Sh} (e : callP f l = some t) (h0 : Gd N (l.getD 0 noS)) (h2 : f = [97, 116] → Gd N (l.getD 2 noS)) : Gd (N + 1) t := by
 unfold callP at e
 split at e
 ·split at e
  ·cases e; exact gd_one _ (.inl rfl)
  ·cases e
 split at e
 ·rename_i h
  exact (gd_at e h0 (h2 (by simpa using h))).mono (by omega)
 split at e
 ·split at e
  ·cases e; exact gd_one _ (.inr (.inl rfl))
  ·cases e
 split at e
 ·split at e
  ·cases e; exact gd_one _ (.inl rfl)
  ·cases e
 split at e
 ·split at e
  ·cases e; exact gd_one _ (.inr (.inr rfl))
  ·cases e
 split at e
 ·split at e
  ·cases e; exact gd_one _ (.inr (.inl rfl))
  ·cases e
 split at e
 ·cases e; exact ⟨by unfold OkS; simp, by simp⟩
 ·cases e
theorem gd_op {N : Nat} {o : List UInt8} {a b t : Sh} (e : opP o a b = some t) (ha : Gd N a) (hb : Gd N b) : Gd N t := by
 unfold opP at e
 split at e
 ·cases hj : joinP a b with
  | none => rw [hj] at e; cases e
  | some u => rw [hj] at e; cases e; exact gd_one _ (.inl rfl)
 split at e
 ·split at e
  ·cases e; exact gd_one _ (.inl rfl)
  ·cases e
 split at e
 ·cases hj : joinP a b with
  | none => rw [hj] at e; cases e
  | some u =>
   rw [hj] at e
   have e' : (if catB a = true then some u else none) = some t := e
   split at e'
   ·cases e'; exact gd_join hj ha hb
   ·cases e'
 ·split at e
  ·cases e; exact gd_one _ (.inl rfl)
  ·cases e
theorem getD_memS {l : List Sh} {i : Nat} (h : i < l.length) : l.getD i noS ∈ l := by
 rw [List.getD_eq_getElem?_getD, List.getElem?_eq_getElem h]
 exact List.getElem_mem h
theorem gd_typ {N : Nat} {kind num : Int} {tx : ByteArray} {l : List Sh} {t : Sh} (hs : shapeB kind num tx l.length = true) (hk : 4 < kind) (e : typP kind tx.toList l = some t) (h : ∀ s ∈ l, Gd N s) : Gd (N + 1) t := by
 unfold typP at e
 rcases shape_kids hs with ⟨h1, _⟩ | ⟨h1, _⟩ | ⟨h1, _⟩ | ⟨h1, _⟩ | ⟨rfl, h2⟩ | ⟨rfl, h2⟩ | ⟨rfl, h2⟩ | ⟨rfl, h2⟩ | rfl | ⟨rfl, h2, h3⟩
 ·omega
 ·omega
 ·omega
 ·omega
 ·rw [if_pos rfl] at e
  cases e
  exact (h _ (getD_memS (by omega))).mono (by omega)
 ·rw [if_neg (by decide), if_pos rfl] at e
  unfold ifP at e
  cases hj : joinP (l.getD 1 noS) (l.getD 2 noS) with
  | none => rw [hj] at e; cases e
  | some u =>
   rw [hj] at e
   have e' : (if decide (l.getD 0 noS = (0, 1)) = true then some u else none) = some t := e
   split at e'
   ·cases e'; exact (gd_join hj (h _ (getD_memS (by omega))) (h _ (getD_memS (by omega)))).mono (by omega)
   ·cases e'
 ·rw [if_neg (by decide), if_neg (by decide), if_neg (by decide), if_neg (by decide), if_pos rfl] at e
  exact (gd_op e (h _ (getD_memS (by omega))) (h _ (getD_memS (by omega)))).mono (by omega)
 ·rw [if_neg (by decide), if_neg (by decide), if_pos rfl] at e
  split at e
  ·cases e; exact (h _ (getD_memS (by omega))).mono (by omega)
  ·cases e
 ·rw [if_neg (by decide), if_neg (by decide), if_neg (by decide), if_pos rfl] at e
  exact gd_lst h e
 ·rw [if_neg (by decide), if_neg (by decide), if_neg (by decide), if_neg (by decide), if_neg (by decide)] at e
  refine gd_call e (h _ (getD_memS h3)) fun ha => h _ (getD_memS ?_)
  rw [ha] at h2
  have : kidsL [97, 116] = 3 := by decide
  rw [this] at h2
  omega
/-- the types of the kids -/
theorem gd_run {kind : Int} {tx : ByteArray} {ns : List Nm} {N : Nat} {args : List Sh} (hN : ∀ p ∈ ns, Gd N p.2) : ∀ (ks : List Ex) (acc l : List Sh) (M : Nat), N ≤ M →
  (∀ t ∈ ks, ∀ (ns' : List Nm) (M : Nat) (s : Sh), N ≤ M → (∀ p ∈ ns', Gd M p.2) → chk args t ns' = .ok s → Gd (M + wtE t) s) →
  (∀ s ∈ acc, Gd M s) → runK kind tx ns (ks.map (chk args)) acc = .ok l → (∀ s ∈ l, Gd (M + wtL ks) s) ∧ l.length = acc.length + ks.length
 | [], acc, l, M, hM, _, ha, e => by
  have e' : (Except.ok acc : Except Bool (List Sh)) = .ok l := e
  cases e'
  exact ⟨fun s hs => (ha s hs).mono (by omega), by simp⟩
 | t :: ks, acc, l, M, hM, hk, ha, e => by
  have e' : (match chk args t (if kind = 5 ∧ acc.length = 1 then (tx, acc.getD 0 noS) :: ns else ns) with | .error b => .error b | .ok s => runK kind tx ns (ks.map (chk args)) (acc ++ [s])) = (.ok l : Except Bool (List Sh)) := e
  have hns : ∀ p ∈ (if kind = 5 ∧ acc.length = 1 then (tx, acc.getD 0 noS) :: ns else ns), Gd M p.2 := by
   intro p hp
   split at hp
   ·rename_i h5
    rcases List.mem_cons.1 hp with rfl | hp
    ·exact ha _ (getD_memS (by omega))
    ·exact (hN p hp).mono hM
   ·exact (hN p hp).mono hM
  generalize (if kind = 5 ∧ acc.length = 1 then (tx, acc.getD 0 noS) :: ns else ns) = ns' at e' hns
  cases hc : chk args t ns' with
  | error b => rw [hc] at e'; cases e'
  | ok s =>
   rw [hc] at e'
   have h1 := hk t (List.mem_cons_self ..) ns' M s hM hns hc
   have hw : wtL (t :: ks) = wtE t + wtL ks := by rw [show t :: ks = [t] ++ ks from rfl, wtL_append, wtL_one]
   have h2 := gd_run hN ks (acc ++ [s]) l (M + wtE t) (by omega) (fun t' ht' => hk t' (List.mem_cons_of_mem _ ht')) (fun u hu => by
    rcases List.mem_append.1 hu with hu | hu
    ·exact (ha u hu).mono (by omega)
    ·rw [List.mem_singleton] at hu; subst hu; exact h1) e'
   refine ⟨fun u hu => (h2.1 u hu).mono (by omega), ?_⟩
   rw [h2.2]
   simp
   omega
/-- what a check gives -/
theorem gd_chk {N : Nat} {args : List Sh} (hA : ∀ s ∈ args, Gd N s) : ∀ (t : Ex), wellE t = true → ∀ (ns : List Nm) (M : Nat) (s : Sh), N ≤ M → (∀ p ∈ ns, Gd M p.2) → chk args t ns = .ok s → Gd (M + wtE t) s := by
 intro t
 refine Ex.ind (P := fun t => wellE t = true → ∀ (ns : List Nm) (M : Nat) (s : Sh), N ≤ M → (∀ p ∈ ns, Gd M p.2) → chk args t ns = .ok s → Gd (M + wtE t) s) ?_ t
 intro t ih hw ns M s hM hns e
 have hsh := (wellE_is hw).2
 have hwe := wtE_eq t
 rw [chk_eq] at e
 unfold stepK at e
 split at e
 ·cases e; exact gd_one _ (.inl rfl)
 split at e
 ·cases e; exact gd_one _ (.inr (.inl rfl))
 split at e
 ·rename_i h3
  have hq : 1 ≤ t.num ∧ t.num ≤ 20 := by rcases shape_kids hsh with h | h | h | h | h | h | h | h | h | h <;> omega
  split at e
  ·cases e
  ·cases e; exact (hA _ (getD_memS (by omega))).mono (by omega)
 split at e
 ·cases hl : lkP ns t.text.toList with
  | none => rw [hl] at e; cases e
  | some u =>
   rw [hl] at e
   cases e
   unfold lkP at hl
   split at hl
   ·cases hl
   ·cases hl
    rcases fnd_lt (ns.map Prod.fst) t.text.toList 0 with ⟨h1, _⟩ | ⟨j, h1, h2⟩
    ·contradiction
    ·rw [h1]
     have hj : j < ns.length := by simpa using h2
     rw [show ((0 + j : Nat) : Int).toNat = j by omega]
     have : ns.getD j noN ∈ ns := by
      rw [List.getD_eq_getElem?_getD, List.getElem?_eq_getElem hj]
      exact List.getElem_mem hj
     exact (hns _ this).mono (by omega)
 ·rename_i k1 k2 k3 k4
  unfold finK at e
  cases hr : runK t.kind t.text ns (t.kids.map (chk args)) [] with
  | error b => rw [hr] at e; cases e
  | ok l =>
   rw [hr] at e
   have h2 := gd_run hns t.kids [] l M (Nat.le_refl _) (fun k hk ns' M' s' hM' hn' e' => ih k hk (wellE_kid hw hk) ns' M' s' (by omega) hn' e') (fun u hu => by cases hu) hr
   have hl : l.length = t.kids.length := by simpa using h2.2
   have hk4 : 4 < t.kind := by rcases shape_kids hsh with h | h | h | h | h | h | h | h | h | h <;> omega
   simp only at e
   cases ht : typP t.kind t.text.toList l with
   | none => rw [ht] at e; cases e
   | some u =>
    rw [ht] at e
    cases e
    rw [← hl] at hsh
    exact (gd_typ hsh hk4 ht h2.1).mono (by omega)

end Go.Proofs.YtgmmfpdekefamaaGreatDoor

namespace Go.Proofs.YtgmmfpdekefamaaGreatDoor
open Go.RowKit
set_option linter.unusedVariables false
set_option maxRecDepth 100000

/-- what is made of kids -/
def mdP (kind : Int) (tx : List UInt8) (l : List Sh) : Option Sh := if kind = 1 then some (0, 1) else if kind = 2 then some (0, 2) else typP kind tx l
theorem amade_any {w : World} {b : Nat} {kind num : Int} {tx : ByteArray} {lv : Value} {l : List Sh} (hb : b < w.heap.size) (e0 : w.cell? ⟨b, 0, none⟩ = some (.int .i64 kind)) (e2 : w.cell? ⟨b, 2, none⟩ = some (.string tx)) (h : ShsR w lv l) (hs : shapeB kind num tx l.length = true) (h3 : kind ≠ 3) (h4 : kind ≠ 4) (h5 : kind ≠ 5) (hl : l.length ≤ 1000) (hg : ∀ s ∈ l, Gd 100000 s) :
  Calls Tryz.prog 70 #[.pointer (some ⟨b, 0, none⟩), lv] w (GotS w (mdP kind tx.toList l)) := by
 unfold mdP
 rcases shape_kids hs with ⟨rfl, _⟩ | ⟨rfl, _⟩ | ⟨rfl, _⟩ | ⟨rfl, _⟩ | ⟨rfl, h2⟩ | ⟨rfl, h2⟩ | ⟨rfl, h2⟩ | ⟨rfl, h2⟩ | rfl | ⟨rfl, h2, h6⟩
 ·rw [if_pos rfl]; exact made_num hb e0 h rfl
 ·rw [if_neg (by decide), if_pos rfl]; exact made_text hb e0 h rfl
 ·exact absurd rfl h3
 ·exact absurd rfl h4
 ·exact absurd rfl h5
 ·rw [if_neg (by decide), if_neg (by decide)]
  exact made_if h2 hb e0 h rfl
 ·rw [if_neg (by decide), if_neg (by decide)]
  exact made_op e2 h2 (hg _ (getD_memS (by omega))).1 (hg _ (getD_memS (by omega))).1 hb e0 h rfl
 ·rw [if_neg (by decide), if_neg (by decide)]
  refine made_neg h2 hb e0 h ?_
  show typP 8 tx.toList l = _
  unfold typP
  rw [if_neg (by decide), if_neg (by decide), if_pos rfl, ar_one]
  by_cases hz : l.getD 0 noS = (0, 1)
  ·rw [hz]
  ·rw [if_neg (by simpa using hz), if_neg (by simpa using hz)]
 ·rw [if_neg (by decide), if_neg (by decide)]
  exact made_list hl (fun s hs => (hg s hs).2) hb e0 h rfl
 ·rw [if_neg (by decide), if_neg (by decide)]
  exact made_call e2 h2 h6 (hg _ (getD_memS h6)).2 hb e0 h rfl

def clS (l : List Sh) : List Value := l.flatMap fun s => [.int .i64 s.1, .int .i64 s.2]
theorem clS_append (a b : List Sh) : clS (a ++ b) = clS a ++ clS b := by simp [clS]
theorem clS_at : ∀ (l : List Sh) (j : Nat), j < l.length → (clS l)[j * 2]? = some (.int .i64 (l.getD j noS).1) ∧ (clS l)[j * 2 + 1]? = some (.int .i64 (l.getD j noS).2)
 | [], j, h => by simp at h
 | p :: l, 0, h => ⟨rfl, rfl⟩
 | p :: l, j + 1, h => by
  have e := clS_at l j (by simpa using h)
  have c : clS (p :: l) = [.int .i64 p.1, .int .i64 p.2] ++ clS l := rfl
  rw [c]
  refine ⟨?_, ?_⟩
  ·rw [show (j + 1) * 2 = 2 + j * 2 by omega, List.getElem?_append_right (by simp)]; simpa using e.1
  ·rw [show (j + 1) * 2 + 1 = 2 + (j * 2 + 1) by omega, List.getElem?_append_right (by simp)]; simpa using e.2
theorem own_shs {V : World} {B : Nat} {lv : Value} {acc : List Sh} (h : V.ownsRow B 89 2 lv acc.length (clS acc)) : ShsR V lv acc := by
 rcases h.2 with ⟨rfl, h0⟩ | ⟨g, cap, cur, rfl, _, hg, hc, _, _, htk⟩
 ·exact ⟨none, 0, by rw [h0], by omega, .inl (List.eq_nil_of_length_eq_zero h0)⟩
 ·refine ⟨_, _, rfl, hc, .inr ⟨g, 0, rfl, (Array.getElem?_eq_some_iff.1 hg).1, fun j hj => ?_⟩⟩
  have key : ∀ i u, (clS acc)[i]? = some u → V.cell? ⟨g, i, none⟩ = some u := fun i u hu => by
   rw [← htk] at hu
   have hi : i < acc.length * 2 := by
    have := (List.getElem?_eq_some_iff.1 hu).1
    rw [List.length_take] at this
    omega
   rw [List.getElem?_take_of_lt hi] at hu
   simp only [World.cell?, hg]
   simpa using hu
  have e := clS_at acc j hj
  rw [Nat.zero_add]
  exact ⟨key _ _ e.1, key _ _ e.2⟩
/-- the checker on its way: what is answered, the names' row, and the kids' types so far -/
structure PkI (B : Nat) (W V : World) (nv : Value) (ns : List Nm) (lv : Value) (acc : List Sh) : Prop where
 le : B ≤ W.heap.size
 lt : ∀ k, nv.ownBlock = some k → B ≤ k ∧ k < W.heap.size
 grn : W.grownBy V nv.ownBlock
 nam : NmP B V nv ns
 res : ShAt V W.heap.size 0 0
 own : V.ownsRow (W.heap.size + 1) 89 2 lv acc.length (clS acc)
theorem PkI.bel {B : Nat} {W V : World} {nv lv : Value} {ns : List Nm} {acc : List Sh} (h : PkI B W V nv ns lv acc) : Below B W V := grown_below h.grn h.le fun k hk => (h.lt k hk).1
theorem PkI.new {B : Nat} {W : World} {nv : Value} {ns : List Nm} (hB : B ≤ W.heap.size) (h : NmP B W nv ns) : PkI B W (W.alloc (.cells #[.int .i64 0, .int .i64 0] 89)) nv ns (.slice none 0 0) [] :=
 ⟨hB, h.lt, below_grown (alloc_below W _), h.below (alloc_below W _), ShAt.new W 0 0, ⟨rfl, .inl ⟨rfl, rfl⟩⟩⟩
theorem PkI.after {B : Nat} {W V V' : World} {nv lv : Value} {ns : List Nm} {acc : List Sh} (h : PkI B W V nv ns lv acc) (hg : V.grownBy V' nv.ownBlock) (hN : NmP B V' nv ns) : PkI B W V' nv ns lv acc := by
 refine ⟨h.le, h.lt, grownBy_trans h.grn hg, hN, ?_, ?_⟩
 ·exact (hg.block _ h.res.lt (fun e => by have := (h.lt _ e.symm).2; omega)).trans h.res
 ·refine own_blockT h.own fun b hb => ?_
  have h1 := h.own.lt b hb
  exact hg.block b h1.2 (fun e => by have := (h.lt _ e.symm).2; omega)
theorem PkI.below {B : Nat} {W V V' : World} {nv lv : Value} {ns : List Nm} {acc : List Sh} (h : PkI B W V nv ns lv acc) (hb : Below V.heap.size V V') : PkI B W V' nv ns lv acc := h.after (below_grown hb) (h.nam.below hb)
/-- behind what is written from the answer's block on -/
theorem PkI.out {B : Nat} {W V V' : World} {nv lv : Value} {ns : List Nm} {acc : List Sh} (h : PkI B W V nv ns lv acc) (hb : Below W.heap.size V V') : W.grownBy V' nv.ownBlock ∧ NmP B V' nv ns := by
 refine ⟨⟨hb.os.trans h.grn.os, hb.tape.trans h.grn.tape, hb.output.trans h.grn.output, Nat.le_trans h.grn.size hb.size, fun k hk hr => (hb.block k hk).trans (h.grn.block k hk hr)⟩, own_blockT h.nam fun b hb2 => hb.block b (h.lt b hb2).2⟩
/-- one type more -/
theorem PkI.put {B : Nat} {W V w9 : World} {nv lv lv' : Value} {ns : List Nm} {acc : List Sh} {s : Sh} {o1 o2 : Obj} {n : Nat} (h : PkI B W V nv ns lv acc) (hn : acc.length = n) (hown : w9.ownsRow (W.heap.size + 1) 89 2 lv' (n + 1) (clS acc ++ [.int .i64 s.1, .int .i64 s.2])) (hg : ((V.alloc o1).alloc o2).grownBy w9 lv.ownBlock) : PkI B W w9 nv ns lv' (acc ++ [s]) := by
 have hb2 : Below V.heap.size V ((V.alloc o1).alloc o2) := two_below V o1 o2
 have h2 := h.below hb2
 have hlt := fun b (hb : lv.ownBlock = some b) => h.own.lt b hb
 have hne : ∀ b, b < W.heap.size + 1 → lv.ownBlock ≠ some b := fun b hb e => by have := (hlt b e).1; omega
 have hmv : ∀ b, b < W.heap.size + 1 → b < ((V.alloc o1).alloc o2).heap.size → w9.heap[b]? = ((V.alloc o1).alloc o2).heap[b]? := fun b h1 h3 => hg.block b h3 (fun e => hne b h1 e.symm)
 have hW := h2.res.lt
 refine ⟨h.le, h.lt, ⟨hg.os.trans h2.grn.os, hg.tape.trans h2.grn.tape, hg.output.trans h2.grn.output, Nat.le_trans h2.grn.size hg.size, fun k hk hr => (hmv k (by omega) (by omega)).trans (h2.grn.block k hk hr)⟩, own_blockT h2.nam fun b hb => hmv b (by have := (h.lt b hb).2; omega) (by have := (h.lt b hb).2; omega), (hmv _ (by omega) hW).trans h2.res, ?_⟩
 subst hn
 rw [clS_append]
 simpa [clS] using hown

end Go.Proofs.YtgmmfpdekefamaaGreatDoor
