/- Texts of the proof, put together: QTypB, QJoi. -/
import Derived.Test.YtgmmfpdekefamaaGreatDoorAt04
import Derived.Deep.RegionHeld3
namespace Go.Proofs.YtgmmfpdekefamaaGreatDoor
open Go.RowKit
set_option linter.unusedVariables false
set_option maxRecDepth 100000

def sameB (la : Nat) (ba : Int) (lb : Nat) (bb : Int) : Bool := la == lb && ba == bb
def fitsB (la : Nat) (ba : Int) (lb : Nat) (bb : Int) : Bool := (la == lb && ba == bb) || (ba == 0 && decide (la ≤ lb))
theorem two_below (w : World) (o p : Obj) : Below w.heap.size w ((w.alloc o).alloc p) := (alloc_below w o).trans ((alloc_below (w.alloc o) p).mono (by rw [alloc_size]; omega))
set_option maxHeartbeats 8000000 in
theorem rsame_any {ok : Nat → Prop} : ∀ (la : Nat) {w : World} {ba : Int} {va : Value} {lb : Nat} {bb : Int} {vb : Value}, TyM ok w la ba va → TyM ok w lb bb vb → Calls Tryz.prog 41 #[va, vb] w fun e w' => e = .returned (.bool (sameB la ba lb bb)) ∧ Below w.heap.size w w' := fun la => by
 induction la with
 | zero =>
  rintro w ba va lb bb vb ⟨rfl, ha⟩ hb
  rcases hb.form with ⟨rfl, hb2, rfl⟩ | ⟨rfl, rfl, rfl⟩ | ⟨l', g, k, q, rfl, rfl, hok, h3, h4⟩
  ·clear hb
   rcases ha with rfl | rfl | rfl <;> rcases hb2 with rfl | rfl | rfl
   all_goals
    go_enter Tryz.func41, Tryz.ntmps41
    go_wp2
    go_ret
    exact ⟨rfl, two_below w _ _⟩
  ·clear hb
   rcases ha with rfl | rfl | rfl
   all_goals
    go_enter Tryz.func41, Tryz.ntmps41
    go_wp2
    go_ret
    exact ⟨rfl, two_below w _ _⟩
  ·have HV : Hid (sameB 0 ba (l' + 1) bb = false) := by
    show _ = _
    unfold sameB
    have e1 : ((0 : Nat) == l' + 1) = false := by rw [beq_eq_false_iff_ne]; omega
    have e2 : (ba == 0) = false := by rw [beq_eq_false_iff_ne]; omega
    simp [e1]
   clear hb h4 hok h3
   rw [HV.out]
   rcases ha with rfl | rfl | rfl
   all_goals
    go_enter Tryz.func41, Tryz.ntmps41
    go_wp2
    go_ret
    exact ⟨rfl, two_below w _ _⟩
 | succ la ih =>
  rintro w ba va lb bb vb h hb
  rcases h with ⟨rfl, rfl, rfl⟩ | ⟨g, k, q, rfl, hok, h3, h4⟩
  ·clear ih
   rcases hb.form with ⟨rfl, hb2, rfl⟩ | ⟨rfl, rfl, rfl⟩ | ⟨l', g, k, q, rfl, rfl, hok, h3, h4⟩
   ·clear hb
    rcases hb2 with rfl | rfl | rfl
    all_goals
     go_enter Tryz.func41, Tryz.ntmps41
     go_wp2
     go_ret
     exact ⟨rfl, two_below w _ _⟩
   ·clear hb
    go_enter Tryz.func41, Tryz.ntmps41
    go_wp2
    go_ret
    exact ⟨rfl, two_below w _ _⟩
   ·have hbs := h4.base
    have HV : Hid (sameB (0 + 1) 0 (l' + 1) bb = false) := by
     show _ = _
     unfold sameB
     by_cases hl : l' = 0
     ·have : ((0 : Int) == bb) = false := by rw [beq_eq_false_iff_ne]; omega
      simp [this]
     ·have : ((0 + 1 : Nat) == l' + 1) = false := by rw [beq_eq_false_iff_ne]; omega
      simp [this]
    clear hb h4 hok h3 hbs
    rw [HV.out]
    go_enter Tryz.func41, Tryz.ntmps41
    go_wp2
    go_ret
    exact ⟨rfl, two_below w _ _⟩
  ·have hba := h4.base
   rcases hb.form with ⟨rfl, hb2, rfl⟩ | ⟨rfl, rfl, rfl⟩ | ⟨l', g2, k2, q2, rfl, rfl, hok2, h32, h42⟩
   ·have HV : Hid (sameB (la + 1) ba 0 bb = false) := by
     show _ = _
     unfold sameB
     have e1 : (la + 1 == 0) = false := by rw [beq_eq_false_iff_ne]; omega
     simp
    clear hb h4 hok h3 ih hba
    rw [HV.out]
    rcases hb2 with rfl | rfl | rfl
    all_goals
     go_enter Tryz.func41, Tryz.ntmps41
     go_wp2
     go_ret
     exact ⟨rfl, two_below w _ _⟩
   ·have HV : Hid (sameB (la + 1) ba 1 0 = false) := by
     show _ = _
     unfold sameB
     by_cases hl : la = 0
     ·have : (ba == 0) = false := by rw [beq_eq_false_iff_ne]; omega
      simp [this]
     ·have e1 : (la + 1 == 1) = false := by rw [beq_eq_false_iff_ne]; omega
      have e2 : decide (la + 1 ≤ 1) = false := decide_eq_false (by omega)
      rw [e1]
      simp
    clear hb h4 hok h3 ih hba
    rw [HV.out]
    go_enter Tryz.func41, Tryz.ntmps41
    go_wp2
    go_ret
    exact ⟨rfl, two_below w _ _⟩
   ·have hb1 := two_below w (.cells #[.int .i64 3, .pointer (some ⟨g, 0, none⟩)] 44) (.cells #[.int .i64 3, .pointer (some ⟨g2, 0, none⟩)] 44)
    have HV : Hid (sameB (la + 1) ba (l' + 1) bb = sameB la ba l' bb) := by
     show _ = _
     unfold sameB
     have e1 : (la + 1 == l' + 1) = (la == l') := by by_cases hl : la = l' <;> simp [hl]
     rw [e1]

    have HI : Hid (∀ W, Below w.heap.size w W → Calls Tryz.prog 41 #[.agg #[.int .i64 k, .pointer q], .agg #[.int .i64 k2, .pointer q2]] W fun e w' => e = .returned (.bool (sameB (la + 1) ba (l' + 1) bb)) ∧ Below w.heap.size w w') := fun W hW => by
     rw [HV.out]
     exact (ih (h4.moved fun g' hg hk => ⟨hk, hW.block g' hg⟩) (h42.moved fun g' hg hk => ⟨hk, hW.block g' hg⟩)).mono fun e w' ⟨q1, q2⟩ => ⟨q1, hW.trans (q2.mono hW.size)⟩
    have c0 : w.cell? ⟨g, 0, none⟩ = some (.int .i64 k) := by simp [World.cell?, h3]
    have c1 : w.cell? ⟨g, 1, none⟩ = some (.pointer q) := by simp [World.cell?, h3]
    have d0 : w.cell? ⟨g2, 0, none⟩ = some (.int .i64 k2) := by simp [World.cell?, h32]
    have d1 : w.cell? ⟨g2, 1, none⟩ = some (.pointer q2) := by simp [World.cell?, h32]
    have hlt : g < w.heap.size := (Array.getElem?_eq_some_iff.1 h3).1
    have hlt2 : g2 < w.heap.size := (Array.getElem?_eq_some_iff.1 h32).1
    generalize sameB (la + 1) ba (l' + 1) bb = r at *
    clear ih h4 hok h3 hb1 hb h42 hok2 h32 HV hba
    go_enter Tryz.func41, Tryz.ntmps41
    go_wp2_with fail
    go_region_with (go_at_call 41; refine (HI.out _ (below_drewG (two_below w _ _) _)).mono ?_; rintro e w2 ⟨rfl, hb2⟩)
    all_goals
     have HB : Hid (Below w.heap.size w w2) := hb2
     clear hb2
     go_wp2
     go_ret
     exact ⟨rfl, HB.out⟩
set_option maxHeartbeats 8000000 in
theorem rfits_any {ok : Nat → Prop} : ∀ (la : Nat) {w : World} {ba : Int} {va : Value} {lb : Nat} {bb : Int} {vb : Value}, TyM ok w la ba va → TyM ok w lb bb vb → Calls Tryz.prog 167 #[va, vb] w fun e w' => e = .returned (.bool (fitsB la ba lb bb)) ∧ Below w.heap.size w w' := fun la => by
 induction la with
 | zero =>
  rintro w ba va lb bb vb ⟨rfl, ha⟩ hb
  rcases hb.form with ⟨rfl, hb2, rfl⟩ | ⟨rfl, rfl, rfl⟩ | ⟨l', g, k, q, rfl, rfl, hok, h3, h4⟩
  ·clear hb
   rcases ha with rfl | rfl | rfl <;> rcases hb2 with rfl | rfl | rfl
   all_goals
    go_enter Tryz.func167, Tryz.ntmps167
    go_wp2
    go_ret
    exact ⟨rfl, two_below w _ _⟩
  ·clear hb
   rcases ha with rfl | rfl | rfl
   all_goals
    go_enter Tryz.func167, Tryz.ntmps167
    go_wp2
    go_ret
    exact ⟨rfl, two_below w _ _⟩
  ·have HV : Hid (fitsB 0 ba (l' + 1) bb = false) := by
    show _ = _
    unfold fitsB
    have e1 : ((0 : Nat) == l' + 1) = false := by rw [beq_eq_false_iff_ne]; omega
    have e2 : (ba == 0) = false := by rw [beq_eq_false_iff_ne]; omega
    simp [e1, e2]
   clear hb h4 hok h3
   rw [HV.out]
   rcases ha with rfl | rfl | rfl
   all_goals
    go_enter Tryz.func167, Tryz.ntmps167
    go_wp2
    go_ret
    exact ⟨rfl, two_below w _ _⟩
 | succ la ih =>
  rintro w ba va lb bb vb h hb
  rcases h with ⟨rfl, rfl, rfl⟩ | ⟨g, k, q, rfl, hok, h3, h4⟩
  ·clear ih
   rcases hb.form with ⟨rfl, hb2, rfl⟩ | ⟨rfl, rfl, rfl⟩ | ⟨l', g, k, q, rfl, rfl, hok, h3, h4⟩
   ·clear hb
    rcases hb2 with rfl | rfl | rfl
    all_goals
     go_enter Tryz.func167, Tryz.ntmps167
     go_wp2
     go_ret
     exact ⟨rfl, two_below w _ _⟩
   ·clear hb
    go_enter Tryz.func167, Tryz.ntmps167
    go_wp2
    go_ret
    exact ⟨rfl, two_below w _ _⟩
   ·have hbs := h4.base
    have HV : Hid (fitsB (0 + 1) 0 (l' + 1) bb = true) := by
     show _ = _
     unfold fitsB
     simp
    clear hb h4 hok h3 hbs
    rw [HV.out]
    go_enter Tryz.func167, Tryz.ntmps167
    go_wp2
    go_ret
    exact ⟨rfl, two_below w _ _⟩
  ·have hba := h4.base
   rcases hb.form with ⟨rfl, hb2, rfl⟩ | ⟨rfl, rfl, rfl⟩ | ⟨l', g2, k2, q2, rfl, rfl, hok2, h32, h42⟩
   ·have HV : Hid (fitsB (la + 1) ba 0 bb = false) := by
     show _ = _
     unfold fitsB
     have e1 : (la + 1 == 0) = false := by rw [beq_eq_false_iff_ne]; omega
     simp
    clear hb h4 hok h3 ih hba
    rw [HV.out]
    rcases hb2 with rfl | rfl | rfl
    all_goals
     go_enter Tryz.func167, Tryz.ntmps167
     go_wp2
     go_ret
     exact ⟨rfl, two_below w _ _⟩
   ·have HV : Hid (fitsB (la + 1) ba 1 0 = false) := by
     show _ = _
     unfold fitsB
     by_cases hl : la = 0
     ·have : (ba == 0) = false := by rw [beq_eq_false_iff_ne]; omega
      simp [this]
     ·have e1 : (la + 1 == 1) = false := by rw [beq_eq_false_iff_ne]; omega
      have e2 : decide (la + 1 ≤ 1) = false := decide_eq_false (by omega)
      rw [e1, e2]
      simp
    clear hb h4 hok h3 ih hba
    rw [HV.out]
    go_enter Tryz.func167, Tryz.ntmps167
    go_wp2
    go_ret
    exact ⟨rfl, two_below w _ _⟩
   ·have hb1 := two_below w (.cells #[.int .i64 3, .pointer (some ⟨g, 0, none⟩)] 44) (.cells #[.int .i64 3, .pointer (some ⟨g2, 0, none⟩)] 44)
    have HV : Hid (fitsB (la + 1) ba (l' + 1) bb = fitsB la ba l' bb) := by
     show _ = _
     unfold fitsB
     have e1 : (la + 1 == l' + 1) = (la == l') := by by_cases hl : la = l' <;> simp [hl]
     rw [e1]
     simp
    have HI : Hid (∀ W, Below w.heap.size w W → Calls Tryz.prog 167 #[.agg #[.int .i64 k, .pointer q], .agg #[.int .i64 k2, .pointer q2]] W fun e w' => e = .returned (.bool (fitsB (la + 1) ba (l' + 1) bb)) ∧ Below w.heap.size w w') := fun W hW => by
     rw [HV.out]
     exact (ih (h4.moved fun g' hg hk => ⟨hk, hW.block g' hg⟩) (h42.moved fun g' hg hk => ⟨hk, hW.block g' hg⟩)).mono fun e w' ⟨q1, q2⟩ => ⟨q1, hW.trans (q2.mono hW.size)⟩
    have c0 : w.cell? ⟨g, 0, none⟩ = some (.int .i64 k) := by simp [World.cell?, h3]
    have c1 : w.cell? ⟨g, 1, none⟩ = some (.pointer q) := by simp [World.cell?, h3]
    have d0 : w.cell? ⟨g2, 0, none⟩ = some (.int .i64 k2) := by simp [World.cell?, h32]
    have d1 : w.cell? ⟨g2, 1, none⟩ = some (.pointer q2) := by simp [World.cell?, h32]
    have hlt : g < w.heap.size := (Array.getElem?_eq_some_iff.1 h3).1
    have hlt2 : g2 < w.heap.size := (Array.getElem?_eq_some_iff.1 h32).1
    generalize fitsB (la + 1) ba (l' + 1) bb = r at *
    clear ih h4 hok h3 hb1 hb h42 hok2 h32 HV hba
    go_enter Tryz.func167, Tryz.ntmps167
    go_wp2_with fail
    go_region_with (go_at_call 167; refine (HI.out _ (below_drewG (two_below w _ _) _)).mono ?_; rintro e w2 ⟨rfl, hb2⟩)
    all_goals
     have HB : Hid (Below w.heap.size w w2) := hb2
     clear hb2
     go_wp2
     go_ret
     exact ⟨rfl, HB.out⟩

end Go.Proofs.YtgmmfpdekefamaaGreatDoor

namespace Go.Proofs.YtgmmfpdekefamaaGreatDoor
open Go.RowKit
set_option linter.unusedVariables false
set_option maxRecDepth 100000

abbrev Sh := Nat × Int
/-- a type in memory -/
def TyA (ok : Nat → Prop) (w : World) (s : Sh) (v : Value) : Prop := TyM ok w s.1 s.2 v
theorem TyA.below {ok : Nat → Prop} {w w' : World} {s : Sh} {v : Value} (h : TyA ok w s v) (hb : Below w.heap.size w w') : TyA ok w' s v := TyM.moved h fun g hg hk => ⟨hk, hb.block g hg⟩
theorem TyA.moved {ok ok' : Nat → Prop} {w w' : World} {s : Sh} {v : Value} (h : TyA ok w s v) (hm : ∀ g, g < w.heap.size → ok g → ok' g ∧ w'.heap[g]? = w.heap[g]?) : TyA ok' w' s v := TyM.moved h hm
theorem TyA.imp {ok ok' : Nat → Prop} {w : World} {s : Sh} {v : Value} (h : TyA ok w s v) (hm : ∀ g, g < w.heap.size → ok g → ok' g) : TyA ok' w s v := TyM.moved h fun g hg hk => ⟨hm g hg hk, rfl⟩
/-- its outermost kind -/
def kd (s : Sh) : Int := if s.1 = 0 then s.2 else 3
theorem TyA.shape {ok : Nat → Prop} {w : World} {s : Sh} {v : Value} (h : TyA ok w s v) : ∃ q, v = .agg #[.int .i64 (kd s), .pointer q] := by
  obtain ⟨l, b⟩ := s
  unfold kd
  rcases TyM.form h with ⟨h1, _, h2⟩ | ⟨h1, _, h2⟩ | ⟨l', g, k, q, h1, h2, _⟩
  · exact ⟨none, by rw [if_pos h1]; exact h2⟩
  · exact ⟨none, by rw [if_neg (by omega)]; exact h2⟩
  · exact ⟨_, by rw [if_neg (by omega)]; exact h2⟩
theorem kd_zero (b : Int) : kd (0, b) = b := rfl
theorem kd_succ (l : Nat) (b : Int) : kd (l + 1, b) = 3 := rfl
def OkS (s : Sh) : Prop := s.2 = 1 ∨ s.2 = 2 ∨ s.2 = 4 ∨ (s.2 = 0 ∧ 1 ≤ s.1)
theorem TyA.ok {ok : Nat → Prop} {w : World} {s : Sh} {v : Value} (h : TyA ok w s v) : OkS s := TyM.base h
def fitP (a b : Sh) : Bool := fitsB a.1 a.2 b.1 b.2
def joinP (a b : Sh) : Option Sh := if fitP a b = true then some b else if fitP b a = true then some a else none
/-- a cell pair that holds a type, or nothing yet -/
def TyAt (w : World) (B : Nat) (k : Int) (q : Option Addr) : Prop := w.heap[B]? = some (.cells #[.int .i64 k, .pointer q] 44 (0, 0))
theorem TyAt.lt {w : World} {B : Nat} {k : Int} {q : Option Addr} (h : TyAt w B k q) : B < w.heap.size := (Array.getElem?_eq_some_iff.1 h).1
theorem TyAt.c0 {w : World} {B : Nat} {k : Int} {q : Option Addr} (h : TyAt w B k q) : w.cell? ⟨B, 0, none⟩ = some (.int .i64 k) := cellsAtA h 0 _ rfl
theorem TyAt.c1 {w : World} {B : Nat} {k : Int} {q : Option Addr} (h : TyAt w B k q) : w.cell? ⟨B, 1, none⟩ = some (.pointer q) := cellsAtA h 1 _ rfl
theorem TyAt.fz {w : World} {B : Nat} {k : Int} {q : Option Addr} (h : TyAt w B k q) (j : Nat) : w.frozen? ⟨B, j, none⟩ = false := by unfold TyAt at h; simp [World.frozen?, h]
theorem TyAt.below {w w' : World} {B K : Nat} {k : Int} {q : Option Addr} (h : TyAt w B k q) (hb : Below K w w') (hB : B < K) : TyAt w' B k q := (hb.block B hB).trans h
theorem TyAt.new (w : World) (k : Int) (q : Option Addr) : TyAt (w.alloc (.cells #[.int .i64 k, .pointer q] 44)) w.heap.size k q := allocAtA w _
def putY (w : World) (B : Nat) (k : Int) (q : Option Addr) : World := (w.setCell ⟨B, 0, none⟩ (.int .i64 k)).setCell ⟨B, 1, none⟩ (.pointer q)
theorem TyAt.put {w : World} {B : Nat} {k : Int} {q : Option Addr} (h : TyAt w B k q) (k' : Int) (q' : Option Addr) : TyAt (putY w B k' q') B k' q' :=
  heap_setCell_same _ B 1 _ 44 _ (heap_setCell_same w B 0 _ 44 (.int .i64 k') h)
theorem TyAt.other {w : World} {B D : Nat} {k : Int} {q : Option Addr} (h : TyAt w B k q) (hD : B ≠ D) (k' : Int) (q' : Option Addr) : TyAt (putY w D k' q') B k q :=
  (heap_setCell_other _ ⟨D, 1, none⟩ B _ hD).trans ((heap_setCell_other w ⟨D, 0, none⟩ B _ hD).trans h)
theorem below_putY {B : Nat} {w w' : World} (h : Below B w w') {D : Nat} (hD : B ≤ D) (k : Int) (q : Option Addr) : Below B w (putY w' D k q) := belowSetA (belowSetA h hD _ _) hD _ _
/-- answering a type: what the cell pair at B holds behind it -/
theorem TyAt.ret {w0 w : World} {B : Nat} {k : Int} {q : Option Addr} (h : TyAt w B k q) (hb : Below w0.heap.size w0 w) (hB : w0.heap.size ≤ B) (k' : Int) (q' : Option Addr) : ∃ W, putY w B k' q' = W ∧ Below w0.heap.size w0 W ∧ Below B w W ∧ TyAt W B k' q' :=
  ⟨_, rfl, below_putY hb hB k' q', below_putY (Below.refl _ _) (Nat.le_refl _) k' q', h.put k' q'⟩

/-- a type and whether there is one -/
def GotJ (ok : Nat → Prop) (w : World) (o : Option Sh) (e : Ending) (w' : World) : Prop := Below w.heap.size w w' ∧ ∃ (k : Int) (q : Option Addr) (yes : Bool), e = .returned (.tuple #[.agg #[.int .i64 k, .pointer q], .bool yes]) ∧ yes = o.isSome ∧ ∀ s, o = some s → TyA ok w' s (.agg #[.int .i64 k, .pointer q])
theorem fit_deep (la lb : Nat) (ba bb : Int) : fitP (la + 1, ba) (lb + 1, bb) = fitP (la, ba) (lb, bb) := by
  unfold fitP fitsB
  have e1 : (la + 1 == lb + 1) = (la == lb) := by by_cases hl : la = lb <;> simp [hl]
  simp only
  rw [e1]
  simp
theorem join_deep {la lb : Nat} {ba bb : Int} (h1 : fitP (la + 1, ba) (lb + 1, bb) = false) (h2 : fitP (lb + 1, bb) (la + 1, ba) = false) : joinP (la, ba) (lb, bb) = none := by
  rw [fit_deep] at h1 h2
  unfold joinP
  rw [if_neg (by rw [h1]; simp), if_neg (by rw [h2]; simp)]

/-- the three blocks of a call of Join -/
structure J3 (w W : World) (ka : Int) (qa : Option Addr) (kb : Int) (qb : Option Addr) : Prop where
  bel : Below w.heap.size w W
  a : TyAt W w.heap.size ka qa
  b : TyAt W (w.heap.size + 1) kb qb
  r : TyAt W (w.heap.size + 2) 0 none
theorem J3.new (w : World) (ka : Int) (qa : Option Addr) (kb : Int) (qb : Option Addr) : J3 w (((w.alloc (.cells #[.int .i64 ka, .pointer qa] 44)).alloc (.cells #[.int .i64 kb, .pointer qb] 44)).alloc (.cells #[.int .i64 0, .pointer none] 44)) ka qa kb qb := by
  have b2 := two_below w (.cells #[.int .i64 ka, .pointer qa] 44) (.cells #[.int .i64 kb, .pointer qb] 44)
  have h1 := TyAt.new w ka qa
  have h2 := TyAt.new (w.alloc (.cells #[.int .i64 ka, .pointer qa] 44)) kb qb
  have h3 := TyAt.new ((w.alloc (.cells #[.int .i64 ka, .pointer qa] 44)).alloc (.cells #[.int .i64 kb, .pointer qb] 44)) 0 none
  have b3 := alloc_below ((w.alloc (.cells #[.int .i64 ka, .pointer qa] 44)).alloc (.cells #[.int .i64 kb, .pointer qb] 44)) (.cells #[.int .i64 0, .pointer none] 44)
  have bb := alloc_below (w.alloc (.cells #[.int .i64 ka, .pointer qa] 44)) (.cells #[.int .i64 kb, .pointer qb] 44)
  rw [alloc_size] at h2 bb
  rw [alloc_size, alloc_size] at h3 b3
  exact ⟨b2.trans (b3.mono (by omega)), (h1.below bb (by omega)).below b3 (by omega), h2.below b3 (by omega), h3⟩
theorem J3.after {w W W' : World} {ka kb : Int} {qa qb : Option Addr} (h : J3 w W ka qa kb qb) (hb : Below W.heap.size W W') : J3 w W' ka qa kb qb :=
  ⟨h.bel.trans (hb.mono h.bel.size), h.a.below hb h.a.lt, h.b.below hb h.b.lt, h.r.below hb h.r.lt⟩

theorem GotJ.yes {ok : Nat → Prop} {w W : World} {o : Option Sh} {s : Sh} {k : Int} {q : Option Addr} (ho : o = some s) (hb : Below w.heap.size w W) (h : TyA ok W s (.agg #[.int .i64 k, .pointer q])) : GotJ ok w o (.returned (.tuple #[.agg #[.int .i64 k, .pointer q], .bool true])) W :=
  ⟨hb, k, q, true, rfl, by rw [ho]; rfl, fun s' hs => by rw [ho] at hs; obtain rfl := Option.some.inj hs; exact h⟩
theorem GotJ.no {ok : Nat → Prop} {w W : World} {o : Option Sh} {k : Int} {q : Option Addr} (ho : o = none) (hb : Below w.heap.size w W) : GotJ ok w o (.returned (.tuple #[.agg #[.int .i64 k, .pointer q], .bool false])) W :=
  ⟨hb, k, q, false, rfl, by rw [ho]; rfl, fun s' hs => by rw [ho] at hs; cases hs⟩
theorem join_yes {a b : Sh} (h : fitP a b = true) : joinP a b = some b := by unfold joinP; rw [if_pos h]
theorem join_back {a b : Sh} (h : fitP a b = false) (h2 : fitP b a = true) : joinP a b = some a := by unfold joinP; rw [if_neg (by rw [h]; simp), if_pos h2]
theorem join_no {a b : Sh} (h : fitP a b = false) (h2 : fitP b a = false) : joinP a b = none := by unfold joinP; rw [if_neg (by rw [h]; simp), if_neg (by rw [h2]; simp)]

set_option maxHeartbeats 8000000 in
theorem rjoin_any {ok : Nat → Prop} : ∀ (la : Nat) {w : World} {ba : Int} {va : Value} {b : Sh} {vb : Value}, TyA ok w (la, ba) va → TyA ok w b vb → Calls Tryz.prog 129 #[va, vb] w (GotJ ok w (joinP (la, ba) b)) := fun la => by
  induction la with
  | zero =>
    intro w ba va b vb ha hb
    obtain ⟨qa, rfl⟩ := ha.shape
    obtain ⟨qb, rfl⟩ := hb.shape
    have HJ : Hid (J3 w (((w.alloc (.cells #[.int .i64 (kd (0, ba)), .pointer qa] 44)).alloc (.cells #[.int .i64 (kd b), .pointer qb] 44)).alloc (.cells #[.int .i64 0, .pointer none] 44)) (kd (0, ba)) qa (kd b) qb) := J3.new w _ _ _ _
    have HA : Hid (TyA ok w (0, ba) (.agg #[.int .i64 (kd (0, ba)), .pointer qa])) := ha
    have HB : Hid (TyA ok w b (.agg #[.int .i64 (kd b), .pointer qb])) := hb
    have HF1 : Hid (∀ W, Below w.heap.size w W → Calls Tryz.prog 167 #[.agg #[.int .i64 (kd (0, ba)), .pointer qa], .agg #[.int .i64 (kd b), .pointer qb]] W fun e w' => e = .returned (.bool (fitP (0, ba) b)) ∧ Below W.heap.size W w') := fun W hW => rfits_any _ (ha.below hW) (hb.below hW)
    have HF2 : Hid (∀ W, Below w.heap.size w W → Calls Tryz.prog 167 #[.agg #[.int .i64 (kd b), .pointer qb], .agg #[.int .i64 (kd (0, ba)), .pointer qa]] W fun e w' => e = .returned (.bool (fitP b (0, ba))) ∧ Below W.heap.size W w') := fun W hW => rfits_any _ (hb.below hW) (ha.below hW)
    clear ha hb
    generalize hka : kd (0, ba) = ka at *
    generalize hkb : kd b = kb at *
    have HKA : Hid (kd (0, ba) = ka) := hka
    have HKB : Hid (kd b = kb) := hkb
    clear hka hkb
    go_enter Tryz.func129, Tryz.ntmps129
    go_wp2_with fail
    generalize ((w.alloc (.cells #[.int .i64 ka, .pointer qa] 44)).alloc (.cells #[.int .i64 kb, .pointer qb] 44)).alloc (.cells #[.int .i64 0, .pointer none] 44) = w3 at *
    go_at_call 167
    refine (HF1.out _ HJ.out.bel).mono ?_
    rintro e w4 ⟨rfl, hb4⟩
    have HJ4 : Hid (J3 w w4 ka qa kb qb) := HJ.out.after hb4
    clear hb4 HJ HF1
    have a0 := HJ4.out.a.c0
    have a1 := HJ4.out.a.c1
    have b0 := HJ4.out.b.c0
    have b1 := HJ4.out.b.c1
    have r0 := HJ4.out.r.c0
    have r1 := HJ4.out.r.c1
    have f0 := HJ4.out.r.fz 0
    have f1 := HJ4.out.r.fz 1
    have ra := HJ4.out.a.lt
    have rb := HJ4.out.b.lt
    have rr := HJ4.out.r.lt
    cases h1 : fitP (0, ba) b
    · go_wp2_with fail
      clear a0 a1 b0 b1 r0 r1 f0 f1 ra rb rr
      go_at_call 167
      refine (HF2.out _ HJ4.out.bel).mono ?_
      rintro e w5 ⟨rfl, hb5⟩
      have HJ5 : Hid (J3 w w5 ka qa kb qb) := HJ4.out.after hb5
      clear hb5 HJ4 HF2
      have a0 := HJ5.out.a.c0
      have a1 := HJ5.out.a.c1
      have b0 := HJ5.out.b.c0
      have b1 := HJ5.out.b.c1
      have r0 := HJ5.out.r.c0
      have r1 := HJ5.out.r.c1
      have f0 := HJ5.out.r.fz 0
      have f1 := HJ5.out.r.fz 1
      have ra := HJ5.out.a.lt
      have rb := HJ5.out.b.lt
      have rr := HJ5.out.r.lt
      cases h2 : fitP b (0, ba)
      · have hN : joinP (0, ba) b = none := join_no h1 h2
        have hk3 : ¬ ka = 3 := by
          have := HA.out.ok
          have h0 := HKA.out
          rw [kd_zero] at h0
          unfold OkS at this
          simp only at this
          omega
        obtain ⟨W, hW, hbW, _, hTW⟩ := HJ5.out.r.ret HJ5.out.bel (by omega) 0 none
        have HW : Hid (putY w5 (w.heap.size + 2) 0 none = W) := hW
        have HG : Hid (GotJ ok w (joinP (0, ba) b) (.returned (.tuple #[.agg #[.int .i64 0, .pointer none], .bool false])) W) := GotJ.no hN hbW
        have s0 := hTW.c0
        have s1 := hTW.c1
        clear hW hbW hTW h1 h2 HB HA HJ5 HKA HKB hN
        go_wp2
        have hW := HW.out
        unfold putY at hW
        rw [hW]
        refine bodyPost_ret (v := .tuple #[.agg #[.int .i64 0, .pointer none], .bool false]) ?_ rfl ?_
        · simp [results, go_sem, s0, s1]
        · exact HG.out
      · obtain ⟨W, hW, hbW, _, hTW⟩ := HJ5.out.r.ret HJ5.out.bel (by omega) ka qa
        have HW : Hid (putY w5 (w.heap.size + 2) ka qa = W) := hW
        have HG : Hid (GotJ ok w (joinP (0, ba) b) (.returned (.tuple #[.agg #[.int .i64 ka, .pointer qa], .bool true])) W) := GotJ.yes (join_back h1 h2) hbW (HA.out.below hbW)
        have s0 := hTW.c0
        have s1 := hTW.c1
        clear hW hbW hTW h1 h2 HB HA HJ5 HKA HKB
        go_wp2
        have hW := HW.out
        unfold putY at hW
        rw [hW]
        refine bodyPost_ret (v := .tuple #[.agg #[.int .i64 ka, .pointer qa], .bool true]) ?_ rfl ?_
        · simp [results, go_sem, s0, s1]
        · exact HG.out
    · obtain ⟨W, hW, hbW, _, hTW⟩ := HJ4.out.r.ret HJ4.out.bel (by omega) kb qb
      have HW : Hid (putY w4 (w.heap.size + 2) kb qb = W) := hW
      have HG : Hid (GotJ ok w (joinP (0, ba) b) (.returned (.tuple #[.agg #[.int .i64 kb, .pointer qb], .bool true])) W) := GotJ.yes (join_yes h1) hbW (HB.out.below hbW)
      have s0 := hTW.c0
      have s1 := hTW.c1
      clear hW hbW hTW HF2 h1 HB HA HJ4 HKA HKB
      go_wp2
      have hW := HW.out
      unfold putY at hW
      rw [hW]
      refine bodyPost_ret (v := .tuple #[.agg #[.int .i64 kb, .pointer qb], .bool true]) ?_ rfl ?_
      · simp [results, go_sem, s0, s1]
      · exact HG.out
  | succ la ih =>
    intro w ba va b vb ha hb
    obtain ⟨qa, rfl⟩ := ha.shape
    obtain ⟨qb, rfl⟩ := hb.shape
    have HJ : Hid (J3 w (((w.alloc (.cells #[.int .i64 (kd (la + 1, ba)), .pointer qa] 44)).alloc (.cells #[.int .i64 (kd b), .pointer qb] 44)).alloc (.cells #[.int .i64 0, .pointer none] 44)) (kd (la + 1, ba)) qa (kd b) qb) := J3.new w _ _ _ _
    have HA : Hid (TyA ok w (la + 1, ba) (.agg #[.int .i64 (kd (la + 1, ba)), .pointer qa])) := ha
    have HB : Hid (TyA ok w b (.agg #[.int .i64 (kd b), .pointer qb])) := hb
    have HF1 : Hid (∀ W, Below w.heap.size w W → Calls Tryz.prog 167 #[.agg #[.int .i64 (kd (la + 1, ba)), .pointer qa], .agg #[.int .i64 (kd b), .pointer qb]] W fun e w' => e = .returned (.bool (fitP (la + 1, ba) b)) ∧ Below W.heap.size W w') := fun W hW => rfits_any _ (ha.below hW) (hb.below hW)
    have HF2 : Hid (∀ W, Below w.heap.size w W → Calls Tryz.prog 167 #[.agg #[.int .i64 (kd b), .pointer qb], .agg #[.int .i64 (kd (la + 1, ba)), .pointer qa]] W fun e w' => e = .returned (.bool (fitP b (la + 1, ba))) ∧ Below W.heap.size W w') := fun W hW => rfits_any _ (hb.below hW) (ha.below hW)
    have IH : Hid (∀ {w : World} {ba : Int} {va : Value} {b : Sh} {vb : Value}, TyA ok w (la, ba) va → TyA ok w b vb → Calls Tryz.prog 129 #[va, vb] w (GotJ ok w (joinP (la, ba) b))) := ih
    clear ha hb ih
    generalize hka : kd (la + 1, ba) = ka at *
    generalize hkb : kd b = kb at *
    have HKA : Hid (kd (la + 1, ba) = ka) := hka
    have HKB : Hid (kd b = kb) := hkb
    clear hka hkb
    go_enter Tryz.func129, Tryz.ntmps129
    go_wp2_with fail
    generalize ((w.alloc (.cells #[.int .i64 ka, .pointer qa] 44)).alloc (.cells #[.int .i64 kb, .pointer qb] 44)).alloc (.cells #[.int .i64 0, .pointer none] 44) = w3 at *
    go_at_call 167
    refine (HF1.out _ HJ.out.bel).mono ?_
    rintro e w4 ⟨rfl, hb4⟩
    have HJ4 : Hid (J3 w w4 ka qa kb qb) := HJ.out.after hb4
    clear hb4 HJ HF1
    have a0 := HJ4.out.a.c0
    have a1 := HJ4.out.a.c1
    have b0 := HJ4.out.b.c0
    have b1 := HJ4.out.b.c1
    have r0 := HJ4.out.r.c0
    have r1 := HJ4.out.r.c1
    have f0 := HJ4.out.r.fz 0
    have f1 := HJ4.out.r.fz 1
    have ra := HJ4.out.a.lt
    have rb := HJ4.out.b.lt
    have rr := HJ4.out.r.lt
    cases h1 : fitP (la + 1, ba) b
    · go_wp2_with fail
      clear a0 a1 b0 b1 r0 r1 f0 f1 ra rb rr
      go_at_call 167
      refine (HF2.out _ HJ4.out.bel).mono ?_
      rintro e w5 ⟨rfl, hb5⟩
      have HJ5 : Hid (J3 w w5 ka qa kb qb) := HJ4.out.after hb5
      clear hb5 HJ4 HF2
      have a0 := HJ5.out.a.c0
      have a1 := HJ5.out.a.c1
      have b0 := HJ5.out.b.c0
      have b1 := HJ5.out.b.c1
      have r0 := HJ5.out.r.c0
      have r1 := HJ5.out.r.c1
      have f0 := HJ5.out.r.fz 0
      have f1 := HJ5.out.r.fz 1
      have ra := HJ5.out.a.lt
      have rb := HJ5.out.b.lt
      have rr := HJ5.out.r.lt
      cases h2 : fitP b (la + 1, ba)
      · have hN : joinP (la + 1, ba) b = none := join_no h1 h2
        obtain ⟨lb, bb⟩ := b
        cases lb with
        | zero =>
          have hk3 : ¬ kb = 3 := by
            have := HB.out.ok
            have h0 := HKB.out
            rw [kd_zero] at h0
            unfold OkS at this
            simp only at this
            omega
          have hk2 : ka = 3 := by
            have h0 := HKA.out
            rw [kd_succ] at h0
            exact h0.symm
          subst hk2
          obtain ⟨W, hW, hbW, _, hTW⟩ := HJ5.out.r.ret HJ5.out.bel (by omega) 0 none
          have HW : Hid (putY w5 (w.heap.size + 2) 0 none = W) := hW
          have HG : Hid (GotJ ok w (joinP (la + 1, ba) (0, bb)) (.returned (.tuple #[.agg #[.int .i64 0, .pointer none], .bool false])) W) := GotJ.no hN hbW
          have s0 := hTW.c0
          have s1 := hTW.c1
          clear hW hbW hTW h1 h2 HB HA HJ5 HKA HKB hN IH
          go_wp2
          have hW := HW.out
          unfold putY at hW
          rw [hW]
          refine bodyPost_ret (v := .tuple #[.agg #[.int .i64 0, .pointer none], .bool false]) ?_ rfl ?_
          · simp [results, go_sem, s0, s1]
          · exact HG.out
        | succ lb =>
          have hk1 : ka = 3 := HKA.out.symm
          have hk2 : kb = 3 := HKB.out.symm
          subst hk1 hk2
          obtain ⟨ga, k1, q1, rfl, hga, hA1⟩ : ∃ ga k1 q1, qa = some ⟨ga, 0, none⟩ ∧ w.heap[ga]? = some (.cells #[.int .i64 k1, .pointer q1] 44 (0, 0)) ∧ TyA ok w (la, ba) (.agg #[.int .i64 k1, .pointer q1]) := by
            rcases HA.out with ⟨e1, e2, e3⟩ | ⟨g, k, q, e1, hokg, e2, e3⟩
            · exfalso
              simp only at e1 e2
              subst e1 e2
              unfold fitP fitsB at h1
              simp at h1
            · simp at e1
              exact ⟨g, k, q, e1, e2, e3⟩
          obtain ⟨gb, k2, q2, rfl, hgb, hB1⟩ : ∃ gb k2 q2, qb = some ⟨gb, 0, none⟩ ∧ w.heap[gb]? = some (.cells #[.int .i64 k2, .pointer q2] 44 (0, 0)) ∧ TyA ok w (lb, bb) (.agg #[.int .i64 k2, .pointer q2]) := by
            rcases HB.out with ⟨e1, e2, e3⟩ | ⟨g, k, q, e1, hokg, e2, e3⟩
            · exfalso
              simp only at e1 e2
              subst e1 e2
              unfold fitP fitsB at h2
              simp at h2
            · simp at e1
              exact ⟨g, k, q, e1, e2, e3⟩
          have hJN := join_deep h1 h2
          have HS1 : Hid (∀ W, Below w5.heap.size w5 W → Calls Tryz.prog 129 #[.agg #[.int .i64 k1, .pointer q1], .agg #[.int .i64 k2, .pointer q2]] W fun e w' => ∃ k q, e = .returned (.tuple #[.agg #[.int .i64 k, .pointer q], .bool false]) ∧ Below W.heap.size W w') := fun W hW => by
            have hW0 := HJ5.out.bel.trans (hW.mono HJ5.out.bel.size)
            refine (IH.out (hA1.below hW0) (hB1.below hW0)).mono ?_
            rintro e w' ⟨r1, k, q, yes, r2, r3, _⟩
            rw [hJN] at r3
            simp at r3
            subst r3
            exact ⟨k, q, r2, r1⟩
          have HSA : Hid (Calls Tryz.prog 129 #[.agg #[.int .i64 k1, .pointer q1], .agg #[.int .i64 k2, .pointer q2]] (w5.alloc (.cells #[.int .i64 0, .pointer none] 44)).drew fun e w'' => ∃ k q, e = .returned (.tuple #[.agg #[.int .i64 k, .pointer q], .bool false]) ∧ Hid (Below w5.heap.size w5 w'') ∧ Hid (TyAt w'' w5.heap.size 0 none)) := by
            have hba : Below w5.heap.size w5 (w5.alloc (.cells #[.int .i64 0, .pointer none] 44)).drew := below_drewG (alloc_below _ _) 1
            have hbx : TyAt (w5.alloc (.cells #[.int .i64 0, .pointer none] 44)).drew w5.heap.size 0 none := TyAt.new w5 0 none
            refine (HS1.out _ hba).mono ?_
            rintro e w2 ⟨k, q, rfl, h1⟩
            exact ⟨k, q, rfl, hba.trans (h1.mono hba.size), hbx.below h1 hbx.lt⟩
          have HSB : Hid (Calls Tryz.prog 129 #[.agg #[.int .i64 k1, .pointer q1], .agg #[.int .i64 k2, .pointer q2]] w5.drew fun e w'' => ∃ k q, e = .returned (.tuple #[.agg #[.int .i64 k, .pointer q], .bool false]) ∧ Hid (Below w5.heap.size w5 w'')) := by
            have hba : Below w5.heap.size w5 w5.drew := below_drewG (Below.refl _ _) 1
            refine (HS1.out _ hba).mono ?_
            rintro e w2 ⟨k, q, rfl, h1⟩
            exact ⟨k, q, rfl, hba.trans (h1.mono hba.size)⟩
          have hg1 := (Array.getElem?_eq_some_iff.1 hga).1
          have hg2 := (Array.getElem?_eq_some_iff.1 hgb).1
          have g0 : w5.cell? ⟨ga, 0, none⟩ = some (.int .i64 k1) := (HJ5.out.bel.cell (p := ⟨ga, 0, none⟩) hg1).trans (cellsAtA hga 0 _ rfl)
          have g1 : w5.cell? ⟨ga, 1, none⟩ = some (.pointer q1) := (HJ5.out.bel.cell (p := ⟨ga, 1, none⟩) hg1).trans (cellsAtA hga 1 _ rfl)
          have g2 : w5.cell? ⟨gb, 0, none⟩ = some (.int .i64 k2) := (HJ5.out.bel.cell (p := ⟨gb, 0, none⟩) hg2).trans (cellsAtA hgb 0 _ rfl)
          have g3 : w5.cell? ⟨gb, 1, none⟩ = some (.pointer q2) := (HJ5.out.bel.cell (p := ⟨gb, 1, none⟩) hg2).trans (cellsAtA hgb 1 _ rfl)
          have hl1 : ga < w5.heap.size := by omega
          have hl2 : gb < w5.heap.size := by omega
          have HXX : Hid (∀ w', Below w5.heap.size w5 w' → w'.cell? ⟨w.heap.size, 1, none⟩ = some (.pointer (some ⟨ga, 0, none⟩)) ∧ w'.cell? ⟨w.heap.size + 1, 1, none⟩ = some (.pointer (some ⟨gb, 0, none⟩)) ∧ w'.cell? ⟨ga, 0, none⟩ = some (.int .i64 k1) ∧ w'.cell? ⟨ga, 1, none⟩ = some (.pointer q1) ∧ w'.cell? ⟨gb, 0, none⟩ = some (.int .i64 k2) ∧ w'.cell? ⟨gb, 1, none⟩ = some (.pointer q2)) := fun w' hb => by
            exact ⟨(hb.cell (p := ⟨w.heap.size, 1, none⟩) ra).trans a1, (hb.cell (p := ⟨w.heap.size + 1, 1, none⟩) rb).trans b1, (hb.cell (p := ⟨ga, 0, none⟩) hl1).trans g0, (hb.cell (p := ⟨ga, 1, none⟩) hl1).trans g1, (hb.cell (p := ⟨gb, 0, none⟩) hl2).trans g2, (hb.cell (p := ⟨gb, 1, none⟩) hl2).trans g3⟩
          have ne1 : w5.heap.size ≠ w.heap.size := by omega
          have ne2 : w5.heap.size ≠ w.heap.size + 1 := by omega
          have ne3 : w5.heap.size ≠ ga := by omega
          have ne4 : w5.heap.size ≠ gb := by omega
          have HN : Hid (joinP (la + 1, ba) (lb + 1, bb) = none) := hN
          clear HS1 hga hgb hA1 hB1 hJN h1 h2 hN HA HB IH HKA HKB
          go_wp2_with fail
          go_region_held3 (fun w' => w'.cell? ⟨w.heap.size, 1, none⟩ = some (.pointer (some ⟨ga, 0, none⟩)) ∧ w'.cell? ⟨w.heap.size + 1, 1, none⟩ = some (.pointer (some ⟨gb, 0, none⟩)) ∧ w'.cell? ⟨ga, 0, none⟩ = some (.int .i64 k1) ∧ w'.cell? ⟨ga, 1, none⟩ = some (.pointer q1) ∧ w'.cell? ⟨gb, 0, none⟩ = some (.int .i64 k2) ∧ w'.cell? ⟨gb, 1, none⟩ = some (.pointer q2)) (go_keep) ((first | (go_at_call 129; refine HSA.out.mono ?_; rintro e w3 ⟨k, q, rfl, HB3, HT3⟩; have u0 := HT3.out.c0; have u1 := HT3.out.c1; have u2 := HT3.out.fz 0; have u3 := HT3.out.fz 1; have u4 := HT3.out.lt; have y := HXX.out w3 HB3.out; obtain ⟨y0, y1, y2, y3, y4, y5⟩ := y) | (go_at_call 129; refine HSB.out.mono ?_; rintro e w3 ⟨k, q, rfl, HB3⟩; have y := HXX.out w3 HB3.out; obtain ⟨y0, y1, y2, y3, y4, y5⟩ := y)))
          all_goals clear r0 r1 f0 f1 ra rb rr a0 a1 b0 b1 g0 g1 g2 g3 hl1 hl2 hg1 hg2 HSA HSB HXX y0 y1 y2 y3 y4 y5 ne1 ne2 ne3 ne4
          all_goals first
            | (have HJV : Hid (J3 w ((w3.setCell ⟨w5.heap.size, 0, none⟩ (.int .i64 k)).setCell ⟨w5.heap.size, 1, none⟩ (.pointer q)) 3 (some ⟨ga, 0, none⟩) 3 (some ⟨gb, 0, none⟩)) := HJ5.out.after (below_putY HB3.out (Nat.le_refl _) k q)
               clear HT3 HB3 HJ5 u0 u1 u2 u3 u4
               generalize (w3.setCell ⟨w5.heap.size, 0, none⟩ (.int .i64 k)).setCell ⟨w5.heap.size, 1, none⟩ (.pointer q) = V at HJV ⊢)
            | (have HJV : Hid (J3 w (w3.alloc (.cells #[.int .i64 k, .pointer q] 44)) 3 (some ⟨ga, 0, none⟩) 3 (some ⟨gb, 0, none⟩)) := HJ5.out.after (HB3.out.trans ((alloc_below _ _).mono HB3.out.size))
               clear HB3 HJ5
               generalize w3.alloc (.cells #[.int .i64 k, .pointer q] 44) = V at HJV ⊢)
          all_goals
            obtain ⟨W, hW, hbW, _, hTW⟩ := HJV.out.r.ret HJV.out.bel (by omega) 0 none
            have HW : Hid (putY V (w.heap.size + 2) 0 none = W) := hW
            have HG : Hid (GotJ ok w (joinP (la + 1, ba) (lb + 1, bb)) (.returned (.tuple #[.agg #[.int .i64 0, .pointer none], .bool false])) W) := GotJ.no HN.out hbW
            have s0 := hTW.c0
            have s1 := hTW.c1
            have r0 := HJV.out.r.c0
            have r1 := HJV.out.r.c1
            have f0 := HJV.out.r.fz 0
            have f1 := HJV.out.r.fz 1
            have rr := HJV.out.r.lt
            clear hW hbW hTW HJV HN
            go_wp2
            have hW := HW.out
            unfold putY at hW
            rw [hW]
            refine bodyPost_ret (v := .tuple #[.agg #[.int .i64 0, .pointer none], .bool false]) ?_ rfl ?_
            · simp [results, go_sem, s0, s1]
            · exact HG.out
      · obtain ⟨W, hW, hbW, _, hTW⟩ := HJ5.out.r.ret HJ5.out.bel (by omega) ka qa
        have HW : Hid (putY w5 (w.heap.size + 2) ka qa = W) := hW
        have HG : Hid (GotJ ok w (joinP (la + 1, ba) b) (.returned (.tuple #[.agg #[.int .i64 ka, .pointer qa], .bool true])) W) := GotJ.yes (join_back h1 h2) hbW (HA.out.below hbW)
        have s0 := hTW.c0
        have s1 := hTW.c1
        clear hW hbW hTW h1 h2 HB HA HJ5 HKA HKB
        go_wp2
        have hW := HW.out
        unfold putY at hW
        rw [hW]
        refine bodyPost_ret (v := .tuple #[.agg #[.int .i64 ka, .pointer qa], .bool true]) ?_ rfl ?_
        · simp [results, go_sem, s0, s1]
        · exact HG.out
    · obtain ⟨W, hW, hbW, _, hTW⟩ := HJ4.out.r.ret HJ4.out.bel (by omega) kb qb
      have HW : Hid (putY w4 (w.heap.size + 2) kb qb = W) := hW
      have HG : Hid (GotJ ok w (joinP (la + 1, ba) b) (.returned (.tuple #[.agg #[.int .i64 kb, .pointer qb], .bool true])) W) := GotJ.yes (join_yes h1) hbW (HB.out.below hbW)
      have s0 := hTW.c0
      have s1 := hTW.c1
      clear hW hbW hTW HF2 h1 HB HA HJ4 HKA HKB
      go_wp2
      have hW := HW.out
      unfold putY at hW
      rw [hW]
      refine bodyPost_ret (v := .tuple #[.agg #[.int .i64 kb, .pointer qb], .bool true]) ?_ rfl ?_
      · simp [results, go_sem, s0, s1]
      · exact HG.out

end Go.Proofs.YtgmmfpdekefamaaGreatDoor
