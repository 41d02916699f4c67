/- Texts of the proof, put together: AExp, AMem, AKid, ANam, Plain, Point. -/
import Derived.Test.YtgmmfpdekefamaaGreatDoorProg
import Derived.WalkKit
import Derived.WalkSpells
import Derived.WalkLawsBesides
import Derived.Lib.OthersKept
import Derived.BigQuiet
import Derived.Deep.QuietTactic
import Derived.Deep.AppendLies
import Derived.Lib.MapLaws
import Derived.Lib.RuneBytes
namespace Go.Proofs.YtgmmfpdekefamaaGreatDoor
open Go.RowKit
set_option linter.unusedVariables false
set_option maxRecDepth 100000

/-- an expression; is: it is no nil -/
structure Ex where
 is : Bool
 kind : Int
 num : Int
 text : ByteArray
 kids : List Ex
def nilE : Ex := ⟨false, 0, 0, ByteArray.empty, []⟩
theorem Ex.ind {P : Ex → Prop} (h : ∀ t : Ex, (∀ k ∈ t.kids, P k) → P t) : ∀ t, P t := fun t => by
 match t with
 | ⟨i, p, k, x, ks⟩ => exact h _ fun k hk => Ex.ind h k
/-- how many expressions there are in one -/
def wtE (t : Ex) : Nat := match t with
 | ⟨_, _, _, _, ks⟩ => 1 + (ks.map wtE).sum
def wtL (ks : List Ex) : Nat := (ks.map wtE).sum
theorem wtE_eq (t : Ex) : wtE t = 1 + wtL t.kids := by obtain ⟨i, p, k, x, ks⟩ := t; rw [wtE]; rfl
theorem wtL_append (a b : List Ex) : wtL (a ++ b) = wtL a + wtL b := by simp [wtL]
theorem wtL_one (t : Ex) : wtL [t] = wtE t := by simp [wtL]
theorem wtE_pos (t : Ex) : 1 ≤ wtE t := by rw [wtE_eq]; omega
theorem wtL_len : ∀ l : List Ex, l.length ≤ wtL l
 | [] => by simp
 | t :: l => by
  have h1 := wtL_len l
  have h2 := wtE_pos t
  have e := wtL_append [t] l
  rw [wtL_one] at e
  rw [show t :: l = [t] ++ l from rfl, e]
  simp
  omega
theorem wtL_mem : ∀ (l : List Ex) (t : Ex), t ∈ l → wtE t ≤ wtL l
 | [], t, h => by simp at h
 | x :: l, t, h => by
  have e := wtL_append [x] l
  rw [wtL_one] at e
  rw [show x :: l = [x] ++ l from rfl, e]
  rcases List.mem_cons.1 h with rfl | h
  ·omega
  ·have := wtL_mem l t h; omega

def KidsE (P : Value → Ex → Prop) (ok : Nat → Prop) (w : World) (v : Value) (l : List Ex) : Prop :=
 (l = [] ∧ ∃ a c, v = .slice a 0 c) ∨ ∃ g off c, v = .slice (some ⟨g, off, none⟩) l.length c ∧ g < w.heap.size ∧ ok g ∧ ∀ j, j < l.length → ∃ u, w.cell? ⟨g, off + j, none⟩ = some u ∧ P u (l.getD j nilE)
/-- an expression in memory, all of it in blocks that ok says -/
def IsEx (ok : Nat → Prop) : Nat → World → Value → Ex → Prop
 | 0, _, _, _ => False
 | n + 1, w, v, t => (t = nilE ∧ v = .pointer none) ∨ (t.is = true ∧ ∃ b kv, v = .pointer (some ⟨b, 0, none⟩) ∧ ok b ∧ w.heap[b]? = some (.cells #[.int .i64 t.kind, .int .i64 t.num, .string t.text, kv] 64 (0, 0)) ∧ KidsE (IsEx ok n w) ok w kv t.kids)
def Expr (ok : Nat → Prop) (w : World) (v : Value) (t : Ex) : Prop := ∃ n, IsEx ok n w v t

theorem KidsE.slice {P : Value → Ex → Prop} {ok : Nat → Prop} {w : World} {v : Value} {l : List Ex} (h : KidsE P ok w v l) : ∃ a c, v = .slice a l.length c := by
 rcases h with ⟨rfl, a, c, h⟩ | ⟨g, off, c, h, _⟩
 ·exact ⟨a, c, h⟩
 ·exact ⟨_, c, h⟩
theorem KidsE.at {P : Value → Ex → Prop} {ok : Nat → Prop} {w : World} {a : Option Addr} {n c : Nat} {l : List Ex} (h : KidsE P ok w (.slice a n c) l) {k : Nat} (hk : k < l.length) : ∃ b off u, a = some ⟨b, off, none⟩ ∧ b < w.heap.size ∧ w.cell? ⟨b, off + k, none⟩ = some u ∧ P u (l.getD k nilE) := by
 rcases h with ⟨rfl, _⟩ | ⟨g, off, c', h1, h2, _, h3⟩
 ·simp at hk
 ·simp only [Value.slice.injEq] at h1
  obtain ⟨rfl, rfl, rfl⟩ := h1
  obtain ⟨u, h4, h5⟩ := h3 k hk
  exact ⟨g, off, u, rfl, h2, h4, h5⟩
theorem KidsE.moved {P Q : Value → Ex → Prop} {ok ok' : Nat → Prop} {w w' : World} {v : Value} {l : List Ex} (h : KidsE P ok w v l) (hs : w.heap.size ≤ w'.heap.size) (hk : ∀ g, g < w.heap.size → ok g → ok' g ∧ w'.heap[g]? = w.heap[g]?) (hP : ∀ u o, o ∈ l → P u o → Q u o) : KidsE Q ok' w' v l := by
 rcases h with h | ⟨b, off, c, h1, h2, h3, h4⟩
 ·exact Or.inl h
 ·obtain ⟨e1, e2⟩ := hk b h2 h3
  refine Or.inr ⟨b, off, c, h1, Nat.lt_of_lt_of_le h2 hs, e1, fun j hj => ?_⟩
  obtain ⟨u, hu, hp⟩ := h4 j hj
  refine ⟨u, (World.cell?_of_block (a := ⟨b, off + j, none⟩) e2).trans hu, hP u _ ?_ hp⟩
  rw [List.getD_eq_getElem?_getD, List.getElem?_eq_getElem hj]
  exact List.getElem_mem hj
theorem IsEx.moved {ok ok' : Nat → Prop} {w w' : World} (hs : w.heap.size ≤ w'.heap.size) (hk : ∀ b, b < w.heap.size → ok b → ok' b ∧ w'.heap[b]? = w.heap[b]?) : ∀ (n : Nat) {v : Value} {t : Ex}, IsEx ok n w v t → IsEx ok' n w' v t
 | 0, _, _, h => h.elim
 | n + 1, v, t, .inl h => .inl h
 | n + 1, v, t, .inr ⟨hi, b, kv, h1, h2, h3, h5⟩ => by
  have hb := hk b (Array.getElem?_eq_some_iff.1 h3).1 h2
  exact .inr ⟨hi, b, kv, h1, hb.1, hb.2.trans h3, h5.moved hs hk fun u o _ hp => IsEx.moved hs hk n hp⟩
theorem IsEx.more {ok : Nat → Prop} {w : World} : ∀ (n m : Nat), n ≤ m → ∀ {v : Value} {t : Ex}, IsEx ok n w v t → IsEx ok m w v t
 | 0, _, _, _, _, h => h.elim
 | n + 1, 0, hm, _, _, _ => by omega
 | n + 1, m + 1, hm, v, t, .inl h => .inl h
 | n + 1, m + 1, hm, v, t, .inr ⟨hi, b, kv, h1, h2, h3, h5⟩ => .inr ⟨hi, b, kv, h1, h2, h3, h5.moved (Nat.le_refl _) (fun g hg1 hg2 => ⟨hg2, rfl⟩) fun u o _ hp => IsEx.more n m (by omega) hp⟩
theorem IsEx.below {ok : Nat → Prop} {w w' : World} {n : Nat} {v : Value} {t : Ex} (h : IsEx ok n w v t) (hb : Below w.heap.size w w') : IsEx ok n w' v t :=
 IsEx.moved hb.size (fun b hb1 hok => ⟨hok, hb.block b hb1⟩) n h
theorem Expr.moved {ok ok' : Nat → Prop} {w w' : World} {v : Value} {t : Ex} (h : Expr ok w v t) (hs : w.heap.size ≤ w'.heap.size) (hk : ∀ b, b < w.heap.size → ok b → ok' b ∧ w'.heap[b]? = w.heap[b]?) : Expr ok' w' v t := by
 obtain ⟨n, h⟩ := h; exact ⟨n, h.moved hs hk⟩
theorem Expr.imp {ok ok' : Nat → Prop} {w : World} {v : Value} {t : Ex} (h : Expr ok w v t) (hk : ∀ b, b < w.heap.size → ok b → ok' b) : Expr ok' w v t :=
 h.moved (Nat.le_refl _) fun b hb hok => ⟨hk b hb hok, rfl⟩
end Go.Proofs.YtgmmfpdekefamaaGreatDoor

namespace Go.Proofs.YtgmmfpdekefamaaGreatDoor
open Go.RowKit
set_option linter.unusedVariables false
set_option maxRecDepth 100000

/-- numbers in memory -/
def IntsR (w : World) (v : Value) (l : List Int) : Prop := ∃ a c, v = .slice a l.length c ∧ l.length ≤ c ∧ (l = [] ∨ ∃ g off, a = some ⟨g, off, none⟩ ∧ g < w.heap.size ∧ ∀ j, j < l.length → w.cell? ⟨g, off + j, none⟩ = some (.int .i64 (l.getD j 0)))
theorem IntsR.below {w w' : World} {v : Value} {l : List Int} (h : IntsR w v l) (hb : Below w.heap.size w w') : IntsR w' v l := by
 obtain ⟨a, c, h1, h0, h2⟩ := h
 refine ⟨a, c, h1, h0, h2.imp id fun ⟨g, off, e, hg, hc⟩ => ⟨g, off, e, Nat.lt_of_lt_of_le hg hb.size, fun j hj => (hb.cell (p := ⟨g, off + j, none⟩) hg).trans (hc j hj)⟩⟩
/-- a number of a row, and where it lies -/
theorem IntsR.at {w : World} {a : Option Addr} {n c : Nat} {l : List Int} (h : IntsR w (.slice a n c) l) {k : Nat} (hk : k < l.length) : ∃ b off, a = some ⟨b, off, none⟩ ∧ b < w.heap.size ∧ w.cell? ⟨b, off + k, none⟩ = some (.int .i64 (l.getD k 0)) := by
 obtain ⟨a', c', e, _, h2⟩ := h
 obtain ⟨rfl, rfl, rfl⟩ : a = a' ∧ n = l.length ∧ c = c' := by simpa using e
 rcases h2 with rfl | ⟨b, off, rfl, hb, hc⟩
 ·simp at hk
 ·exact ⟨b, off, rfl, hb, hc k hk⟩
theorem IntsR.slice {w : World} {v : Value} {l : List Int} (h : IntsR w v l) : ∃ a c, v = .slice a l.length c := by
 obtain ⟨a, c, e, _, _⟩ := h; exact ⟨a, c, e⟩
theorem alloc_size (w : World) (o : Obj) : (w.alloc o).heap.size = w.heap.size + 1 := Array.size_push ..
theorem alloc_below (w : World) (o : Obj) : Below w.heap.size w (w.alloc o) := (Below.refl _ w).alloc (Nat.le_refl _) _
theorem below_drewG {B : Nat} {w w' : World} (h : Below B w w') (n : Nat) : Below B w (w'.drewN n) := h.trans ⟨rfl, rfl, rfl, Nat.le_refl _, fun _ _ => rfl⟩
theorem allocAtA (w : World) (o : Obj) : (w.alloc o).heap[w.heap.size]? = some o := by
 show (w.heap.push o)[w.heap.size]? = some o
 simp
theorem cellsAtA {w : World} {B : Nat} {cs : Array Value} {t : TypeId} (h : w.heap[B]? = some (.cells cs t)) (j : Nat) (v : Value) (hv : cs[j]? = some v) : w.cell? ⟨B, j, none⟩ = some v := by
 simp only [World.cell?, h]
 exact hv
theorem belowSetA {B : Nat} {w w' : World} (h : Below B w w') {D : Nat} (hD : B ≤ D) (o : Nat) (v : Value) : Below B w (w'.setCell ⟨D, o, none⟩ v) :=
 ⟨h.os, h.tape, h.output, by simpa using h.size, fun k hk => (Below.heap_setCell _ _ _ _ (by simp; omega)).trans (h.block k hk)⟩

end Go.Proofs.YtgmmfpdekefamaaGreatDoor

namespace Go.Proofs.YtgmmfpdekefamaaGreatDoor
open Go.RowKit
set_option linter.unusedVariables false
set_option maxRecDepth 100000

/-- how many kids a function takes -/
def kidsL (l : List UInt8) : Int := cond (l == [108, 101, 110]) 1 (cond (l == [116, 101, 120, 116]) 1 (cond (l == [116, 97, 103]) 1 (cond (l == [107, 105, 100, 115]) 1 (cond (l == [105, 110, 116]) 2 (cond (l == [110, 111, 100, 101]) 2 (cond (l == [97, 116]) 3 (0)))))))
set_option maxHeartbeats 4000000 in
theorem rkids_any (s : ByteArray) (w : World) : Calls Tryz.prog 90 #[.string s] w fun e w' => e = .returned (.int .i64 (kidsL s.toList)) ∧ w' = w := by
 cases h1 : s.toList == [108, 101, 110]
 ·cases h2 : s.toList == [116, 101, 120, 116]
  ·cases h3 : s.toList == [116, 97, 103]
   ·cases h4 : s.toList == [107, 105, 100, 115]
    ·cases h5 : s.toList == [105, 110, 116]
     ·cases h6 : s.toList == [110, 111, 100, 101]
      ·cases h7 : s.toList == [97, 116]
       ·have HV : Hid (kidsL s.toList = 0) := by show _ = _; simp only [kidsL, h1, h2, h3, h4, h5, h6, h7, cond_false]
        go_enter Tryz.func90, Tryz.ntmps90
        go_wp2
        go_ret
        exact ⟨by rw [HV.out]; rfl, rfl⟩
       ·have HV : Hid (kidsL s.toList = 3) := by show _ = _; simp only [kidsL, h1, h2, h3, h4, h5, h6, h7, cond_true, cond_false]
        go_enter Tryz.func90, Tryz.ntmps90
        go_wp2
        go_ret
        exact ⟨by rw [HV.out]; rfl, rfl⟩
      ·have HV : Hid (kidsL s.toList = 2) := by show _ = _; simp only [kidsL, h1, h2, h3, h4, h5, h6, cond_true, cond_false]
       go_enter Tryz.func90, Tryz.ntmps90
       go_wp2
       go_ret
       exact ⟨by rw [HV.out]; rfl, rfl⟩
     ·have HV : Hid (kidsL s.toList = 2) := by show _ = _; simp only [kidsL, h1, h2, h3, h4, h5, cond_true, cond_false]
      go_enter Tryz.func90, Tryz.ntmps90
      go_wp2
      go_ret
      exact ⟨by rw [HV.out]; rfl, rfl⟩
    ·have HV : Hid (kidsL s.toList = 1) := by show _ = _; simp only [kidsL, h1, h2, h3, h4, cond_true, cond_false]
     go_enter Tryz.func90, Tryz.ntmps90
     go_wp2
     go_ret
     exact ⟨by rw [HV.out]; rfl, rfl⟩
   ·have HV : Hid (kidsL s.toList = 1) := by show _ = _; simp only [kidsL, h1, h2, h3, cond_true, cond_false]
    go_enter Tryz.func90, Tryz.ntmps90
    go_wp2
    go_ret
    exact ⟨by rw [HV.out]; rfl, rfl⟩
  ·have HV : Hid (kidsL s.toList = 1) := by show _ = _; simp only [kidsL, h1, h2, cond_true, cond_false]
   go_enter Tryz.func90, Tryz.ntmps90
   go_wp2
   go_ret
   exact ⟨by rw [HV.out]; rfl, rfl⟩
 ·have HV : Hid (kidsL s.toList = 1) := by show _ = _; simp only [kidsL, h1, cond_true]
  go_enter Tryz.func90, Tryz.ntmps90
  go_wp2
  go_ret
  exact ⟨by rw [HV.out]; rfl, rfl⟩
set_option maxHeartbeats 4000000 in
theorem takes_any (s : ByteArray) (w : World) : Calls Tryz.prog 95 #[.string s] w fun e w' => e = .returned (.int .i64 (kidsL s.toList)) ∧ w' = w := by
 cases h1 : s.toList == [108, 101, 110]
 ·cases h2 : s.toList == [116, 101, 120, 116]
  ·cases h3 : s.toList == [116, 97, 103]
   ·cases h4 : s.toList == [107, 105, 100, 115]
    ·cases h5 : s.toList == [105, 110, 116]
     ·cases h6 : s.toList == [110, 111, 100, 101]
      ·cases h7 : s.toList == [97, 116]
       ·have HV : Hid (kidsL s.toList = 0) := by show _ = _; simp only [kidsL, h1, h2, h3, h4, h5, h6, h7, cond_false]
        go_enter Tryz.func95, Tryz.ntmps95
        go_wp2
        go_ret
        exact ⟨by rw [HV.out]; rfl, rfl⟩
       ·have HV : Hid (kidsL s.toList = 3) := by show _ = _; simp only [kidsL, h1, h2, h3, h4, h5, h6, h7, cond_true, cond_false]
        go_enter Tryz.func95, Tryz.ntmps95
        go_wp2
        go_ret
        exact ⟨by rw [HV.out]; rfl, rfl⟩
      ·have HV : Hid (kidsL s.toList = 2) := by show _ = _; simp only [kidsL, h1, h2, h3, h4, h5, h6, cond_true, cond_false]
       go_enter Tryz.func95, Tryz.ntmps95
       go_wp2
       go_ret
       exact ⟨by rw [HV.out]; rfl, rfl⟩
     ·have HV : Hid (kidsL s.toList = 2) := by show _ = _; simp only [kidsL, h1, h2, h3, h4, h5, cond_true, cond_false]
      go_enter Tryz.func95, Tryz.ntmps95
      go_wp2
      go_ret
      exact ⟨by rw [HV.out]; rfl, rfl⟩
    ·have HV : Hid (kidsL s.toList = 1) := by show _ = _; simp only [kidsL, h1, h2, h3, h4, cond_true, cond_false]
     go_enter Tryz.func95, Tryz.ntmps95
     go_wp2
     go_ret
     exact ⟨by rw [HV.out]; rfl, rfl⟩
   ·have HV : Hid (kidsL s.toList = 1) := by show _ = _; simp only [kidsL, h1, h2, h3, cond_true, cond_false]
    go_enter Tryz.func95, Tryz.ntmps95
    go_wp2
    go_ret
    exact ⟨by rw [HV.out]; rfl, rfl⟩
  ·have HV : Hid (kidsL s.toList = 1) := by show _ = _; simp only [kidsL, h1, h2, cond_true, cond_false]
   go_enter Tryz.func95, Tryz.ntmps95
   go_wp2
   go_ret
   exact ⟨by rw [HV.out]; rfl, rfl⟩
 ·have HV : Hid (kidsL s.toList = 1) := by show _ = _; simp only [kidsL, h1, cond_true]
  go_enter Tryz.func95, Tryz.ntmps95
  go_wp2
  go_ret
  exact ⟨by rw [HV.out]; rfl, rfl⟩
/-- how loose an operator is -/
def lvlL (l : List UInt8) : Int := cond (l == [61, 61]) 0 (cond (l == [60]) 0 (cond (l == [43]) 1 (cond (l == [45]) 1 (cond (l == [43, 43]) 1 (cond (l == [42]) 2 (cond (l == [47]) 2 (cond (l == [37]) 2 (-1))))))))
set_option maxHeartbeats 4000000 in
theorem rlevel_any (s : ByteArray) (w : World) : Calls Tryz.prog 89 #[.string s] w fun e w' => e = .returned (.int .i64 (lvlL s.toList)) ∧ w' = w := by
 cases h1 : s.toList == [61, 61]
 ·cases h2 : s.toList == [60]
  ·cases h3 : s.toList == [43]
   ·cases h4 : s.toList == [45]
    ·cases h5 : s.toList == [43, 43]
     ·cases h6 : s.toList == [42]
      ·cases h7 : s.toList == [47]
       ·cases h8 : s.toList == [37]
        ·have HV : Hid (lvlL s.toList = -1) := by show _ = _; simp only [lvlL, h1, h2, h3, h4, h5, h6, h7, h8, cond_false]
         go_enter Tryz.func89, Tryz.ntmps89
         go_wp2
         go_ret
         exact ⟨by rw [HV.out]; rfl, rfl⟩
        ·have HV : Hid (lvlL s.toList = 2) := by show _ = _; simp only [lvlL, h1, h2, h3, h4, h5, h6, h7, h8, cond_true, cond_false]
         go_enter Tryz.func89, Tryz.ntmps89
         go_wp2
         go_ret
         exact ⟨by rw [HV.out]; rfl, rfl⟩
       ·have HV : Hid (lvlL s.toList = 2) := by show _ = _; simp only [lvlL, h1, h2, h3, h4, h5, h6, h7, cond_true, cond_false]
        go_enter Tryz.func89, Tryz.ntmps89
        go_wp2
        go_ret
        exact ⟨by rw [HV.out]; rfl, rfl⟩
      ·have HV : Hid (lvlL s.toList = 2) := by show _ = _; simp only [lvlL, h1, h2, h3, h4, h5, h6, cond_true, cond_false]
       go_enter Tryz.func89, Tryz.ntmps89
       go_wp2
       go_ret
       exact ⟨by rw [HV.out]; rfl, rfl⟩
     ·have HV : Hid (lvlL s.toList = 1) := by show _ = _; simp only [lvlL, h1, h2, h3, h4, h5, cond_true, cond_false]
      go_enter Tryz.func89, Tryz.ntmps89
      go_wp2
      go_ret
      exact ⟨by rw [HV.out]; rfl, rfl⟩
    ·have HV : Hid (lvlL s.toList = 1) := by show _ = _; simp only [lvlL, h1, h2, h3, h4, cond_true, cond_false]
     go_enter Tryz.func89, Tryz.ntmps89
     go_wp2
     go_ret
     exact ⟨by rw [HV.out]; rfl, rfl⟩
   ·have HV : Hid (lvlL s.toList = 1) := by show _ = _; simp only [lvlL, h1, h2, h3, cond_true, cond_false]
    go_enter Tryz.func89, Tryz.ntmps89
    go_wp2
    go_ret
    exact ⟨by rw [HV.out]; rfl, rfl⟩
  ·have HV : Hid (lvlL s.toList = 0) := by show _ = _; simp only [lvlL, h1, h2, cond_true, cond_false]
   go_enter Tryz.func89, Tryz.ntmps89
   go_wp2
   go_ret
   exact ⟨by rw [HV.out]; rfl, rfl⟩
 ·have HV : Hid (lvlL s.toList = 0) := by show _ = _; simp only [lvlL, h1, cond_true]
  go_enter Tryz.func89, Tryz.ntmps89
  go_wp2
  go_ret
  exact ⟨by rw [HV.out]; rfl, rfl⟩
/-- .. in the program -/
def lvlP (l : List UInt8) : Int := cond (l == [61, 61]) 1 (cond (l == [60]) 1 (cond (l == [43]) 2 (cond (l == [45]) 2 (cond (l == [43, 43]) 2 (cond (l == [42]) 3 (cond (l == [47]) 3 (cond (l == [37]) 3 (5))))))))
set_option maxHeartbeats 4000000 in
theorem level_any (s : ByteArray) (w : World) : Calls Tryz.prog 94 #[.string s] w fun e w' => e = .returned (.int .i64 (lvlP s.toList)) ∧ w' = w := by
 cases h1 : s.toList == [61, 61]
 ·cases h2 : s.toList == [60]
  ·cases h3 : s.toList == [43]
   ·cases h4 : s.toList == [45]
    ·cases h5 : s.toList == [43, 43]
     ·cases h6 : s.toList == [42]
      ·cases h7 : s.toList == [47]
       ·cases h8 : s.toList == [37]
        ·have HV : Hid (lvlP s.toList = 5) := by show _ = _; simp only [lvlP, h1, h2, h3, h4, h5, h6, h7, h8, cond_false]
         go_enter Tryz.func94, Tryz.ntmps94
         go_wp2
         go_ret
         exact ⟨by rw [HV.out]; rfl, rfl⟩
        ·have HV : Hid (lvlP s.toList = 3) := by show _ = _; simp only [lvlP, h1, h2, h3, h4, h5, h6, h7, h8, cond_true, cond_false]
         go_enter Tryz.func94, Tryz.ntmps94
         go_wp2
         go_ret
         exact ⟨by rw [HV.out]; rfl, rfl⟩
       ·have HV : Hid (lvlP s.toList = 3) := by show _ = _; simp only [lvlP, h1, h2, h3, h4, h5, h6, h7, cond_true, cond_false]
        go_enter Tryz.func94, Tryz.ntmps94
        go_wp2
        go_ret
        exact ⟨by rw [HV.out]; rfl, rfl⟩
      ·have HV : Hid (lvlP s.toList = 3) := by show _ = _; simp only [lvlP, h1, h2, h3, h4, h5, h6, cond_true, cond_false]
       go_enter Tryz.func94, Tryz.ntmps94
       go_wp2
       go_ret
       exact ⟨by rw [HV.out]; rfl, rfl⟩
     ·have HV : Hid (lvlP s.toList = 2) := by show _ = _; simp only [lvlP, h1, h2, h3, h4, h5, cond_true, cond_false]
      go_enter Tryz.func94, Tryz.ntmps94
      go_wp2
      go_ret
      exact ⟨by rw [HV.out]; rfl, rfl⟩
    ·have HV : Hid (lvlP s.toList = 2) := by show _ = _; simp only [lvlP, h1, h2, h3, h4, cond_true, cond_false]
     go_enter Tryz.func94, Tryz.ntmps94
     go_wp2
     go_ret
     exact ⟨by rw [HV.out]; rfl, rfl⟩
   ·have HV : Hid (lvlP s.toList = 2) := by show _ = _; simp only [lvlP, h1, h2, h3, cond_true, cond_false]
    go_enter Tryz.func94, Tryz.ntmps94
    go_wp2
    go_ret
    exact ⟨by rw [HV.out]; rfl, rfl⟩
  ·have HV : Hid (lvlP s.toList = 1) := by show _ = _; simp only [lvlP, h1, h2, cond_true, cond_false]
   go_enter Tryz.func94, Tryz.ntmps94
   go_wp2
   go_ret
   exact ⟨by rw [HV.out]; rfl, rfl⟩
 ·have HV : Hid (lvlP s.toList = 1) := by show _ = _; simp only [lvlP, h1, cond_true]
  go_enter Tryz.func94, Tryz.ntmps94
  go_wp2
  go_ret
  exact ⟨by rw [HV.out]; rfl, rfl⟩
/-- is it a word? -/
def keptL (l : List UInt8) : Bool := cond (l == [108, 101, 116]) true (cond (l == [105, 110]) true (cond (l == [105, 102]) true (cond (l == [116, 104, 101, 110]) true (cond (l == [101, 108, 115, 101]) true (false)))))
set_option maxHeartbeats 4000000 in
theorem rkept_any (s : ByteArray) (w : World) : Calls Tryz.prog 149 #[.string s] w fun e w' => e = .returned (.bool (keptL s.toList)) ∧ w' = w := by
 cases h1 : s.toList == [108, 101, 116]
 ·cases h2 : s.toList == [105, 110]
  ·cases h3 : s.toList == [105, 102]
   ·cases h4 : s.toList == [116, 104, 101, 110]
    ·cases h5 : s.toList == [101, 108, 115, 101]
     ·have HV : Hid (keptL s.toList = false) := by show _ = _; simp only [keptL, h1, h2, h3, h4, h5, cond_false]
      go_enter Tryz.func149, Tryz.ntmps149
      go_wp2
      go_ret
      exact ⟨by rw [HV.out]; rfl, rfl⟩
     ·have HV : Hid (keptL s.toList = true) := by show _ = _; simp only [keptL, h1, h2, h3, h4, h5, cond_true, cond_false]
      go_enter Tryz.func149, Tryz.ntmps149
      go_wp2
      go_ret
      exact ⟨by rw [HV.out]; rfl, rfl⟩
    ·have HV : Hid (keptL s.toList = true) := by show _ = _; simp only [keptL, h1, h2, h3, h4, cond_true, cond_false]
     go_enter Tryz.func149, Tryz.ntmps149
     go_wp2
     go_ret
     exact ⟨by rw [HV.out]; rfl, rfl⟩
   ·have HV : Hid (keptL s.toList = true) := by show _ = _; simp only [keptL, h1, h2, h3, cond_true, cond_false]
    go_enter Tryz.func149, Tryz.ntmps149
    go_wp2
    go_ret
    exact ⟨by rw [HV.out]; rfl, rfl⟩
  ·have HV : Hid (keptL s.toList = true) := by show _ = _; simp only [keptL, h1, h2, cond_true, cond_false]
   go_enter Tryz.func149, Tryz.ntmps149
   go_wp2
   go_ret
   exact ⟨by rw [HV.out]; rfl, rfl⟩
 ·have HV : Hid (keptL s.toList = true) := by show _ = _; simp only [keptL, h1, cond_true]
  go_enter Tryz.func149, Tryz.ntmps149
  go_wp2
  go_ret
  exact ⟨by rw [HV.out]; rfl, rfl⟩
set_option maxHeartbeats 4000000 in
theorem keyword_any (s : ByteArray) (w : World) : Calls Tryz.prog 153 #[.string s] w fun e w' => e = .returned (.bool (keptL s.toList)) ∧ w' = w := by
 cases h1 : s.toList == [108, 101, 116]
 ·cases h2 : s.toList == [105, 110]
  ·cases h3 : s.toList == [105, 102]
   ·cases h4 : s.toList == [116, 104, 101, 110]
    ·cases h5 : s.toList == [101, 108, 115, 101]
     ·have HV : Hid (keptL s.toList = false) := by show _ = _; simp only [keptL, h1, h2, h3, h4, h5, cond_false]
      go_enter Tryz.func153, Tryz.ntmps153
      go_wp2
      go_ret
      exact ⟨by rw [HV.out]; rfl, rfl⟩
     ·have HV : Hid (keptL s.toList = true) := by show _ = _; simp only [keptL, h1, h2, h3, h4, h5, cond_true, cond_false]
      go_enter Tryz.func153, Tryz.ntmps153
      go_wp2
      go_ret
      exact ⟨by rw [HV.out]; rfl, rfl⟩
    ·have HV : Hid (keptL s.toList = true) := by show _ = _; simp only [keptL, h1, h2, h3, h4, cond_true, cond_false]
     go_enter Tryz.func153, Tryz.ntmps153
     go_wp2
     go_ret
     exact ⟨by rw [HV.out]; rfl, rfl⟩
   ·have HV : Hid (keptL s.toList = true) := by show _ = _; simp only [keptL, h1, h2, h3, cond_true, cond_false]
    go_enter Tryz.func153, Tryz.ntmps153
    go_wp2
    go_ret
    exact ⟨by rw [HV.out]; rfl, rfl⟩
  ·have HV : Hid (keptL s.toList = true) := by show _ = _; simp only [keptL, h1, h2, cond_true, cond_false]
   go_enter Tryz.func153, Tryz.ntmps153
   go_wp2
   go_ret
   exact ⟨by rw [HV.out]; rfl, rfl⟩
 ·have HV : Hid (keptL s.toList = true) := by show _ = _; simp only [keptL, h1, cond_true]
  go_enter Tryz.func153, Tryz.ntmps153
  go_wp2
  go_ret
  exact ⟨by rw [HV.out]; rfl, rfl⟩
theorem lvl_both (l : List UInt8) : lvlP l = if lvlL l < 0 then 5 else lvlL l + 1 := by
 unfold lvlP lvlL
 repeat' (first | (generalize hx : (l == _) = b; cases b <;> simp only [cond_true, cond_false]) | rfl)

end Go.Proofs.YtgmmfpdekefamaaGreatDoor

namespace Go.Proofs.YtgmmfpdekefamaaGreatDoor
open Go.RowKit
set_option linter.unusedVariables false
set_option maxRecDepth 100000

def smallB (b : Int) : Bool := decide (b ≥ 97) && decide (b ≤ 122)
def digitB (b : Int) : Bool := decide (b ≥ 48) && decide (b ≤ 57)
def wordB (b : Int) : Bool := smallB b || digitB b || decide (b = 95)

set_option maxHeartbeats 1000000 in
theorem rsmall_any (b : Int) (w : World) : Calls Tryz.prog 111 #[.int .u8 b] w fun e w' => e = .returned (.bool (smallB b)) ∧ w' = w := by
 unfold smallB
 cases h1 : decide (b ≥ 97)
 all_goals
  cases h2 : decide (b ≤ 122)
  all_goals
   go_enter Tryz.func111, Tryz.ntmps111
   go_wp2
   go_ret
   exact ⟨rfl, rfl⟩
set_option maxHeartbeats 1000000 in
theorem rdigit_any (b : Int) (w : World) : Calls Tryz.prog 110 #[.int .u8 b] w fun e w' => e = .returned (.bool (digitB b)) ∧ w' = w := by
 unfold digitB
 cases h1 : decide (b ≥ 48)
 all_goals
  cases h2 : decide (b ≤ 57)
  all_goals
   go_enter Tryz.func110, Tryz.ntmps110
   go_wp2
   go_ret
   exact ⟨rfl, rfl⟩
set_option maxHeartbeats 1000000 in
theorem asmall_any (b : Int) (w : World) : Calls Tryz.prog 152 #[.int .u8 b] w fun e w' => e = .returned (.bool (smallB b)) ∧ w' = w := by
 unfold smallB
 cases h1 : decide (b ≥ 97)
 all_goals
  cases h2 : decide (b ≤ 122)
  all_goals
   go_enter Tryz.func152, Tryz.ntmps152
   go_wp2
   go_ret
   exact ⟨rfl, rfl⟩
set_option maxHeartbeats 1000000 in
theorem adigit_any (b : Int) (w : World) : Calls Tryz.prog 176 #[.int .u8 b] w fun e w' => e = .returned (.bool (digitB b)) ∧ w' = w := by
 unfold digitB
 cases h1 : decide (b ≥ 48)
 all_goals
  cases h2 : decide (b ≤ 57)
  all_goals
   go_enter Tryz.func176, Tryz.ntmps176
   go_wp2
   go_ret
   exact ⟨rfl, rfl⟩

end Go.Proofs.YtgmmfpdekefamaaGreatDoor

namespace Go.Proofs.YtgmmfpdekefamaaGreatDoor
open Go.Lib

/-- does the place hold a code point? -/
def okAt (s : ByteArray) (pos : Nat) : Bool := !((Utf8.decode s pos).1 == 65533 && (Utf8.decode s pos).2 == 1)

def ptsFrom (s : ByteArray) : Nat → Nat → List Int
 | 0, _ => []
 | f + 1, pos => if pos < s.size then ((Utf8.decode s pos).1 : Int) :: ptsFrom s f (pos + (Utf8.decode s pos).2) else []
def wholeFrom (s : ByteArray) : Nat → Nat → Bool
 | 0, _ => true
 | f + 1, pos => if pos < s.size then okAt s pos && wholeFrom s f (pos + (Utf8.decode s pos).2) else true
def whole (s : ByteArray) : Bool := wholeFrom s s.size 0

theorem dec_width (s : ByteArray) (pos : Nat) : 1 ≤ (Utf8.decode s pos).2 := by
 rw [← decodeL_drop]; exact decodeL_width _

theorem dec_rune (s : ByteArray) (pos : Nat) : (Utf8.decode s pos).1 ≤ 1114111 := by
 rw [← decodeL_drop]; exact decodeL_rune _

theorem dec_le (s : ByteArray) (pos : Nat) (h : pos < s.size) : pos + (Utf8.decode s pos).2 ≤ s.size := by
 rw [← decodeL_drop]
 have hne : s.data.toList.drop pos ≠ [] := by
  intro e
  have := congrArg List.length e
  simp at this
  have h2 : s.size = s.data.size := rfl
  omega
 have := decodeL_le _ hne
 simp at this
 have h2 : s.size = s.data.size := rfl
 omega

theorem dec_four (s : ByteArray) (pos : Nat) : (Utf8.decode s pos).2 ≤ 4 := by
 rw [← decodeL_drop, decodeL_N]
 rcases decodeN_shape (s.data.toList.drop pos).length ((s.data.toList.drop pos).getD 0 0).toNat ((s.data.toList.drop pos).getD 1 0).toNat ((s.data.toList.drop pos).getD 2 0).toNat ((s.data.toList.drop pos).getD 3 0).toNat with ⟨c, e⟩ | ⟨c1, c2, c3, cv, e⟩ | ⟨c1, c2, c3, c4, cv, cs, e⟩ | ⟨c1, c2, c3, c4, c5, cv, cw, e⟩ | e
 all_goals (rw [e]; dsimp only; omega)

theorem enc_dec (s : ByteArray) (pos : Nat) (h : pos < s.size) (ho : okAt s pos = true) : encodeRune ((Utf8.decode s pos).1 : Int) = (s.data.toList.drop pos).take (Utf8.decode s pos).2 := by
 have hne : s.data.toList.drop pos ≠ [] := by
  intro e
  have := congrArg List.length e
  simp at this
  have h2 : s.size = s.data.size := rfl
  omega
 have hd := decodeL_drop s pos
 have := encode_decode _ hne (by
  rw [hd]
  intro ⟨h1, h2⟩
  simp [okAt, h1, h2] at ho)
 rw [hd] at this
 exact this

theorem wholeFrom_end (s : ByteArray) (f pos : Nat) (h : ¬ pos < s.size) : wholeFrom s f pos = true := by
 cases f with
 | zero => rfl
 | succ f => simp [wholeFrom, h]
theorem wholeFrom_step (s : ByteArray) (f pos : Nat) (h : pos < s.size) : wholeFrom s (f + 1) pos = (okAt s pos && wholeFrom s f (pos + (Utf8.decode s pos).2)) := by
 simp [wholeFrom, h]

end Go.Proofs.YtgmmfpdekefamaaGreatDoor

namespace Go.Proofs.YtgmmfpdekefamaaGreatDoor
open Go.RowKit
set_option linter.unusedVariables false
set_option linter.unusedSimpArgs false
set_option maxRecDepth 100000

def byteAt (s : ByteArray) (k : Nat) : Nat := (s.get! k).toNat
def folB (s : ByteArray) (k : Nat) (lo hi : Int) : Bool := decide (k < s.size) && (decide (lo ≤ (byteAt s k : Int)) && decide ((byteAt s k : Int) ≤ hi))

theorem byteAt_get (s : ByteArray) (k : Nat) (h : k < s.size) : byteAt s k = s[k].toNat := by
 unfold byteAt
 have := get_at s k h
 rw [Nat.add_zero] at this
 rw [this]
theorem byteAt_lt (s : ByteArray) (k : Nat) : byteAt s k < 256 := (s.get! k).toNat_lt
theorem wrap_byte (b : UInt8) : wrap64 (b.toNat : Int) = (b.toNat : Int) := by
 have := b.toNat_lt
 unfold wrap64; omega

set_option maxHeartbeats 400000 in
theorem follow_any (s : ByteArray) (k : Nat) (lo hi : Int) (w : World) (hs : s.size ≤ 140737488351232) :
  Calls Tryz.prog 175 #[.string s, .int .i64 k, .int .i64 lo, .int .i64 hi] w fun e w' => e = .returned (.bool (folB s k lo hi)) ∧ w' = w := by
 by_cases hlt : k < s.size
 ·have hg := byteAt_get s k hlt
  have hw := wrap_byte s[k]
  by_cases h1 : lo ≤ (s[k].toNat : Int)
  ·by_cases h2 : (s[k].toNat : Int) ≤ hi
   ·go_enter Tryz.func175, Tryz.ntmps175
    go_wp2
    go_ret
    exact ⟨by simp [folB, hlt, hg, h1, h2], rfl⟩
   ·go_enter Tryz.func175, Tryz.ntmps175
    go_wp2
    go_ret
    exact ⟨by simp [folB, hlt, hg, h1, h2], rfl⟩
  ·go_enter Tryz.func175, Tryz.ntmps175
   go_wp2
   go_ret
   exact ⟨by simp [folB, hlt, hg]; intro h; omega, rfl⟩
 ·go_enter Tryz.func175, Tryz.ntmps175
  go_wp2
  go_ret
  exact ⟨by simp [folB, hlt], rfl⟩

set_option maxHeartbeats 400000 in
theorem pt_ascii (s : ByteArray) (k : Nat) (w : World) (hs : s.size ≤ 140737488351232) (hk : k < s.size) (c1 : (s[k].toNat : Int) < 128) :
  Calls Tryz.prog 150 #[.string s, .int .i64 k] w fun e w' => e = .returned (.tuple #[.int .i64 s[k].toNat, .int .i64 1, .bool true]) ∧ w' = w := by
 have hw := wrap_byte s[k]
 go_enter Tryz.func150, Tryz.ntmps150
 go_wp2
 go_ret3
 exact ⟨rfl, rfl⟩

set_option maxHeartbeats 1000000 in
theorem pt_2_f (s : ByteArray) (k : Nat) (w : World) (hs : s.size ≤ 140737488351232) (hk : k < s.size)  (c1 : 194 ≤ (s[k].toNat : Int)) (c2 : (s[k].toNat : Int) ≤ 223) (f1 : folB s (k + 1) 128 191 = false) :
  Calls Tryz.prog 150 #[.string s, .int .i64 k] w fun e w' => e = .returned (.tuple #[.int .i64 65533, .int .i64 1, .bool false]) ∧ w' = w := by
 have hw := wrap_byte s[k]
 go_enter Tryz.func150, Tryz.ntmps150
 go_wp2_with (go_at_call 175; refine (follow_any s (k + 1) 128 191 _ hs).mono ?_; rintro e w' ⟨rfl, rfl⟩)
 refine wp_loop_rounds 1 ?_
 rw [rounds_succ]
 go_wp2_with fail
 go_ret3
 exact ⟨rfl, rfl⟩

set_option maxHeartbeats 1000000 in
theorem pt_2_t (s : ByteArray) (k : Nat) (w : World) (hs : s.size ≤ 140737488351232) (hk : k < s.size) (hk1 : k + 1 < s.size) (c1 : 194 ≤ (s[k].toNat : Int)) (c2 : (s[k].toNat : Int) ≤ 223) (f1 : folB s (k + 1) 128 191 = true) :
  Calls Tryz.prog 150 #[.string s, .int .i64 k] w fun e w' => e = .returned (.tuple #[.int .i64 (((s[k].toNat : Int) - 192) * 64 + s[k + 1].toNat - 128), .int .i64 2, .bool true]) ∧ w' = w := by
 have hw := wrap_byte s[k]
 have hw1 := wrap_byte s[k + 1]
 have hb1 : (s[k + 1].toNat : Int) ≤ 255 := by have := s[k + 1].toNat_lt; omega
 go_enter Tryz.func150, Tryz.ntmps150
 go_wp2_with (go_at_call 175; refine (follow_any s (k + 1) 128 191 _ hs).mono ?_; rintro e w' ⟨rfl, rfl⟩)
 refine wp_loop_rounds 1 ?_
 rw [rounds_succ]
 go_wp2_with fail
 refine wp_loop_rounds 2 ?_
 rw [rounds_succ]
 go_wp2_with fail
 rw [rounds_succ]
 go_wp2_with fail
 go_ret3
 exact ⟨rfl, rfl⟩

set_option maxHeartbeats 1000000 in
theorem pt_z (s : ByteArray) (k : Nat) (w : World) (hs : s.size ≤ 140737488351232) (hk : k < s.size) (c1 : 128 ≤ (s[k].toNat : Int)) (c2 : (s[k].toNat : Int) < 194 ∨ 244 < (s[k].toNat : Int)) :
  Calls Tryz.prog 150 #[.string s, .int .i64 k] w fun e w' => e = .returned (.tuple #[.int .i64 65533, .int .i64 1, .bool false]) ∧ w' = w := by
 have hw := wrap_byte s[k]
 rcases c2 with c2 | c2
 all_goals
  go_enter Tryz.func150, Tryz.ntmps150
  go_wp2_with fail
  refine wp_loop_rounds 1 ?_
  rw [rounds_succ]
  go_wp2_with fail
  go_ret3
  exact ⟨rfl, rfl⟩


end Go.Proofs.YtgmmfpdekefamaaGreatDoor
