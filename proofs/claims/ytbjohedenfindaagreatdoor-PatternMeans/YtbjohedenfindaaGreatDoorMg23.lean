/- Texts of the proof, put together: RRea, RPok, Dv, DvB. -/
import Derived.Test.YtbjohedenfindaaGreatDoorMg22
import Derived.Test.YtbjohedenfindaaGreatDoorMg08
namespace Go.Proofs.YtbjohedenfindaaGreatDoor
open Go.RowKit
set_option linter.unusedVariables false
set_option maxRecDepth 100000

/-- what Read gives -/
def RdP (w : World) (s : ByteArray) (mk : List Rg → Bool → List Rg) (e : Ending) (w' : World) : Prop := Below w.heap.size w w' ∧ ((∃ te pe, ∃ z : Int, e = .returned (.tuple #[.pointer none, .iface te pe, .int .i64 z])) ∨ ∃ t b, wholeS s mk = some t ∧ e = .returned (.tuple #[.pointer (some ⟨b, 0, none⟩), .nilIface, .int .i64 0]) ∧ Tree (fun b => w.heap.size ≤ b) w' (.pointer (some ⟨b, 0, none⟩)) t)
/-- PatternOk comes back -/
def PokC (s : ByteArray) (mk : List Rg → Bool → List Rg) : Prop := ∀ (B : Nat) (w : World) (v : Value) (t : Re), wholeS s mk = some t → Tree (fun b => B ≤ b) w v t → Calls Tryz.prog 13 #[v] w fun e w' => ∃ b, e = .returned (.bool b) ∧ Below w.heap.size w w'

/-- the reader's block as it begins -/
theorem reader_new {W0 w : World} {s : ByteArray} (hE : Env W0 w) (hs : s.size ≤ 2000) : SR W0 (w.alloc (.cells #[.string s, .int .i64 0, .int .i64 0, .nilIface, .int .i64 0] 54)) w.heap.size s 0 0 := by
  refine ⟨⟨by simp; have := hE.1; omega, fun k hk => ?_⟩, ⟨0, ?_⟩, hE.1, by omega, by omega⟩
  · rw [Below.heap_alloc _ _ _ (by have := hE.1; omega)]
    exact hE.2 k hk
  · have := heap_alloc_new w (.cells #[.string s, .int .i64 0, .int .i64 0, .nilIface, .int .i64 0] 54)
    exact this
theorem below_reader {w w' : World} {o : Obj} (hg : (w.alloc o).grownBy w' (some w.heap.size)) : Below w.heap.size w w' :=
  ⟨hg.os, hg.tape, hg.output, Nat.le_trans (by simp) hg.size, fun b hb => (hg.block b (by simp; omega) (by simp; omega)).trans (Below.heap_alloc w o b hb)⟩

theorem below_drewU {B : Nat} {a w : World} (h : Below B a w) (n : Nat) : Below B a (w.drewN n) := ⟨h.os, h.tape, h.output, h.size, h.block⟩
theorem BR.cell34 {W0 w : World} {R : Nat} {s : ByteArray} (h : BR W0 w R s) : ∃ te pe, ∃ z : Int, w.cell? ⟨R, 3, none⟩ = some (.iface te pe) ∧ w.cell? ⟨R, 4, none⟩ = some (.int .i64 z) := by
  obtain ⟨i, o, te, pe, z, _, _, hz⟩ := h.at_
  exact ⟨te, pe, z, hz.cells.2.2.2.1, hz.cells.2.2.2.2⟩

set_option maxHeartbeats 8000000 in
theorem rread_any {W0 w : World} (L : LibC W0) (hE : Env W0 w) {mk : List Rg → Bool → List Rg} (D : SetD mk) (hmk : mk [(10, 10)] true = [(0, 9), (11, 1114111)]) {s : ByteArray} (hs : s.size ≤ 2000) (P : PokC s mk) :
    Calls Tryz.prog 8 #[.string s] w fun e w' => RdP w s mk e w' := by
  have hl : ¬ (65536 : Int) < (s.size : Int) := by omega
  have hS1 := reader_new (s := s) hE hs
  have hU := runit_all (R := w.heap.size) (s := s) L hmk (fun o w i h => rinner_brack L D hs h) 100 0 (by omega)
  have HA : Hid (Calls Tryz.prog 21 #[.pointer (some ⟨w.heap.size, 0, none⟩)] (w.alloc (.cells #[.string s, .int .i64 0, .int .i64 0, .nilIface, .int .i64 0] 54)) fun e w2 => ∃ (p : Option Addr) (i1 : Nat), e = .returned (.pointer p) ∧ Below w.heap.size w w2 ∧ i1 ≤ s.size ∧ w2.cell? ⟨w.heap.size, 1, none⟩ = some (.int .i64 (i1 : Int)) ∧ Env W0 w2 ∧
      ((∃ j, XR W0 w2 w.heap.size s j 0) ∧ (BR W0 w2 w.heap.size s ∨ (SR W0 w2 w.heap.size s i1 0 ∧ ∃ t b, p = some ⟨b, 0, none⟩ ∧ patS s (fun j => unitS s mk 100 j) 0 = some (t, i1) ∧ Tree (fun b => w.heap.size ≤ b) w2 (.pointer p) t)))) := by
    refine (rpat_any L hU (unitS_goes 100) (part_goes (unitS_goes 100)) _ 0 (.inl ⟨hS1, by omega⟩)).mono ?_
    rintro e w2 ⟨p, j, rfl, hg, hx, hh⟩
    obtain ⟨i1, hi1, _, c1, hst⟩ := hx.at_
    refine ⟨p, i1, rfl, below_reader hg, hi1, c1, hx.env, ⟨j, hx⟩, ?_⟩
    rcases hst with hB | ⟨rfl, hS2⟩
    · exact .inl hB
    · rcases hh with hB | ⟨_, t, h2, h3⟩
      · exact .inl hB
      · obtain ⟨b, hb, _⟩ := h3.ptr
        have hp : p = some ⟨b, 0, none⟩ := by injection hb
        refine .inr ⟨hS2, t, b, hp, h2, Tree.imp h3 fun c _ hc => ?_⟩
        have : w.heap.size ≤ (w.alloc (.cells #[.string s, .int .i64 0, .int .i64 0, .nilIface, .int .i64 0] 54)).heap.size := by simp
        exact Nat.le_trans this hc
  have HP : Hid (PokC s mk) := P
  clear hS1 hU D hE P hmk
  go_enter Tryz.func8, Tryz.ntmps8
  go_wp2_with fail
  go_at_call 21
  refine HA.out.mono ?_
  rintro e w2 ⟨p, i1, rfl, hb2, hi1, c1, hE2, ⟨jx, hx2⟩, hh2⟩
  clear HA
  have hsz2 := hb2.size
  have hend : ∀ w3 : World, w2.grownBy w3 (some w.heap.size) → Below w.heap.size w w3 := fun w3 hg => ⟨hg.os.trans hb2.os, hg.tape.trans hb2.tape, hg.output.trans hb2.output, Nat.le_trans hsz2 hg.size, fun b hb => (hg.block b (by omega) (by simp; omega)).trans (hb2.block b hb)⟩
  by_cases hlt : i1 < s.size
  · have hltz : (i1 : Int) < (s.size : Int) := by omega
    obtain ⟨te, pe, cs⟩ := env_syn L hE2
    have HFl : Hid (Calls Tryz.prog 22 #[.pointer (some ⟨w.heap.size, 0, none⟩), .iface te pe, .int .i64 i1] w2.drew fun e w3 => e = .returned (.tuple #[]) ∧ (∃ te pe, ∃ z : Int, w3.cell? ⟨w.heap.size, 3, none⟩ = some (.iface te pe) ∧ w3.cell? ⟨w.heap.size, 4, none⟩ = some (.int .i64 z)) ∧ Below w.heap.size w w3) := by
      refine (fail_any (hx2.kept (grown_drewN w2 1 none)) te pe i1).mono ?_
      rintro e w3 ⟨q1, q2, q3⟩
      exact ⟨q1, q3.cell34, hend w3 (Lib.grownBy_trans (grown_drewN w2 1 (some w.heap.size)) q2)⟩
    clear hh2 hx2 hend hE2
    go_wp2
    go_region_with (go_at_call 22; refine HFl.out.mono ?_; rintro e w3 ⟨rfl, ⟨te3, pe3, z3, d3, d4⟩, hb3⟩)
    all_goals
      go_wp2
      go_quiet (fail)
      go_wp2
      go_ret3
      exact ⟨below_drewU hb3 nq, .inl ⟨te3, pe3, z3, rfl⟩⟩
  · have hltz : ¬ (i1 : Int) < (s.size : Int) := by omega
    rcases hh2 with hB | ⟨hS, t, b, rfl, hp, hT⟩
    · obtain ⟨te3, pe3, z3, d3, d4⟩ := hB.cell34
      clear hx2 hend hE2 hB
      go_wp2
      go_quiet (fail)
      go_wp2
      go_ret3
      exact ⟨below_drewU hb2 nq, .inl ⟨te3, pe3, z3, rfl⟩⟩
    · have d3 := hS.cell1.2
      have hw : wholeS s mk = some t := by
        unfold wholeS
        rw [hp]
        simp only
        rw [if_pos]
        unfold cpAt
        rw [if_neg (by omega)]
      have HW : Hid (wholeS s mk = some t) := hw
      have HT : Hid (Tree (fun b => w.heap.size ≤ b) w2 (.pointer (some ⟨b, 0, none⟩)) t) := hT
      have HK : Hid (Calls Tryz.prog 13 #[.pointer (some ⟨b, 0, none⟩)] w2 fun e w3 => ∃ bb, e = .returned (.bool bb) ∧ Below w.heap.size w w3 ∧ (∃ te pe, w3.cell? ⟨1, 0, none⟩ = some (.iface te pe)) ∧ Tree (fun b => w.heap.size ≤ b) w3 (.pointer (some ⟨b, 0, none⟩)) t) := by
        refine (HP.out w.heap.size w2 _ t hw hT).mono ?_
        rintro e w3 ⟨bb, q1, q2⟩
        have hg3 := grownBy_of_below q2 (some w.heap.size)
        refine ⟨bb, q1, hend w3 hg3, env_bnd L ⟨Nat.le_trans hE2.1 q2.size, fun k hk => (q2.block k (by have := hE2.1; omega)).trans (hE2.2 k hk)⟩, Tree.moved hT q2.size fun c hc hok => ⟨hok, q2.block c hc⟩⟩
      clear hx2 hend hE2 hS hp hT hw HP
      go_wp2_with fail
      go_at_call 13
      refine HK.out.mono ?_
      rintro e w3 ⟨bb, rfl, hb3, ⟨te3, pe3, d5⟩, hT3⟩
      have HT3 : Hid (Tree (fun b => w.heap.size ≤ b) w3 (.pointer (some ⟨b, 0, none⟩)) t) := hT3
      clear hT3 HK HT
      cases bb
      · go_wp2
        go_quiet (fail)
        go_wp2
        go_ret3
        exact ⟨below_drewU hb3 nq, .inl ⟨te3, pe3, 0, rfl⟩⟩
      · go_wp2
        go_ret3
        exact ⟨hb3, .inr ⟨t, b, HW.out, rfl, HT3.out⟩⟩

end Go.Proofs.YtbjohedenfindaaGreatDoor

namespace Go.Proofs.YtbjohedenfindaaGreatDoor
open Go.RowKit
set_option linter.unusedVariables false
set_option maxRecDepth 100000

set_option maxHeartbeats 2000000 in
theorem kidsok_any (k n : Int) (w : World) : Calls Tryz.prog 49 #[.int .i64 k, .int .i64 n] w fun e w' => ∃ b, e = .returned (.bool b) ∧ w' = w := by
  go_enter Tryz.func49, Tryz.ntmps49
  go_wp2
  all_goals
    go_ret
    exact ⟨_, rfl, rfl⟩

set_option maxHeartbeats 4000000 in
theorem timesok_any {w : World} {b : Nat} {k mn mx : Int} (hb : b < w.heap.size) (c0 : w.cell? ⟨b, 0, none⟩ = some (.int .i64 k)) (c2 : w.cell? ⟨b, 2, none⟩ = some (.int .i64 mn)) (c3 : w.cell? ⟨b, 3, none⟩ = some (.int .i64 mx)) :
    Calls Tryz.prog 50 #[.pointer (some ⟨b, 0, none⟩)] w fun e w' => ∃ bb, e = .returned (.bool bb) ∧ Below w.heap.size w w' := by
  by_cases hk : k = 6
  · subst hk
    by_cases h1 : mn < 0
    · go_enter Tryz.func50, Tryz.ntmps50
      go_wp2
      go_ret
      first | exact ⟨_, rfl, Below.refl _ _⟩ | exact ⟨.inl rfl, Below.refl _ _⟩ | exact ⟨.inr rfl, Below.refl _ _⟩
    · by_cases h2 : mn > 50
      · go_enter Tryz.func50, Tryz.ntmps50
        go_wp2
        go_ret
        first | exact ⟨_, rfl, Below.refl _ _⟩ | exact ⟨.inl rfl, Below.refl _ _⟩ | exact ⟨.inr rfl, Below.refl _ _⟩
      · have hcase : mx = -1 ∨ ((mx == -1) = false ∧ decide (mx ≥ mn) = false) ∨ ((mx == -1) = false ∧ decide (mx ≥ mn) = true ∧ decide (mx ≥ 1) = false) ∨ ((mx == -1) = false ∧ decide (mx ≥ mn) = true ∧ decide (mx ≥ 1) = true) := by
          by_cases a0 : mx = -1
          · exact .inl a0
          · have a1 : (mx == -1) = false := by rw [beq_eq_false_iff_ne]; exact a0
            by_cases a2 : mx ≥ mn
            · by_cases a3 : mx ≥ 1
              · exact .inr (.inr (.inr ⟨a1, by simp; omega, by simp; omega⟩))
              · exact .inr (.inr (.inl ⟨a1, by simp; omega, by simp; omega⟩))
            · exact .inr (.inl ⟨a1, by simp; omega⟩)
        rcases hcase with rfl | ⟨g1, g2⟩ | ⟨g1, g2, g3⟩ | ⟨g1, g2, g3⟩
        all_goals
          go_enter Tryz.func50, Tryz.ntmps50
          go_wp2
          go_quiet (fail)
          go_wp2
          go_ret
          exact ⟨_, rfl, below_drewU (Below.refl _ _) nq⟩
  · have hq : (k != 6) = true := by rw [bne_iff_ne]; exact hk
    by_cases h0 : mn = 0
    · subst h0
      go_enter Tryz.func50, Tryz.ntmps50
      go_wp2
      go_ret
      first | exact ⟨_, rfl, Below.refl _ _⟩ | exact ⟨.inl rfl, Below.refl _ _⟩ | exact ⟨.inr rfl, Below.refl _ _⟩
    · have hq2 : (mn == 0) = false := by rw [beq_eq_false_iff_ne]; exact h0
      go_enter Tryz.func50, Tryz.ntmps50
      go_wp2
      go_ret
      first | exact ⟨_, rfl, Below.refl _ _⟩ | exact ⟨.inl rfl, Below.refl _ _⟩ | exact ⟨.inr rfl, Below.refl _ _⟩

end Go.Proofs.YtbjohedenfindaaGreatDoor

namespace Go.Proofs.YtbjohedenfindaaGreatDoor
set_option linter.unusedVariables false

/-- a pattern as the document's answer writes it -/
structure Tm where
  kind : Int
  set : List Rg
  mn : Int
  mx : Int
  kids : List Tm

theorem Tm.ind {P : Tm → Prop} (h : ∀ t : Tm, (∀ k ∈ t.kids, P k) → P t) : ∀ t, P t := fun t => by
  match t with
  | ⟨k, s, a, b, ks⟩ => exact h _ fun k hk => Tm.ind h k

def setT (l : List Rg) : Tm := ⟨1, l, 0, 0, []⟩
def nothT : Tm := ⟨1, [], 0, 0, []⟩
def emptT : Tm := ⟨2, [], 0, 0, []⟩
def catT (a b : Tm) : Tm := ⟨2, [], 0, 0, [a, b]⟩
def sevT (k : Int) (l : List Tm) : Tm := ⟨k, [], 0, 0, l⟩
def notT (a : Tm) : Tm := ⟨5, [], 0, 0, [a]⟩
def repT (a : Tm) (lo hi : Int) : Tm := ⟨6, [], lo, hi, [a]⟩
def isNo (t : Tm) : Bool := decide (t.kind = 1) && t.set.isEmpty
def isEm (t : Tm) : Bool := decide (t.kind = 2) && t.kids.isEmpty

/-! ## Order: by the numbers that tell a tree -/
def encR (s : List Rg) : List Int := s.flatMap fun r => [r.1, r.2]
def enc (t : Tm) : List Int := match t with
  | ⟨k, s, a, b, ks⟩ => k :: a :: b :: (s.length : Int) :: (encR s ++ (ks.length : Int) :: (ks.map enc).flatten)
theorem enc_eq (t : Tm) : enc t = t.kind :: t.mn :: t.mx :: (t.set.length : Int) :: (encR t.set ++ (t.kids.length : Int) :: (t.kids.map enc).flatten) := by
  obtain ⟨k, s, a, b, ks⟩ := t; rw [enc]
theorem encR_inj : ∀ (s u : List Rg) (x y : List Int), s.length = u.length → encR s ++ x = encR u ++ y → s = u ∧ x = y
  | [], [], x, y, _, h => by simpa [encR] using h
  | [], _ :: _, x, y, hl, _ => by simp at hl
  | _ :: _, [], x, y, hl, _ => by simp at hl
  | r :: s, q :: u, x, y, hl, h => by
    have h' : r.1 :: r.2 :: (encR s ++ x) = q.1 :: q.2 :: (encR u ++ y) := by simpa [encR] using h
    injection h' with h1 h2
    injection h2 with h2 h3
    obtain ⟨h4, h5⟩ := encR_inj s u x y (by simpa using hl) h3
    exact ⟨by rw [h4, show r = q from Prod.ext h1 h2], h5⟩
theorem enc_pre : ∀ (t : Tm) (u : Tm) (x y : List Int), enc t ++ x = enc u ++ y → t = u ∧ x = y := by
  refine Tm.ind ?_
  intro t ih u x y h
  have kids : ∀ (l m : List Tm), (∀ k ∈ l, k ∈ t.kids) → l.length = m.length → ∀ x y, (l.map enc).flatten ++ x = (m.map enc).flatten ++ y → l = m ∧ x = y := by
    intro l
    induction l with
    | nil => intro m _ hl x y h; cases m with
      | nil => exact ⟨rfl, by simpa using h⟩
      | cons _ _ => simp at hl
    | cons a l ih2 => intro m hk hl x y h; cases m with
      | nil => simp at hl
      | cons b m =>
        simp only [List.map_cons, List.flatten_cons, List.append_assoc] at h
        obtain ⟨h1, h2⟩ := ih a (hk a (by simp)) b _ _ h
        obtain ⟨h3, h4⟩ := ih2 m (fun k hk' => hk k (by simp [hk'])) (by simpa using hl) x y h2
        exact ⟨by rw [h1, h3], h4⟩
  rw [enc_eq, enc_eq] at h
  simp only [List.cons_append] at h
  injection h with h1 h
  injection h with h2 h
  injection h with h3 h
  injection h with h4 h
  simp only [List.append_assoc, List.cons_append] at h
  obtain ⟨h5, h6⟩ := encR_inj _ _ _ _ (by omega) h
  injection h6 with h6 h7
  obtain ⟨h8, h9⟩ := kids t.kids u.kids (fun _ h => h) (by omega) x y h7
  obtain ⟨k, s, a, b, ks⟩ := t
  obtain ⟨k', s', a', b', ks'⟩ := u
  simp only at h1 h2 h3 h5 h8
  subst h1 h2 h3 h5 h8
  exact ⟨rfl, h9⟩
theorem enc_inj {t u : Tm} (h : enc t = enc u) : t = u := (enc_pre t u [] [] (by simpa using h)).1

def cmpL : List Int → List Int → Int
  | [], [] => 0
  | [], _ :: _ => -1
  | _ :: _, [] => 1
  | a :: x, b :: y => if a = b then cmpL x y else a - b
theorem cmpL_zero : ∀ (x y : List Int), cmpL x y = 0 ↔ x = y
  | [], [] => by simp [cmpL]
  | [], _ :: _ => by simp [cmpL]
  | _ :: _, [] => by simp [cmpL]
  | a :: x, b :: y => by
    simp only [cmpL]; split
    · subst_vars; rw [cmpL_zero x y]; simp
    · constructor
      · omega
      · intro h; injection h; omega
theorem cmpL_flip : ∀ (x y : List Int), 0 < cmpL x y ↔ cmpL y x < 0
  | [], [] => by simp [cmpL]
  | [], _ :: _ => by simp [cmpL]
  | _ :: _, [] => by simp [cmpL]
  | a :: x, b :: y => by
    simp only [cmpL]; split
    · subst_vars; simp only [if_true]; exact cmpL_flip x y
    · rw [if_neg (by omega)]; omega
theorem cmpL_trans : ∀ (x y z : List Int), cmpL x y < 0 → cmpL y z < 0 → cmpL x z < 0
  | [], [], _, h, _ => by simp [cmpL] at h
  | [], _ :: _, [], _, h => by simp [cmpL] at h
  | [], _ :: _, _ :: _, _, _ => by simp [cmpL]
  | _ :: _, [], _, h, _ => by simp [cmpL] at h
  | _ :: _, _ :: _, [], _, h => by simp [cmpL] at h
  | a :: x, b :: y, c :: z, h, g => by
    simp only [cmpL] at h g ⊢
    split at h <;> split at g
    · subst_vars; rw [if_pos rfl]; exact cmpL_trans x y z h g
    · subst_vars; rw [if_neg (by omega)]; exact g
    · subst_vars; rw [if_neg (by omega)]; exact h
    · rw [if_neg (by omega)]; omega

def ord (t u : Tm) : Int := cmpL (enc t) (enc u)
theorem ord_zero {t u : Tm} : ord t u = 0 ↔ t = u := by
  unfold ord; rw [cmpL_zero]; exact ⟨enc_inj, fun h => by rw [h]⟩
theorem ord_flip {t u : Tm} : 0 < ord t u ↔ ord u t < 0 := cmpL_flip _ _
theorem ord_trans {t u v : Tm} (h : ord t u < 0) (g : ord u v < 0) : ord t v < 0 := cmpL_trans _ _ _ h g

/-! ## Rows in order, each once -/
def Srt (l : List Tm) : Prop := l.Pairwise fun a b => ord a b < 0
def insS : List Tm → Tm → List Tm
  | [], t => [t]
  | x :: r, t => if ord x t = 0 then x :: r else if 0 < ord x t then t :: x :: r else x :: insS r t
theorem mem_insS : ∀ (l : List Tm) (t x : Tm), x ∈ insS l t ↔ x ∈ l ∨ x = t
  | [], t, x => by simp [insS]
  | y :: r, t, x => by
    simp only [insS]; split
    · rename_i h; have := ord_zero.1 h; subst this; simp only [List.mem_cons]; constructor
      · intro h; exact .inl h
      · rintro (h | h); exact h; exact .inl h
    · split
      · simp only [List.mem_cons]; constructor
        · rintro (h | h | h); exact .inr h; exact .inl (.inl h); exact .inl (.inr h)
        · rintro ((h | h) | h); exact .inr (.inl h); exact .inr (.inr h); exact .inl h
      · simp only [List.mem_cons, mem_insS r t x]; constructor
        · rintro (h | h | h); exact .inl (.inl h); exact .inl (.inr h); exact .inr h
        · rintro ((h | h) | h); exact .inl h; exact .inr (.inl h); exact .inr (.inr h)
theorem srt_insS : ∀ (l : List Tm) (t : Tm), Srt l → Srt (insS l t)
  | [], t, _ => by simp [insS, Srt]
  | y :: r, t, h => by
    have h1 := List.pairwise_cons.1 h
    simp only [insS]; split
    · exact h
    · split
      · rename_i h2 h3
        refine List.pairwise_cons.2 ⟨?_, h⟩
        intro z hz
        rcases List.mem_cons.1 hz with rfl | hz
        · exact ord_flip.1 h3
        · exact ord_trans (ord_flip.1 h3) (h1.1 z hz)
      · refine List.pairwise_cons.2 ⟨?_, srt_insS r t h1.2⟩
        intro z hz
        rcases (mem_insS r t z).1 hz with hz | rfl
        · exact h1.1 z hz
        · omega
theorem len_insS : ∀ (l : List Tm) (t : Tm), l.length ≤ (insS l t).length ∧ (insS l t).length ≤ l.length + 1
  | [], t => by simp [insS]
  | y :: r, t => by
    have := len_insS r t
    simp only [insS]; split
    · simp
    · split <;> simp <;> omega
theorem Srt.nodup {l : List Tm} (h : Srt l) : l.Nodup := by
  refine List.Pairwise.imp ?_ h
  intro a b hab hne
  subst hne
  have := ord_zero.2 (rfl : a = a)
  omega
theorem nodup_le : ∀ (l m : List Tm), l.Nodup → (∀ x ∈ l, x ∈ m) → l.length ≤ m.length
  | [], m, _, _ => by simp
  | a :: l, m, h, hs => by
    classical
    have h1 := List.nodup_cons.1 h
    have ha := hs a (by simp)
    have h2 := nodup_le l (m.erase a) h1.2 fun x hx => by
      refine (List.mem_erase_of_ne ?_).2 (hs x (by simp [hx]))
      rintro rfl; exact h1.1 hx
    rw [List.length_erase_of_mem ha] at h2
    have : 0 < m.length := List.length_pos_of_mem ha
    simp; omega
/-- two rows in order with the same members are one -/
theorem srt_unique {l m : List Tm} (hl : Srt l) (hm : Srt m) (h : ∀ x, x ∈ l ↔ x ∈ m) : l = m := by
  induction l generalizing m with
  | nil => cases m with
    | nil => rfl
    | cons b m => exact absurd ((h b).2 (by simp)) (by simp)
  | cons a l ih => cases m with
    | nil => exact absurd ((h a).1 (by simp)) (by simp)
    | cons b m =>
      have h1 := List.pairwise_cons.1 hl
      have h2 := List.pairwise_cons.1 hm
      have e : a = b := by
        rcases List.mem_cons.1 ((h a).1 (by simp)) with e | e
        · exact e
        · rcases List.mem_cons.1 ((h b).2 (by simp)) with e' | e'
          · exact e'.symm
          · have := h2.1 a e; have := h1.1 b e'; have := ord_flip.2 (h2.1 a e); omega
      subst e
      rw [ih h1.2 h2.2 fun x => ?_]
      have := h x
      simp only [List.mem_cons] at this
      constructor
      · intro hx
        rcases this.1 (.inr hx) with rfl | h3
        · have := h1.1 x hx; have := ord_zero.2 (rfl : x = x); omega
        · exact h3
      · intro hx
        rcases this.2 (.inr hx) with rfl | h3
        · have := h2.1 x hx; have := ord_zero.2 (rfl : x = x); omega
        · exact h3

end Go.Proofs.YtbjohedenfindaaGreatDoor

namespace Go.Proofs.YtbjohedenfindaaGreatDoor
set_option linter.unusedVariables false

theorem isNo_iff {t : Tm} : isNo t = true ↔ t.kind = 1 ∧ t.set = [] := by simp [isNo]
theorem isEm_iff {t : Tm} : isEm t = true ↔ t.kind = 2 ∧ t.kids = [] := by simp [isEm]

/-- how a node looks -/
def Shape (t : Tm) : Prop :=
  (∃ s, t = setT s) ∨ t = emptT ∨ (∃ x y, t = catT x y ∧ x.kind ≠ 2 ∧ isNo x = false ∧ isNo y = false ∧ isEm y = false) ∨
  (∃ k l, (k = 3 ∨ k = 4) ∧ t = sevT k l ∧ 2 ≤ l.length ∧ Srt l ∧ ∀ x ∈ l, x.kind ≠ k ∧ isNo x = false) ∨
  (∃ x, t = notT x) ∨ (∃ x lo hi, t = repT x lo hi ∧ 0 ≤ lo ∧ (hi = -1 ∨ (lo ≤ hi ∧ 1 ≤ hi)) ∧ isNo x = false ∧ isEm x = false)
def Nf (t : Tm) : Prop := match t with
  | ⟨k, s, a, b, ks⟩ => Shape ⟨k, s, a, b, ks⟩ ∧ ∀ x, (h : x ∈ ks) → Nf x
theorem nf_iff {t : Tm} : Nf t ↔ Shape t ∧ ∀ x ∈ t.kids, Nf x := by
  obtain ⟨k, s, a, b, ks⟩ := t; rw [Nf]
theorem Nf.kid {t x : Tm} (h : Nf t) (hx : x ∈ t.kids) : Nf x := (nf_iff.1 h).2 x hx

theorem nf_set (s : List Rg) : Nf (setT s) := nf_iff.2 ⟨.inl ⟨s, rfl⟩, by simp [setT]⟩
theorem nf_noth : Nf nothT := nf_set []
theorem nf_empt : Nf emptT := nf_iff.2 ⟨.inr (.inl rfl), by simp [emptT]⟩
theorem nf_cat {x y : Tm} (hx : Nf x) (hy : Nf y) (h1 : x.kind ≠ 2) (h2 : isNo x = false) (h3 : isNo y = false) (h4 : isEm y = false) : Nf (catT x y) :=
  nf_iff.2 ⟨.inr (.inr (.inl ⟨x, y, rfl, h1, h2, h3, h4⟩)), by simp [catT, hx, hy]⟩
theorem nf_sev {k : Int} {l : List Tm} (hk : k = 3 ∨ k = 4) (h2 : 2 ≤ l.length) (h3 : Srt l) (h4 : ∀ x ∈ l, x.kind ≠ k ∧ isNo x = false) (h5 : ∀ x ∈ l, Nf x) : Nf (sevT k l) :=
  nf_iff.2 ⟨.inr (.inr (.inr (.inl ⟨k, l, hk, rfl, h2, h3, h4⟩))), by simpa [sevT] using h5⟩
theorem nf_not {x : Tm} (hx : Nf x) : Nf (notT x) := nf_iff.2 ⟨.inr (.inr (.inr (.inr (.inl ⟨x, rfl⟩)))), by simpa [notT] using hx⟩
theorem nf_rep {x : Tm} {lo hi : Int} (hx : Nf x) (h0 : 0 ≤ lo) (h1 : hi = -1 ∨ (lo ≤ hi ∧ 1 ≤ hi)) (h2 : isNo x = false) (h3 : isEm x = false) : Nf (repT x lo hi) :=
  nf_iff.2 ⟨.inr (.inr (.inr (.inr (.inr ⟨x, lo, hi, rfl, h0, h1, h2, h3⟩)))), by simpa [repT] using hx⟩

/-- the cases of a normal form -/
theorem nf_cases {P : Tm → Prop} (t : Tm) (h : Nf t) (cset : ∀ s, P (setT s)) (cempt : P emptT)
    (ccat : ∀ x y, Nf x → Nf y → x.kind ≠ 2 → isNo x = false → isNo y = false → isEm y = false → P (catT x y))
    (csev : ∀ k l, (k = 3 ∨ k = 4) → 2 ≤ l.length → Srt l → (∀ x ∈ l, x.kind ≠ k ∧ isNo x = false) → (∀ x ∈ l, Nf x) → P (sevT k l))
    (cnot : ∀ x, Nf x → P (notT x))
    (crep : ∀ x lo hi, Nf x → 0 ≤ lo → (hi = -1 ∨ (lo ≤ hi ∧ 1 ≤ hi)) → isNo x = false → isEm x = false → P (repT x lo hi)) : P t := by
  obtain ⟨h1, h2⟩ := nf_iff.1 h
  rcases h1 with ⟨s, rfl⟩ | rfl | ⟨x, y, rfl, h3⟩ | ⟨k, l, hk, rfl, h3⟩ | ⟨x, rfl⟩ | ⟨x, lo, hi, rfl, h3⟩
  · exact cset s
  · exact cempt
  · exact ccat x y (h2 x (by simp [catT])) (h2 y (by simp [catT])) h3.1 h3.2.1 h3.2.2.1 h3.2.2.2
  · exact csev k l hk h3.1 h3.2.1 h3.2.2 fun x hx => h2 x (by simpa [sevT] using hx)
  · exact cnot x (h2 x (by simp [notT]))
  · exact crep x lo hi (h2 x (by simp [repT])) h3.1 h3.2.1 h3.2.2.1 h3.2.2.2
theorem nf_no {t : Tm} (h : Nf t) (hn : isNo t = true) : t = nothT := by
  obtain ⟨hk, hs⟩ := isNo_iff.1 hn
  revert hk hs
  refine nf_cases (P := fun t => t.kind = 1 → t.set = [] → t = nothT) t h ?_ ?_ ?_ ?_ ?_ ?_
  · intro s _ hs; simp only [setT] at hs; subst hs; rfl
  · simp [emptT]
  · simp [catT]
  · intro k l hk; rcases hk with rfl | rfl <;> simp [sevT]
  · simp [notT]
  · simp [repT]
theorem nf_em {t : Tm} (h : Nf t) (hn : isEm t = true) : t = emptT := by
  obtain ⟨hk, hs⟩ := isEm_iff.1 hn
  revert hk hs
  refine nf_cases (P := fun t => t.kind = 2 → t.kids = [] → t = emptT) t h ?_ ?_ ?_ ?_ ?_ ?_
  · simp [setT]
  · simp
  · simp [catT]
  · intro k l hk; rcases hk with rfl | rfl <;> simp [sevT]
  · simp [notT]
  · simp [repT]

/-! ## One behind the other -/
def catS (a b : Tm) : Tm := match a with
  | ⟨k, s, m, n, ks⟩ =>
    if isNo ⟨k, s, m, n, ks⟩ || isNo b then nothT else if isEm ⟨k, s, m, n, ks⟩ then b else if isEm b then ⟨k, s, m, n, ks⟩ else
    if k = 2 then (match ks with | [x, y] => catT x (catS y b) | _ => catT ⟨k, s, m, n, ks⟩ b) else catT ⟨k, s, m, n, ks⟩ b
theorem catS_eq (a b : Tm) : catS a b = if isNo a || isNo b then nothT else if isEm a then b else if isEm b then a else
    if a.kind = 2 then (match a.kids with | [x, y] => catT x (catS y b) | _ => catT a b) else catT a b := by
  obtain ⟨k, s, m, n, ks⟩ := a
  rw [catS.eq_def]
theorem catS_no_l {a b : Tm} (h : isNo a = true) : catS a b = nothT := by rw [catS_eq]; simp [h]
theorem catS_no_r {a b : Tm} (h : isNo b = true) : catS a b = nothT := by rw [catS_eq]; simp [h]
theorem isNo_empt : isNo emptT = false := by simp [isNo, emptT]
theorem isEm_empt : isEm emptT = true := by simp [isEm, emptT]
theorem isNo_noth : isNo nothT = true := by simp [isNo, nothT]
theorem isEm_noth : isEm nothT = false := by simp [isEm, nothT]
theorem isNo_cat (a b : Tm) : isNo (catT a b) = false := by simp [isNo, catT]
theorem isEm_cat (a b : Tm) : isEm (catT a b) = false := by simp [isEm, catT]
theorem catS_em_l {b : Tm} (hb : Nf b) : catS emptT b = b := by
  rw [catS_eq, isNo_empt, isEm_empt]
  cases h : isNo b
  · simp
  · simp [nf_no hb h]
theorem catS_em_r {a : Tm} (ha : Nf a) : catS a emptT = a := by
  rw [catS_eq, isNo_empt, isEm_empt]
  cases h : isNo a
  · cases h2 : isEm a
    · simp
    · simp [nf_em ha h2]
  · simp [nf_no ha h]
theorem catS_plain {a b : Tm} (h : a.kind ≠ 2) (h1 : isNo a = false) (h2 : isNo b = false) (h3 : isEm b = false) : catS a b = catT a b := by
  have he : isEm a = false := by simp [isEm, h]
  rw [catS_eq, h1, h2, he, h3]
  simp [h]
theorem catS_cat {x y b : Tm} (h2 : isNo b = false) (h3 : isEm b = false) : catS (catT x y) b = catT x (catS y b) := by
  rw [catS_eq, isNo_cat, h2, isEm_cat, h3]
  simp [catT]

theorem catS_nf : ∀ (a b : Tm), Nf a → Nf b → Nf (catS a b) ∧ (isNo a = false → isNo b = false → isNo (catS a b) = false) ∧ (isEm b = false → isNo b = false → isNo a = false → isEm (catS a b) = false) := by
  refine Tm.ind ?_
  intro a ih b ha hb
  cases h1 : isNo a
  · cases h2 : isNo b
    · cases h3 : isEm b
      · revert ih h1
        refine nf_cases (P := fun a => (∀ k ∈ a.kids, ∀ (b : Tm), Nf k → Nf b → Nf (catS k b) ∧ (isNo k = false → isNo b = false → isNo (catS k b) = false) ∧ (isEm b = false → isNo b = false → isNo k = false → isEm (catS k b) = false)) → isNo a = false →
          Nf (catS a b) ∧ (false = false → false = false → isNo (catS a b) = false) ∧ (false = false → false = false → false = false → isEm (catS a b) = false)) a ha ?_ ?_ ?_ ?_ ?_ ?_
        · intro s ih h1
          rw [catS_plain (by simp [setT]) h1 h2 h3]
          exact ⟨nf_cat (nf_set s) hb (by simp [setT]) h1 h2 h3, fun _ _ => isNo_cat _ _, fun _ _ _ => isEm_cat _ _⟩
        · intro ih h1
          rw [catS_em_l hb]
          exact ⟨hb, fun _ _ => h2, fun _ _ _ => h3⟩
        · intro x y hx hy k1 k2 k3 k4 ih h1
          rw [catS_cat h2 h3]
          obtain ⟨g1, g2, g3⟩ := ih y (by simp [catT]) b hy hb
          exact ⟨nf_cat hx g1 k1 k2 (g2 k3 h2) (g3 h3 h2 k3), fun _ _ => isNo_cat _ _, fun _ _ _ => isEm_cat _ _⟩
        · intro k l hk k2 k3 k4 k5 ih h1
          have hk2 : (sevT k l).kind ≠ 2 := by simp only [sevT]; omega
          rw [catS_plain hk2 h1 h2 h3]
          exact ⟨nf_cat (nf_sev hk k2 k3 k4 k5) hb hk2 h1 h2 h3, fun _ _ => isNo_cat _ _, fun _ _ _ => isEm_cat _ _⟩
        · intro x hx ih h1
          rw [catS_plain (by simp [notT]) h1 h2 h3]
          exact ⟨nf_cat (nf_not hx) hb (by simp [notT]) h1 h2 h3, fun _ _ => isNo_cat _ _, fun _ _ _ => isEm_cat _ _⟩
        · intro x lo hi hx k0 k1 k2 k3 ih h1
          rw [catS_plain (by simp [repT]) h1 h2 h3]
          exact ⟨nf_cat (nf_rep hx k0 k1 k2 k3) hb (by simp [repT]) h1 h2 h3, fun _ _ => isNo_cat _ _, fun _ _ _ => isEm_cat _ _⟩
      · have := nf_em hb h3; subst this
        rw [catS_em_r ha]
        exact ⟨ha, fun _ _ => h1, by simp⟩
    · rw [catS_no_r h2]; exact ⟨nf_noth, by simp, by simp⟩
  · rw [catS_no_l h1]; exact ⟨nf_noth, by simp, by simp⟩
theorem nf_catS {a b : Tm} (ha : Nf a) (hb : Nf b) : Nf (catS a b) := (catS_nf a b ha hb).1
theorem no_catS {a b : Tm} (ha : Nf a) (hb : Nf b) (h1 : isNo a = false) (h2 : isNo b = false) : isNo (catS a b) = false := (catS_nf a b ha hb).2.1 h1 h2
theorem em_catS {a b : Tm} (ha : Nf a) (hb : Nf b) (h1 : isNo a = false) (h2 : isNo b = false) (h3 : isEm b = false) : isEm (catS a b) = false := (catS_nf a b ha hb).2.2 h3 h2 h1

theorem catS_assoc : ∀ (a b c : Tm), Nf a → Nf b → Nf c → catS (catS a b) c = catS a (catS b c) := by
  refine Tm.ind ?_
  intro a ih b c ha hb hc
  cases h1 : isNo a
  · cases h2 : isNo b
    · cases h4 : isNo c
      · cases h3 : isEm b
        · cases h5 : isEm c
          · have hbc := nf_catS hb hc
            have n1 := no_catS hb hc h2 h4
            have n2 := em_catS hb hc h2 h4 h5
            have aux : a.kind ≠ 2 → catS (catS a b) c = catS a (catS b c) := by
              intro hk
              rw [catS_plain hk h1 h2 h3, catS_cat h4 h5, catS_plain hk h1 n1 n2]
            revert ih aux h1
            refine nf_cases (P := fun a => (∀ k ∈ a.kids, ∀ (b c : Tm), Nf k → Nf b → Nf c → catS (catS k b) c = catS k (catS b c)) → isNo a = false → (a.kind ≠ 2 → catS (catS a b) c = catS a (catS b c)) → catS (catS a b) c = catS a (catS b c)) a ha ?_ ?_ ?_ ?_ ?_ ?_
            · intro s _ _ aux; exact aux (by simp [setT])
            · intro _ _ _; rw [catS_em_l hb, catS_em_l hbc]
            · intro x y hx hy k1 k2 k3 k4 ih _ _
              rw [catS_cat h2 h3, catS_cat h4 h5, catS_cat n1 n2, ih y (by simp [catT]) b c hy hb hc]
            · intro k l hk _ _ _ _ _ _ aux; exact aux (by simp only [sevT]; omega)
            · intro x _ _ _ aux; exact aux (by simp [notT])
            · intro x lo hi _ _ _ _ _ _ _ aux; exact aux (by simp [repT])
          · have := nf_em hc h5; subst this
            rw [catS_em_r (nf_catS ha hb), catS_em_r hb]
        · have := nf_em hb h3; subst this
          rw [catS_em_r ha, catS_em_l hc]
      · rw [catS_no_r h4, catS_no_r h4, catS_no_r isNo_noth]
    · rw [catS_no_r h2, catS_no_l h2, catS_no_l isNo_noth, catS_no_r isNo_noth]
  · rw [catS_no_l h1, catS_no_l isNo_noth, catS_no_l h1]

end Go.Proofs.YtbjohedenfindaaGreatDoor
