/- Texts of the proof, put together: RTB, MLen, MJoin. -/
import Derived.Test.YtbjohedenfindaaGreatDoorPb26
import Derived.Laws.BitsLemmas
namespace Go.Proofs.YtbjohedenfindaaGreatDoor
open Go.RowKit
set_option linter.unusedVariables false
set_option maxRecDepth 100000

theorem below_alloc (w : World) (o : Obj) : Below w.heap.size w (w.alloc o) := Below.alloc (Below.refl _ _) (Nat.le_refl _) _
theorem Kd.one {ok : Nat → Prop} {w : World} {u : Value} {t : Tm} {ty : TypeId} (hok : ok w.heap.size) (h : TT ok w u t) : Kd ok (w.alloc (.cells #[u] ty)) (.slice (some ⟨w.heap.size, 0, none⟩) 1 1) [t] := by
  refine ⟨_, _, rfl, fun j hj => ?_⟩
  have hj0 : j = 0 := by simp at hj; omega
  subst hj0
  refine ⟨_, _, u, rfl, by simp, hok, ?_, by simpa using h.below (below_alloc w _)⟩
  simp only [World.cell?, heap_alloc_new w (.cells #[u] ty)]; rfl
theorem Kd.two {ok : Nat → Prop} {w : World} {u1 u2 : Value} {t1 t2 : Tm} {ty : TypeId} (hok : ok w.heap.size) (h1 : TT ok w u1 t1) (h2 : TT ok w u2 t2) : Kd ok (w.alloc (.cells #[u1, u2] ty)) (.slice (some ⟨w.heap.size, 0, none⟩) 2 2) [t1, t2] := by
  refine ⟨_, _, rfl, fun j hj => ?_⟩
  have hj0 : j = 0 ∨ j = 1 := by simp at hj; omega
  rcases hj0 with rfl | rfl
  · refine ⟨_, _, u1, rfl, by simp, hok, ?_, by simpa using h1.below (below_alloc w _)⟩
    simp only [World.cell?, heap_alloc_new w (.cells #[u1, u2] ty)]; rfl
  · refine ⟨_, _, u2, rfl, by simp, hok, ?_, by simpa using h2.below (below_alloc w _)⟩
    simp only [World.cell?, heap_alloc_new w (.cells #[u1, u2] ty)]; rfl
/-- a node over a row -/
theorem TT.new {ok : Nat → Prop} {w : World} {kv p : Value} {kind mn mx : Int} {l : List Tm} (hok : ok w.heap.size) (hk : Kd ok w kv l) (hp : p = .pointer (some ⟨w.heap.size, 0, none⟩)) :
    TT ok (w.alloc (.cells #[.int .i64 kind, .slice none 0 0, .int .i64 mn, .int .i64 mx, kv] 48)) p ⟨kind, [], mn, mx, l⟩ := by
  rw [hp]
  exact TT.mk (heap_alloc_new w _) hok (Or.inl ⟨rfl, none, 0, rfl⟩) (hk.below (below_alloc w _))
theorem TT.ptr {ok : Nat → Prop} {w : World} {v : Value} {t : Tm} (h : TT ok w v t) : ∃ b, v = .pointer (some ⟨b, 0, none⟩) := by
  obtain ⟨b, _, _, _, h⟩ := h.node; exact ⟨b, h.v_eq⟩
theorem orNew_l {ok : Nat → Prop} {w : World} : ∀ b, ok b → orNew ok w b := fun _ h => .inl h
theorem orNew_trans {ok : Nat → Prop} {w w1 : World} (h : w.heap.size ≤ w1.heap.size) : ∀ b, orNew (orNew ok w) w1 b → orNew ok w b := fun b hb => by
  rcases hb with hb | hb
  · exact hb
  · exact .inr (Nat.le_trans h hb)
/-- a tree over one that was there already -/
theorem Makes.step {ok : Nat → Prop} {w w1 w2 : World} {t : Tm} {e : Ending} (hb : Below w.heap.size w w1) (h : Makes (orNew ok w) w1 t e w2) : Makes ok w t e w2 := by
  obtain ⟨v, h1, h2, h3⟩ := h
  exact ⟨v, h1, h2.imp (orNew_trans hb.size), hb.trans (h3.mono hb.size)⟩

set_option maxHeartbeats 1000000 in
theorem rrepeated_any {ok : Nat → Prop} {w : World} {v : Value} {t : Tm} (h : TT ok w v t) (lo hi : Int) : Calls Tryz.prog 66 #[v, .int .i64 lo, .int .i64 hi] w fun e w' => Makes ok w (repS t lo hi) e w' := by
  have HT : Hid (TT ok w v t) := h
  have HN : Hid (Calls Tryz.prog 100 #[v] w fun e w' => e = .returned (.bool (isNo t)) ∧ w' = w) := risNothing_any h
  have HE : Hid (Calls Tryz.prog 101 #[v] w fun e w' => e = .returned (.bool (isEm t)) ∧ w' = w) := risEmpty_any h
  have H0 : Hid (Calls Tryz.prog 68 #[] w fun e w' => Makes ok w nothT e w') := rnothing_any ok w
  have H1 : Hid (Calls Tryz.prog 63 #[] w fun e w' => Makes ok w emptT e w') := rempty_any ok w
  have HR : Hid (repS t lo hi = if hi = 0 then emptT else if isNo t && decide (0 < lo) then nothT else if isNo t || isEm t then emptT else repT t lo hi) := rfl
  generalize repS t lo hi = res at *
  obtain ⟨b, rfl⟩ := h.ptr
  clear h
  by_cases hhi : hi = 0
  · subst hhi
    have e := HR.out; rw [if_pos rfl] at e; subst e
    go_enter Tryz.func66, Tryz.ntmps66
    go_wp2_with fail
    refine H1.out.mono ?_
    rintro e w1 ⟨v1, rfl, hv1, hb1⟩
    go_wp2
    go_ret
    exact ⟨_, rfl, hv1, hb1⟩
  · have hh : (hi == 0) = false := by rw [beq_eq_false_iff_ne]; exact hhi
    have e := HR.out; rw [if_neg hhi] at e
    have E : Hid (res = if isNo t && decide (0 < lo) then nothT else if isNo t || isEm t then emptT else repT t lo hi) := e
    clear HR e
    cases hno : isNo t
    · cases hem : isEm t
      · have e := E.out; rw [hno, hem] at e; simp at e; subst e
        clear H0 H1 E
        rw [hno] at HN; rw [hem] at HE
        go_enter Tryz.func66, Tryz.ntmps66
        go_wp2_with fail
        refine HN.out.mono ?_
        rintro e w1 ⟨rfl, rfl⟩
        go_wp2_with fail
        refine HE.out.mono ?_
        rintro e w1 ⟨rfl, rfl⟩
        go_wp2
        go_ret
        exact ⟨_, rfl, TT.new (.inr (by simp)) (Kd.one (.inr (Nat.le_refl _)) (HT.out.imp orNew_l)) (by simp), (below_alloc _ _).trans ((below_alloc _ _).mono (by simp))⟩
      · have e := E.out; rw [hno, hem] at e; simp at e; subst e
        clear H0 E
        rw [hno] at HN; rw [hem] at HE
        go_enter Tryz.func66, Tryz.ntmps66
        go_wp2_with fail
        refine HN.out.mono ?_
        rintro e w1 ⟨rfl, rfl⟩
        go_wp2_with fail
        refine HE.out.mono ?_
        rintro e w1 ⟨rfl, rfl⟩
        go_wp2_with fail
        refine H1.out.mono ?_
        rintro e w1 ⟨v1, rfl, hv1, hb1⟩
        go_wp2
        go_ret
        exact ⟨_, rfl, hv1, hb1⟩
    · rw [hno] at HN
      by_cases hlo : 0 < lo
      · have e := E.out; rw [hno] at e; simp [hlo] at e; subst e
        clear H1 E HE
        have hlo' : decide (lo > 0) = true := by simpa using hlo
        go_enter Tryz.func66, Tryz.ntmps66
        go_wp2_with fail
        refine HN.out.mono ?_
        rintro e w1 ⟨rfl, rfl⟩
        go_wp2_with fail
        refine H0.out.mono ?_
        rintro e w1 ⟨v1, rfl, hv1, hb1⟩
        go_wp2
        go_ret
        exact ⟨_, rfl, hv1, hb1⟩
      · have e := E.out; rw [hno] at e; simp [hlo] at e; subst e
        clear H0 E
        have hlo' : decide (lo > 0) = false := by simpa using hlo
        go_enter Tryz.func66, Tryz.ntmps66
        go_wp2_with fail
        refine HN.out.mono ?_
        rintro e w1 ⟨rfl, rfl⟩
        go_wp2_with fail
        refine HE.out.mono ?_
        rintro e w1 ⟨rfl, rfl⟩
        go_wp2_with fail
        refine H1.out.mono ?_
        rintro e w1 ⟨v1, rfl, hv1, hb1⟩
        go_wp2
        go_ret
        exact ⟨_, rfl, hv1, hb1⟩

def CatC (a : Tm) : Prop := ∀ (ok : Nat → Prop) (w : World) (va vb : Value) (b : Tm), TT ok w va a → TT ok w vb b → Nf a → Nf b → Calls Tryz.prog 64 #[va, vb] w fun e w' => Makes ok w (catS a b) e w'
set_option maxHeartbeats 2000000 in
theorem rcat_any : ∀ (a : Tm), CatC a := by
  refine Tm.ind ?_
  intro a ih ok w va vb b ha hb na nb
  have HA : Hid (TT ok w va a) := ha
  have HB : Hid (TT ok w vb b) := hb
  have HNA : Hid (Calls Tryz.prog 100 #[va] w fun e w' => e = .returned (.bool (isNo a)) ∧ w' = w) := risNothing_any ha
  have HNB : Hid (Calls Tryz.prog 100 #[vb] w fun e w' => e = .returned (.bool (isNo b)) ∧ w' = w) := risNothing_any hb
  have HEA : Hid (Calls Tryz.prog 101 #[va] w fun e w' => e = .returned (.bool (isEm a)) ∧ w' = w) := risEmpty_any ha
  have HEB : Hid (Calls Tryz.prog 101 #[vb] w fun e w' => e = .returned (.bool (isEm b)) ∧ w' = w) := risEmpty_any hb
  have H0 : Hid (Calls Tryz.prog 68 #[] w fun e w' => Makes ok w nothT e w') := rnothing_any ok w
  obtain ⟨ba, sa, ka, kc, hn⟩ := ha.node
  have HD : Hid (Node ok w va a ba sa ka kc) := hn
  have c0 := hn.c0
  obtain ⟨bb, rfl⟩ := hb.ptr
  have e := hn.v_eq; subst e
  clear hn ha hb
  cases h1 : isNo a
  · cases h2 : isNo b
    · cases h3 : isEm a
      · cases h4 : isEm b
        · rw [h1] at HNA; rw [h2] at HNB; rw [h3] at HEA; rw [h4] at HEB
          clear H0
          by_cases hk : a.kind = 2
          · have hform : ∃ x y, a = catT x y ∧ Nf x ∧ Nf y := by
              revert hk h3
              refine nf_cases (P := fun a => isEm a = false → a.kind = 2 → ∃ x y, a = catT x y ∧ Nf x ∧ Nf y) a na ?_ ?_ ?_ ?_ ?_ ?_
              · intro s _ h; simp [setT] at h
              · intro h; simp [isEm, emptT] at h
              · intro x y hx hy _ _ _ _ _ _; exact ⟨x, y, rfl, hx, hy⟩
              · intro k l hk _ _ _ _ _ h; simp only [sevT] at h; omega
              · intro x _ _ h; simp [notT] at h
              · intro x _ _ _ _ _ _ _ _ h; simp [repT] at h
            obtain ⟨x, y, rfl, nx, ny⟩ := hform
            rw [catS_cat h2 h4]
            obtain ⟨g, off, u0, e0, hg, _, hu0, t0⟩ := HD.out.kid 0 (by simp [catT])
            obtain ⟨g1, off1, u1, e1, hg1, _, hu1, t1⟩ := HD.out.kid 1 (by simp [catT])
            rw [e0] at e1; injection e1 with e1; injection e1 with e1 e2 _; subst e1 e2
            subst e0
            have c4 := HD.out.c4
            have t0' : TT ok w u0 x := by simpa [catT] using t0
            have t1' : TT ok w u1 y := by simpa [catT] using t1
            have HX : Hid (TT ok w u0 x) := t0'
            have HC : Hid (Calls Tryz.prog 64 #[u1, .pointer (some ⟨bb, 0, none⟩)] w fun e w' => Makes ok w (catS y b) e w') := ih y (by simp [catT]) ok w u1 _ b t1' HB.out ny nb
            have hl : (catT x y).kids.length = 2 := by simp [catT]
            rw [hl] at c4
            have hk2 : (catT x y).kind = 2 := rfl
            rw [hk2] at c0
            have hcell : Hid (∀ w', Below w.heap.size w w' → w'.cell? ⟨ba, 4, none⟩ = some (.slice (some ⟨g, off, none⟩) 2 kc) ∧ w'.cell? ⟨g, off, none⟩ = some u0) := fun w' hb => ⟨(hb.cell (p := ⟨ba, 4, none⟩) HD.out.lt).trans c4, (hb.cell (p := ⟨g, off, none⟩) hg).trans hu0⟩
            obtain ⟨b0, rfl⟩ := t0'.ptr
            obtain ⟨b1, rfl⟩ := t1'.ptr
            clear t0 t1 t0' t1' hl hk2 hk ih na
            go_enter Tryz.func64, Tryz.ntmps64
            go_wp2_with fail
            refine HNA.out.mono ?_
            rintro e w1 ⟨rfl, rfl⟩
            go_wp2_with fail
            refine HNB.out.mono ?_
            rintro e w1 ⟨rfl, rfl⟩
            go_wp2_with fail
            refine HEA.out.mono ?_
            rintro e w1 ⟨rfl, rfl⟩
            go_wp2_with fail
            refine HEB.out.mono ?_
            rintro e w1 ⟨rfl, rfl⟩
            go_wp2_with fail
            refine HC.out.mono ?_
            rintro e w2 ⟨v2, rfl, hv2, hb2⟩
            obtain ⟨d1, d2⟩ := hcell.out w2 hb2
            obtain ⟨b2, rfl⟩ := hv2.ptr
            have HV : Hid (TT (orNew ok w1) w2 (.pointer (some ⟨b2, 0, none⟩)) (catS y b)) := hv2
            clear hv2 c0 c4 hu0 hu1
            go_wp2
            go_ret
            refine ⟨_, rfl, TT.new (.inr (by simp; have := hb2.size; omega)) (Kd.two (.inr hb2.size) ((HX.out.below hb2).imp orNew_l) HV.out) (by simp), hb2.trans (((below_alloc _ _).trans ((below_alloc _ _).mono (by simp))).mono hb2.size)⟩
          · have hk' : (a.kind == 2) = false := by rw [beq_eq_false_iff_ne]; exact hk
            rw [catS_plain hk h1 h2 h4]
            generalize a.kind = k at *
            clear ih
            go_enter Tryz.func64, Tryz.ntmps64
            go_wp2_with fail
            refine HNA.out.mono ?_
            rintro e w1 ⟨rfl, rfl⟩
            go_wp2_with fail
            refine HNB.out.mono ?_
            rintro e w1 ⟨rfl, rfl⟩
            go_wp2_with fail
            refine HEA.out.mono ?_
            rintro e w1 ⟨rfl, rfl⟩
            go_wp2_with fail
            refine HEB.out.mono ?_
            rintro e w1 ⟨rfl, rfl⟩
            go_wp2
            go_ret
            exact ⟨_, rfl, TT.new (.inr (by simp)) (Kd.two (.inr (Nat.le_refl _)) (HA.out.imp orNew_l) (HB.out.imp orNew_l)) (by simp), (below_alloc _ _).trans ((below_alloc _ _).mono (by simp))⟩
        · have := nf_em nb h4; subst this
          rw [catS_em_r na]
          rw [h1] at HNA; rw [h2] at HNB; rw [h3] at HEA; rw [h4] at HEB
          clear H0 ih
          go_enter Tryz.func64, Tryz.ntmps64
          go_wp2_with fail
          refine HNA.out.mono ?_
          rintro e w1 ⟨rfl, rfl⟩
          go_wp2_with fail
          refine HNB.out.mono ?_
          rintro e w1 ⟨rfl, rfl⟩
          go_wp2_with fail
          refine HEA.out.mono ?_
          rintro e w1 ⟨rfl, rfl⟩
          go_wp2_with fail
          refine HEB.out.mono ?_
          rintro e w1 ⟨rfl, rfl⟩
          go_wp2
          go_ret
          exact ⟨_, rfl, HA.out.imp orNew_l, Below.refl _ _⟩
      · have := nf_em na h3; subst this
        rw [catS_em_l nb]
        rw [h1] at HNA; rw [h2] at HNB; rw [h3] at HEA
        clear H0 ih
        go_enter Tryz.func64, Tryz.ntmps64
        go_wp2_with fail
        refine HNA.out.mono ?_
        rintro e w1 ⟨rfl, rfl⟩
        go_wp2_with fail
        refine HNB.out.mono ?_
        rintro e w1 ⟨rfl, rfl⟩
        go_wp2_with fail
        refine HEA.out.mono ?_
        rintro e w1 ⟨rfl, rfl⟩
        go_wp2
        go_ret
        exact ⟨_, rfl, HB.out.imp orNew_l, Below.refl _ _⟩
    · rw [catS_no_r h2]
      rw [h1] at HNA; rw [h2] at HNB
      clear ih
      go_enter Tryz.func64, Tryz.ntmps64
      go_wp2_with fail
      refine HNA.out.mono ?_
      rintro e w1 ⟨rfl, rfl⟩
      go_wp2_with fail
      refine HNB.out.mono ?_
      rintro e w1 ⟨rfl, rfl⟩
      go_wp2_with fail
      refine H0.out.mono ?_
      rintro e w1 ⟨v1, rfl, hv1, hb1⟩
      go_wp2
      go_ret
      exact ⟨_, rfl, hv1, hb1⟩
  · rw [catS_no_l h1]
    rw [h1] at HNA
    clear ih
    generalize isNo b = z at *
    go_enter Tryz.func64, Tryz.ntmps64
    go_wp2_with fail
    refine HNA.out.mono ?_
    rintro e w1 ⟨rfl, rfl⟩
    go_wp2_with fail
    refine HNB.out.mono ?_
    rintro e w1 ⟨rfl, rfl⟩
    go_wp2_with fail
    refine H0.out.mono ?_
    rintro e w1 ⟨v1, rfl, hv1, hb1⟩
    go_wp2
    go_ret
    exact ⟨_, rfl, hv1, hb1⟩

end Go.Proofs.YtbjohedenfindaaGreatDoor

namespace Go.Proofs.YtbjohedenfindaaGreatDoor
open Go.RowKit
set_option linter.unusedVariables false
set_option maxRecDepth 100000

theorem wrapU64 (n : Int) (h0 : 0 ≤ n) (h1 : n < 2 ^ 64) : IntKind.u64.wrap n = n := by rw [IntKind.wrap_u64]; omega
theorem andU64 (x y : Nat) (hx : x < 2 ^ 64) (hy : y < 2 ^ 64) : bits .and .u64 (x : Int) (y : Int) = ((x &&& y : Nat) : Int) := (bits_nat .u64 64 (by decide) wrapU64 x y hx hy).1
theorem orU64 (x y : Nat) (hx : x < 2 ^ 64) (hy : y < 2 ^ 64) : bits .or .u64 (x : Int) (y : Int) = ((x ||| y : Nat) : Int) := (bits_nat .u64 64 (by decide) wrapU64 x y hx hy).2
theorem xorU64 (x y : Nat) (hx : x < 2 ^ 64) (hy : y < 2 ^ 64) : bits .xor .u64 (x : Int) (y : Int) = ((x ^^^ y : Nat) : Int) := by
  have h1 : x ^^^ y < 2 ^ 64 := Nat.xor_lt_two_pow hx hy
  simp only [bits]
  simp
  rw [show IntKind.u64.bits = 64 from rfl, Nat.mod_eq_of_lt hx, Nat.mod_eq_of_lt hy, IntKind.wrap_u64]
  omega

def slenOf (v : Value) : Nat := match v with
  | .slice _ n _ => n
  | _ => 0
/-- a set of lengths in memory -/
def LenV (ok : Nat → Prop) (w : World) (v : Value) (N : Nat) : Prop :=
  (N = 0 ∧ ∃ a c, v = .slice a 0 c) ∨ ∃ g off c, v = .slice (some ⟨g, off, none⟩) 1 c ∧ g < w.heap.size ∧ ok g ∧ w.cell? ⟨g, off, none⟩ = some (.int .u64 (N : Int))
/-- .. of the call's own -/
def OwnL (w : World) (B : Nat) (v : Value) (N : Nat) : Prop := ∃ xs : List Nat, ((xs = [] ∧ N = 0) ∨ xs = [N]) ∧ w.ownsRow B 119 1 v xs.length (xs.map fun (x : Nat) => Value.int .u64 (x : Int))
theorem OwnL.slice {w : World} {B : Nat} {v : Value} {N : Nat} (h : OwnL w B v N) : (N = 0 ∧ v = .slice none 0 0) ∨ (∃ g c, v = .slice (some ⟨g, 0, none⟩) 0 c ∧ N = 0) ∨ ∃ g c, v = .slice (some ⟨g, 0, none⟩) 1 c ∧ 1 ≤ c := by
  obtain ⟨xs, hx, hown⟩ := h
  rcases hown.2 with ⟨rfl, h0⟩ | ⟨g, cap, cur, rfl, _, _, hc, _⟩
  · rcases hx with ⟨rfl, h⟩ | rfl
    · exact .inl ⟨h, rfl⟩
    · simp at h0
  · rcases hx with ⟨rfl, h⟩ | rfl
    · exact .inr (.inl ⟨g, cap, rfl, h⟩)
    · exact .inr (.inr ⟨g, cap, rfl, hc⟩)
theorem OwnL.len {w : World} {B : Nat} {v : Value} {N : Nat} (h : OwnL w B v N) : LenV (fun b => B ≤ b) w v N := by
  obtain ⟨xs, hx, hown⟩ := h
  have hlt := hown.lt
  rcases hown.2 with ⟨rfl, h0⟩ | ⟨g, cap, cur, rfl, hB, _, hc, _⟩
  · rcases hx with ⟨rfl, h⟩ | rfl
    · exact .inl ⟨h, _, _, rfl⟩
    · simp at h0
  · rcases hx with ⟨rfl, h⟩ | rfl
    · exact .inl ⟨h, _, _, rfl⟩
    · refine .inr ⟨g, 0, cap, rfl, (hlt g rfl).2, hB, ?_⟩
      have := hown.cellAt 0 (by simp)
      rw [this]; rfl
theorem LenV.imp {ok ok' : Nat → Prop} {w : World} {v : Value} {N : Nat} (h : LenV ok w v N) (hk : ∀ b, ok b → ok' b) : LenV ok' w v N := by
  rcases h with h | ⟨g, off, c, h1, h2, h3, h4⟩
  · exact .inl h
  · exact .inr ⟨g, off, c, h1, h2, hk g h3, h4⟩
theorem LenV.moved {ok : Nat → Prop} {w w' : World} {v : Value} {N : Nat} (h : LenV ok w v N) (hs : w.heap.size ≤ w'.heap.size) (hk : ∀ b, b < w.heap.size → ok b → w'.heap[b]? = w.heap[b]?) : LenV ok w' v N := by
  rcases h with h | ⟨g, off, c, h1, h2, h3, h4⟩
  · exact .inl h
  · exact .inr ⟨g, off, c, h1, Nat.lt_of_lt_of_le h2 hs, h3, (World.cell?_of_block (a := ⟨g, off, none⟩) (hk g h2 h3)).trans h4⟩

theorem bit_of (N n : Nat) (hN : N < 2 ^ 64) : (bits .and .u64 ((N : Int) / 2 ^ n) 1 == 1) = N.testBit n := by
  have e : ((N : Int) / 2 ^ n) = ((N / 2 ^ n : Nat) : Int) := by simp
  have h1 : N / 2 ^ n < 2 ^ 64 := Nat.lt_of_le_of_lt (Nat.div_le_self _ _) hN
  have := andU64 (N / 2 ^ n) 1 h1 (by decide)
  rw [e, show (1 : Int) = ((1 : Nat) : Int) from rfl, this]
  rw [Nat.testBit_eq_decide_div_mod_eq, Nat.and_one_is_mod]
  rw [Bool.eq_iff_iff]
  simp only [beq_iff_eq, decide_eq_true_eq]
  omega
set_option maxHeartbeats 1000000 in
theorem lhas_any {ok : Nat → Prop} {w : World} {v : Value} {N n : Nat} (h : LenV ok w v N) (hN : N < 2 ^ 64) (hn : n < 64) : Calls Tryz.prog 35 #[v, .int .i64 n] w fun e w' => e = .returned (.bool (N.testBit n)) ∧ w' = w := by
  have d0 : ((n : Int)).tdiv 64 = 0 := by rw [Int.tdiv_eq_ediv_of_nonneg (by omega)]; omega
  have d1 : ((n : Int)).tmod 64 = n := by rw [Int.tmod_eq_emod_of_nonneg (by omega)]; omega
  rcases h with ⟨rfl, a, c, rfl⟩ | ⟨g, off, c, rfl, hg, _, hc⟩
  · go_enter Tryz.func35, Tryz.ntmps35
    go_wp2
    go_ret
    simp
  · have hb := bit_of N n hN
    generalize N.testBit n = z at *
    go_enter Tryz.func35, Tryz.ntmps35
    go_wp2
    go_ret
    exact ⟨by rw [← hb]; rfl, rfl⟩
set_option maxHeartbeats 1000000 in
theorem lend_any (a : Option Addr) (k c : Nat) (w : World) (hk : k ≤ 1) : Calls Tryz.prog 120 #[.slice a k c] w fun e w' => e = .returned (.int .i64 ((k : Int) * 64)) ∧ w' = w := by
  go_enter Tryz.func120, Tryz.ntmps120
  go_wp2
  go_ret
  exact ⟨rfl, rfl⟩

/-- what a function that makes a set of lengths leaves: all old blocks but the own row's -/
def Lens (w : World) (B : Nat) (own : Option Nat) (N : Nat) (e : Ending) (w' : World) : Prop := ∃ v, e = .returned v ∧ OwnL w' B v N ∧ w.grownBy w' own ∧ ∀ k, v.ownBlock = some k → own = some k ∨ w.heap.size ≤ k

theorem Tryz.infoU64 : (Tryz.prog.info? 119).map (fun i => (i.zero, i.size, i.bytes)) = some (some (.int .u64 0), 1, 8) := by kernel_rfl
set_option maxHeartbeats 1000000 in
theorem lmix_zero {w : World} {B : Nat} {v : Value} {N : Nat} (i : Int) (h : OwnL w B v N) : Calls Tryz.prog 121 #[v, .int .i64 i, .int .u64 0] w fun e w' => Lens w B v.ownBlock N e w' := by
  have HO : Hid (OwnL w B v N) := h
  have HG : Hid (w.grownBy w v.ownBlock) := World.grownBy.refl _ _
  clear h
  go_enter Tryz.func121, Tryz.ntmps121
  go_wp2
  go_ret
  exact ⟨_, rfl, HO.out, HG.out, fun k hk => .inl hk⟩
set_option maxHeartbeats 2000000 in
theorem lmix_row {w : World} {B g c : Nat} {N W : Nat} (hN : N < 2 ^ 64) (hW : W < 2 ^ 64) (hW0 : W ≠ 0) (hown : w.ownsRow B 119 1 (.slice (some ⟨g, 0, none⟩) 1 c) 1 [.int .u64 (N : Int)]) :
    Calls Tryz.prog 121 #[.slice (some ⟨g, 0, none⟩) 1 c, .int .i64 0, .int .u64 (W : Int)] w fun e w' => Lens w B (some g) (N ||| W) e w' := by
  have hq : ((W : Int) == 0) = false := by rw [beq_eq_false_iff_ne]; omega
  have hor := orU64 N W hN hW
  have hc0 : w.cell? ⟨g, 0, none⟩ = some (.int .u64 (N : Int)) := by
    have := hown.cellAt 0 (by simp); rw [this]; rfl
  have hf0 : w.frozen? ⟨g, 0, none⟩ = false := hown.frozenAt 0
  have HSt : Hid ((w.setCell ⟨g, 0, none⟩ (.int .u64 ((N ||| W : Nat) : Int))).ownsRow B 119 1 (.slice (some ⟨g, 0, none⟩) 1 c) 1 [.int .u64 ((N ||| W : Nat) : Int)] ∧ w.grownBy (w.setCell ⟨g, 0, none⟩ (.int .u64 ((N ||| W : Nat) : Int))) (some g)) := by
    have h := hown.stored 0 (.int .u64 ((N ||| W : Nat) : Int))
    exact ⟨by simpa using h.1, h.2⟩
  clear hown
  go_enter Tryz.func121, Tryz.ntmps121
  go_wp2
  go_loopw [0] (fun lv wr => lv = .slice (some ⟨g, 0, none⟩) 1 c ∧ wr = w) (fun _ _ => 0)
  case atStart => exact ⟨rfl, rfl⟩
  case round =>
    obtain ⟨rfl, rfl⟩ := hrel
    go_wp2
    go_ret
    exact ⟨_, rfl, ⟨[N ||| W], .inr rfl, HSt.out.1⟩, HSt.out.2, fun k hk => .inl hk⟩
set_option maxHeartbeats 2000000 in
theorem lmix_new {w : World} {B : Nat} {v : Value} {W : Nat} (hB : B ≤ w.heap.size) (hW : W < 2 ^ 64) (hW0 : W ≠ 0) (hv : ∃ a c, v = .slice a 0 c) (hown : w.ownsRow B 119 1 v 0 []) :
    Calls Tryz.prog 121 #[v, .int .i64 0, .int .u64 (W : Int)] w fun e w' => Lens w B v.ownBlock W e w' := by
  obtain ⟨i0, hi0, hz0, hz1, hz2⟩ := info_parts Tryz.infoU64
  have hq : ((W : Int) == 0) = false := by rw [beq_eq_false_iff_ne]; omega
  have hor := orU64 0 W (by decide) hW
  simp only [Nat.zero_or] at hor
  have hor' : bits .or .u64 0 (W : Int) = (W : Int) := hor
  have hlt := hown.lt
  obtain ⟨a, c, rfl⟩ := hv
  have HG : Hid (∀ w4 u, (w.alloc (.cells #[.int .u64 0] 119)).grownBy w4 (Value.slice a 0 c).ownBlock → w4.ownsRow B 119 1 u 1 [.int .u64 0] → (u.ownBlock = (Value.slice a 0 c).ownBlock ∨ u.ownBlock = some (w.alloc (.cells #[.int .u64 0] 119)).heap.size) → ∃ g cap, u = .slice (some ⟨g, 0, none⟩) 1 cap ∧ w4.cell? ⟨g, 0, none⟩ = some (.int .u64 0) ∧ w4.frozen? ⟨g, 0, none⟩ = false ∧
      (w4.setCell ⟨g, 0, none⟩ (.int .u64 (W : Int))).ownsRow B 119 1 (.slice (some ⟨g, 0, none⟩) 1 cap) 1 [.int .u64 (W : Int)] ∧ w.grownBy (w4.setCell ⟨g, 0, none⟩ (.int .u64 (W : Int))) (Value.slice a 0 c).ownBlock ∧ ((Value.slice a 0 c).ownBlock = some g ∨ w.heap.size ≤ g)) := fun w4 u hg hO hat => by
    rcases hO.2 with ⟨_, h0⟩ | ⟨g, cap, cur, rfl, _⟩
    · simp at h0
    · have h := hO.stored 0 (.int .u64 (W : Int))
      have hc : w4.cell? ⟨g, 0, none⟩ = some (.int .u64 0) := by have := hO.cellAt 0 (by simp); rw [this]; rfl
      refine ⟨g, cap, rfl, hc, hO.frozenAt 0, by simpa using h.1, ?_, by
        rcases hat with h' | h'
        · exact .inl h'.symm
        · simp [Value.ownBlock] at h'; right; omega⟩
      have hg1 : w.grownBy w4 (Value.slice a 0 c).ownBlock := (World.grownBy_alloc w _ _).trans hg
      refine ⟨h.2.os.trans hg1.os, h.2.tape.trans hg1.tape, h.2.output.trans hg1.output, Nat.le_trans hg1.size h.2.size, fun k hk hne => ?_⟩
      rw [h.2.block k (Nat.lt_of_lt_of_le hk hg1.size) ?_]
      · exact hg1.block k hk hne
      · intro e
        have e' : k = g := by simpa using e
        subst e'
        rcases hat with h' | h'
        · exact hne h'
        · simp [Value.ownBlock] at h'; omega
  go_enter Tryz.func121, Tryz.ntmps121
  go_wp2
  go_loopw [0] (fun lv wr => (lv = .slice a 0 c ∧ wr = w) ∨ ∃ g cap, lv = .slice (some ⟨g, 0, none⟩) 1 cap ∧ wr.cell? ⟨g, 0, none⟩ = some (.int .u64 0) ∧ wr.frozen? ⟨g, 0, none⟩ = false ∧ (wr.setCell ⟨g, 0, none⟩ (.int .u64 (W : Int))).ownsRow B 119 1 (.slice (some ⟨g, 0, none⟩) 1 cap) 1 [.int .u64 (W : Int)] ∧ w.grownBy (wr.setCell ⟨g, 0, none⟩ (.int .u64 (W : Int))) (Value.slice a 0 c).ownBlock ∧ ((Value.slice a 0 c).ownBlock = some g ∨ w.heap.size ≤ g)) (fun lv _ => 1 - slenOf lv)
  case atStart => exact .inl ⟨rfl, rfl⟩
  case round =>
    rcases hrel with ⟨rfl, rfl⟩ | ⟨g, cap, rfl, hc, hf, hO, hg, hat⟩
    · go_wp2_with (at_builtin; refine wpList_append_own_at _ rfl _ _ 80 rfl B 119 i0 (.int .u64 0) 1 8 Tryz.underlying80 hi0 hz0 hz1 hz2 rfl (by decide) _ _ _ rfl (World.ownsRow.alloc hown _) ⟨wr.heap.size, 0, none⟩ 1 1 [.int .u64 0] rfl rfl ?c1 ?c2 ?c3 ?c4 ?c5 ?_)
      case c1 => exact cell_one_new wr _ _
      case c2 => intro u hu; simp at hu; subst hu; rfl
      case c3 => unfold maxLen; omega
      case c4 => omega
      case c5 => simp; omega
      intro v' w4 hown' hgrow _ hat
      obtain ⟨g, cap, rfl, h1, h2, h3, h4, h5⟩ := HG.out w4 v' hgrow hown' (by simpa using hat)
      have H3 : Hid ((w4.setCell ⟨g, 0, none⟩ (.int .u64 (W : Int))).ownsRow B 119 1 (.slice (some ⟨g, 0, none⟩) 1 cap) 1 [.int .u64 (W : Int)]) := h3
      clear hgrow hown' hat h3 HG
      go_wp2
      go_roundw
      case rel => exact .inr ⟨g, cap, rfl, h1, h2, H3.out, h4, h5⟩
      case measure => simp [slenOf]
    · have HO : Hid ((wr.setCell ⟨g, 0, none⟩ (.int .u64 (W : Int))).ownsRow B 119 1 (.slice (some ⟨g, 0, none⟩) 1 cap) 1 [.int .u64 (W : Int)]) := hO
      have HGG : Hid (w.grownBy (wr.setCell ⟨g, 0, none⟩ (.int .u64 (W : Int))) (Value.slice a 0 c).ownBlock) := hg
      clear hO hg HG hown
      go_wp2
      go_ret
      exact ⟨_, rfl, ⟨[W], .inr rfl, HO.out⟩, HGG.out, fun k hk => by
        have e : g = k := by simpa [Value.ownBlock] using hk
        subst e; exact hat⟩
theorem lmix_any {w : World} {B : Nat} {v : Value} {N W : Nat} (hB : B ≤ w.heap.size) (hN : N < 2 ^ 64) (hW : W < 2 ^ 64) (h : OwnL w B v N) : Calls Tryz.prog 121 #[v, .int .i64 0, .int .u64 (W : Int)] w fun e w' => Lens w B v.ownBlock (N ||| W) e w' := by
  by_cases hW0 : W = 0
  · subst hW0; rw [Nat.or_zero]; exact lmix_zero 0 h
  · obtain ⟨xs, hx, hown⟩ := h
    rcases hx with ⟨rfl, rfl⟩ | rfl
    · rw [Nat.zero_or]
      refine lmix_new hB hW hW0 ?_ hown
      rcases hown.2 with ⟨rfl, h0⟩ | ⟨g, cap, cur, rfl, _⟩
      · exact ⟨_, _, rfl⟩
      · exact ⟨_, _, rfl⟩
    · rcases hown.2 with ⟨_, h0⟩ | ⟨g, cap, cur, rfl, _⟩
      · simp at h0
      · exact lmix_row hN hW hW0 hown
end Go.Proofs.YtbjohedenfindaaGreatDoor

namespace Go.Proofs.YtbjohedenfindaaGreatDoor
open Go.RowKit
set_option linter.unusedVariables false
set_option maxRecDepth 100000

theorem Lens.step {w w1 w2 : World} {B N : Nat} {own : Option Nat} {v1 : Value} {e : Ending} (h1 : w.grownBy w1 own) (hat : ∀ k, v1.ownBlock = some k → own = some k ∨ w.heap.size ≤ k) (h : Lens w1 B v1.ownBlock N e w2) : Lens w B own N e w2 := by
  obtain ⟨v, h2, h3, h4, h5⟩ := h
  refine ⟨v, h2, h3, ⟨h4.os.trans h1.os, h4.tape.trans h1.tape, h4.output.trans h1.output, Nat.le_trans h1.size h4.size, fun k hk hne => ?_⟩, fun k hk => ?_⟩
  · rw [h4.block k (Nat.lt_of_lt_of_le hk h1.size) ?_]
    · exact h1.block k hk hne
    · intro e
      rcases hat k e.symm with h' | h'
      · exact hne h'.symm
      · omega
  · rcases h5 k hk with h' | h'
    · exact hat k h'
    · exact .inr (Nat.le_trans h1.size h')

set_option maxHeartbeats 2000000 in
theorem ljoin_zero {w : World} {B : Nat} {v : Value} {N : Nat} (a : Option Addr) (c : Nat) (b : Nat) (hb : b < 64) (h : OwnL w B v N) : Calls Tryz.prog 95 #[v, .slice a 0 c, .int .i64 b] w fun e w' => Lens w B v.ownBlock N e w' := by
  have d0 : ((b : Int)).tdiv 64 = 0 := by rw [Int.tdiv_eq_ediv_of_nonneg (by omega)]; omega
  have d1 : ((b : Int)).tmod 64 = b := by rw [Int.tmod_eq_emod_of_nonneg (by omega)]; omega
  have HO : Hid (OwnL w B v N) := h
  have HG : Hid (w.grownBy w v.ownBlock) := World.grownBy.refl _ _
  clear h
  go_enter Tryz.func95, Tryz.ntmps95
  go_wp2
  go_loopw [0, 17] (fun lv iv wr => lv = v ∧ iv = .int .i64 0 ∧ wr = w) (fun _ _ _ => 0)
  case atStart => exact ⟨rfl, rfl, rfl⟩
  case round =>
    obtain ⟨rfl, rfl, rfl⟩ := hrel
    go_wp2
    go_ret
    exact ⟨_, rfl, HO.out, HG.out, fun k hk => .inl hk⟩
set_option maxHeartbeats 4000000 in
theorem ljoin_one {w : World} {B g off c : Nat} {v : Value} {N N2 : Nat} (b : Nat) (hB : B ≤ w.heap.size) (hb : b < 64) (hN : N < 2 ^ 64) (hN2 : N2 * 2 ^ b < 2 ^ 64) (hc : w.cell? ⟨g, off, none⟩ = some (.int .u64 (N2 : Int))) (h : OwnL w B v N) :
    Calls Tryz.prog 95 #[v, .slice (some ⟨g, off, none⟩) 1 c, .int .i64 b] w fun e w' => Lens w B v.ownBlock (N ||| N2 * 2 ^ b) e w' := by
  have d0 : ((b : Int)).tdiv 64 = 0 := by rw [Int.tdiv_eq_ediv_of_nonneg (by omega)]; omega
  have d1 : ((b : Int)).tmod 64 = b := by rw [Int.tmod_eq_emod_of_nonneg (by omega)]; omega
  have d2 : IntKind.u64.wrap ((N2 : Int) * 2 ^ b) = ((N2 * 2 ^ b : Nat) : Int) := by
    rw [wrapU64]
    · simp
    · exact Int.mul_nonneg (by omega) (Int.pow_nonneg (by omega))
    · have : ((N2 : Int) * 2 ^ b) = ((N2 * 2 ^ b : Nat) : Int) := by simp
      rw [this]; omega
  have HM : Hid (Calls Tryz.prog 121 #[v, .int .i64 0, .int .u64 ((N2 * 2 ^ b : Nat) : Int)] w fun e w' => Lens w B v.ownBlock (N ||| N2 * 2 ^ b) e w') := lmix_any hB hN hN2 h
  have HZ : Hid (∀ w1 v1, OwnL w1 B v1 (N ||| N2 * 2 ^ b) → Calls Tryz.prog 121 #[v1, .int .i64 1, .int .u64 0] w1 fun e w' => Lens w1 B v1.ownBlock (N ||| N2 * 2 ^ b) e w') := fun w1 v1 h1 => lmix_zero 1 h1
  have D3 : Hid ((N2 : Int) / 2 ^ (64 - b) = 0) := by
    have h2 : N2 < 2 ^ (64 - b) := by
      have e : (2 : Nat) ^ 64 = 2 ^ (64 - b) * 2 ^ b := by rw [← Nat.pow_add]; congr 1; omega
      rw [e] at hN2
      exact Nat.lt_of_mul_lt_mul_right hN2
    show (N2 : Int) / 2 ^ (64 - b) = 0
    have e : ((2 : Int) ^ (64 - b)) = ((2 ^ (64 - b) : Nat) : Int) := by simp
    rw [e, ← Int.natCast_ediv, Nat.div_eq_of_lt h2]; rfl
  have HG0 : Hid (w.grownBy w v.ownBlock) := World.grownBy.refl _ _
  generalize N ||| N2 * 2 ^ b = R at *
  generalize N2 * 2 ^ b = W at *
  clear h
  go_enter Tryz.func95, Tryz.ntmps95
  go_wp2
  go_loopw [0, 17] (fun lv iv wr => (lv = v ∧ iv = .int .i64 0 ∧ wr = w) ∨ (iv = .int .i64 1 ∧ OwnL wr B lv R ∧ w.grownBy wr v.ownBlock ∧ ∀ k, lv.ownBlock = some k → v.ownBlock = some k ∨ w.heap.size ≤ k)) (fun _ iv _ => (1 - intOf iv).toNat)
  case atStart => exact .inl ⟨rfl, rfl, rfl⟩
  case round =>
    rcases hrel with ⟨rfl, rfl, rfl⟩ | ⟨rfl, hO, hg, hat⟩
    · go_wp2_with fail
      refine HM.out.mono ?_
      rintro e w1 ⟨v1, rfl, hO1, hg1, hat1⟩
      have HZ1 := HZ.out w1 v1 hO1
      have HSt : Hid (∀ e w2, Lens w1 B v1.ownBlock R e w2 → Lens wr B u0.ownBlock R e w2) := fun e w2 h => h.step hg1 hat1
      clear hO1 hg1 hat1 HZ HM
      go_wp2_with fail
      rw [D3.out]
      refine HZ1.mono ?_
      intro e w2 hL
      obtain ⟨v2, rfl, hO2, hg2, hat2⟩ := HSt.out e w2 hL
      have HO2 : Hid (OwnL w2 B v2 R) := hO2
      clear hL hO2
      go_wp2
      go_roundw
      case rel => exact .inr ⟨rfl, HO2.out, hg2, hat2⟩
      case measure => simp [intOf]
    · have HO : Hid (OwnL wr B u0 R) := hO
      clear hO
      go_wp2
      go_ret
      exact ⟨_, rfl, HO.out, hg, hat⟩
theorem ljoin_any {ok : Nat → Prop} {w : World} {B : Nat} {v u : Value} {N N2 : Nat} (b : Nat) (hB : B ≤ w.heap.size) (hb : b < 64) (hN : N < 2 ^ 64) (hN2 : N2 * 2 ^ b < 2 ^ 64) (h : OwnL w B v N) (hu : LenV ok w u N2) :
    Calls Tryz.prog 95 #[v, u, .int .i64 b] w fun e w' => Lens w B v.ownBlock (N ||| N2 * 2 ^ b) e w' := by
  rcases hu with ⟨rfl, a, c, rfl⟩ | ⟨g, off, c, rfl, _, _, hc⟩
  · rw [Nat.zero_mul, Nat.or_zero]; exact ljoin_zero a c b hb h
  · exact ljoin_one b hB hb hN hN2 hc h
theorem below_grown {w w1 w2 : World} {own : Option Nat} (h : Below w.heap.size w w1) (hb : ∀ k, own = some k → w.heap.size ≤ k) (hg : w1.grownBy w2 own) : Below w.heap.size w w2 :=
  ⟨hg.os.trans h.os, hg.tape.trans h.tape, hg.output.trans h.output, Nat.le_trans h.size hg.size, fun k hk => (hg.block k (Nat.lt_of_lt_of_le hk h.size) (fun e => by have := hb k e.symm; omega)).trans (h.block k hk)⟩
theorem OwnL.made {w : World} {B : Nat} (hB : B ≤ w.heap.size) (ty : TypeId) (h : ty = 119) : OwnL (w.alloc (.cells #[] ty)) B (.slice (some ⟨w.heap.size, 0, none⟩) 0 0) 0 := by
  subst h
  refine ⟨[], .inl ⟨rfl, rfl⟩, ?_⟩
  exact World.ownsRow_made w #[] 0 hB (by unfold maxLen; omega) (by simp)
set_option maxHeartbeats 2000000 in
theorem justOne_any {w : World} (n : Nat) (hn : n < 64) : Calls Tryz.prog 93 #[.int .i64 n] w fun e w' => ∃ v, e = .returned v ∧ OwnL w' w.heap.size v (2 ^ n) ∧ Below w.heap.size w w' := by
  have HJ : Hid (∀ w1 g1 g2, w.heap.size ≤ w1.heap.size → OwnL w1 w.heap.size (.slice (some ⟨g1, 0, none⟩) 0 0) 0 → w1.cell? ⟨g2, 0, none⟩ = some (.int .u64 1) → g2 < w1.heap.size → Calls Tryz.prog 95 #[.slice (some ⟨g1, 0, none⟩) 0 0, .slice (some ⟨g2, 0, none⟩) 1 1, .int .i64 n] w1 fun e w' => Lens w1 w.heap.size (some g1) (2 ^ n) e w') := fun w1 g1 g2 hs h1 h2 h3 => by
    have := ljoin_any (ok := fun _ => True) (N2 := 1) n hs hn (by decide) (by rw [Nat.one_mul]; exact Nat.pow_lt_pow_right (by omega) hn) h1 (.inr ⟨g2, 0, 1, rfl, h3, trivial, h2⟩)
    simpa [Value.ownBlock] using this
  have H1 : Hid (OwnL ((w.alloc (.cells #[] 119)).alloc (.cells #[.int .u64 1] 119)) w.heap.size (.slice (some ⟨w.heap.size, 0, none⟩) 0 0) 0) := by
    obtain ⟨xs, hx, h⟩ := OwnL.made (w := w) (Nat.le_refl _) 119 rfl
    exact ⟨xs, hx, h.alloc _⟩
  have H2 : Hid (((w.alloc (.cells #[] 119)).alloc (.cells #[.int .u64 1] 119)).cell? ⟨w.heap.size + 1, 0, none⟩ = some (.int .u64 1)) := by
    have e : w.heap.size + 1 = (w.alloc (.cells #[] 119)).heap.size := by simp
    rw [e]
    simp only [World.cell?, heap_alloc_new (w.alloc (.cells #[] 119)) (.cells #[.int .u64 1] 119)]; trivial
  go_enter Tryz.func93, Tryz.ntmps93
  go_wp2_with fail
  refine (HJ.out _ _ _ (by simp; omega) H1.out H2.out (by simp)).mono ?_
  rintro e w2 ⟨v2, rfl, hO2, hg2, hat2⟩
  have HO2 : Hid (OwnL w2 w.heap.size v2 (2 ^ n)) := hO2
  have hb : Below w.heap.size w w2 := below_grown ((below_alloc w _).trans ((below_alloc _ _).mono (by simp))) (fun k hk => by injection hk with hk; omega) hg2
  clear hO2 hg2 hat2
  go_wp2
  go_ret
  exact ⟨_, rfl, HO2.out, hb⟩
end Go.Proofs.YtbjohedenfindaaGreatDoor
