/- Texts of the proof, put together: AExp4. -/
import Derived.Test.YthbglakncijahaaGreatDoorAw24
namespace Go.Proofs.YthbglakncijahaaGreatDoor
open Go.RowKit
set_option linter.unusedVariables false
set_option maxRecDepth 100000

/-- how much is left to read; nothing where something is wrong -/
def meaP (s : ByteArray) (R : Nat) (w : World) : Nat := match w.cell? ⟨R, 7, none⟩ with
  | some .nilIface => (match w.cell? ⟨R, 4, none⟩ with | some (.int _ z) => s.size - z.toNat + 1 | _ => 0)
  | _ => 0
theorem meaP_some {W0 w : World} {R : Nat} {s : ByteArray} {t : Tok} (h : PX W0 w R s (some t)) : meaP s R w = s.size - t.fr + 1 := by
  obtain ⟨_, z, hp⟩ := h.good t rfl
  obtain ⟨_, _, _, _, c4, _, _, c7, _⟩ := hp.cells
  unfold meaP
  rw [c7, c4]
  simp
theorem meaP_none {W0 w : World} {R : Nat} {s : ByteArray} (h : PX W0 w R s none) : meaP s R w = 0 := by
  obtain ⟨t, te, pe, z, _, hp⟩ := h.bad rfl
  obtain ⟨_, _, _, _, c4, _, _, c7, _⟩ := hp.cells
  unfold meaP
  rw [c7]
theorem meaP_lt {W0 w w' : World} {R : Nat} {s : ByteArray} {t : Tok} {o : Option Tok} (h : PX W0 w R s (some t)) (h' : PX W0 w' R s o) (ho : OkO s (t.fr + 1) o) : meaP s R w' < meaP s R w := by
  rw [meaP_some h]
  cases o with
  | none => rw [meaP_none h']; omega
  | some u =>
    rw [meaP_some h']
    have := (ho u rfl).2
    have := (ho u rfl).1.2.1
    omega
theorem meaP_below {W0 w w' : World} {R : Nat} {s : ByteArray} {o : Option Tok} (h : PX W0 w R s o) (hb : Below w.heap.size w w') : meaP s R w' = meaP s R w := by
  unfold meaP
  rw [World.cell?_of_block (a := ⟨R, 7, none⟩) (hb.block R h.lt), World.cell?_of_block (a := ⟨R, 4, none⟩) (hb.block R h.lt)]

/-- the operators of a level, on their way -/
def OpI (W0 w0 wr : World) (R m : Nat) (s : ByteArray) (n : Int) (sub : Tok → RE) (res : RE) (p : Option Addr) : Prop :=
  ∃ o : Option Tok, w0.grownBy wr (some R) ∧ PX W0 wr R s o ∧ OkO s m o ∧ ((o = none ∧ res = none) ∨ ∃ t a f, o = some t ∧ res = opsS s n sub f a t ∧ s.size + 1 ≤ f + t.fr ∧ ExB w0.heap.size wr (.pointer p) a)
/-- behind an operator and what stands on its right -/
def opK (s : ByteArray) (n : Int) (sub : Tok → RE) (f : Nat) (text : ByteArray) (a : Ex) : RE → RE
  | none => none
  | some (k, u) => if n = 0 then some (exN 7 0 text [a, k], u) else opsS s n sub f (exN 7 0 text [a, k]) u
theorem ops_hit {s : ByteArray} {n : Int} {sub : Tok → RE} {f : Nat} {a : Ex} {t : Tok} (h6 : t.kind = 6) (hl : lvlL t.text.toList = n) : opsS s n sub (f + 1) a t = opK s n sub f t.text a ((nextS s (some t)).bind sub) := by
  rw [opsS, if_pos ⟨h6, hl⟩]
  cases (nextS s (some t)).bind sub <;> rfl
theorem ops_miss {s : ByteArray} {n : Int} {sub : Tok → RE} {f : Nat} {a : Ex} {t : Tok} (h : ¬ (t.kind = 6 ∧ lvlL t.text.toList = n)) : opsS s n sub (f + 1) a t = some (a, t) := by
  rw [opsS, if_neg h]

/-- behind an operator -/
structure OpK (W0 w wr w3 : World) (R : Nat) (s : ByteArray) (r2 : RE) (fr : Nat) (p pk : Option Addr) (a : Ex) : Prop where
  grown : w.grownBy w3 (some R)
  grownR : wr.grownBy w3 (some R)
  px : PX W0 w3 R s (stE r2)
  ok : OkO s (fr + 1 + 1) (stE r2)
  val : ∀ x u, r2 = some (x, u) → ExB w.heap.size w3 (.pointer pk) x
  left : ExB w.heap.size w3 (.pointer p) a
theorem OpK.below (w3 : World) (p pk : Option Addr) (text : ByteArray) : Below w3.heap.size w3 ((w3.alloc (.cells #[.pointer p, .pointer pk] 24)).alloc (.cells #[.int .i64 7, .int .i64 0, .string text, .slice (some ⟨w3.heap.size, 0, none⟩) 2 2] 64)) := (alloc_below w3 _).trans ((alloc_below _ _).mono (by rw [alloc_size]; omega))
theorem OpK.ex {W0 w wr w3 : World} {R : Nat} {s : ByteArray} {r2 : RE} {fr : Nat} {p pk : Option Addr} {a k : Ex} {u : Tok} (h : OpK W0 w wr w3 R s r2 fr p pk a) (hr : r2 = some (k, u)) (text : ByteArray) : ExB w.heap.size ((w3.alloc (.cells #[.pointer p, .pointer pk] 24)).alloc (.cells #[.int .i64 7, .int .i64 0, .string text, .slice (some ⟨w3.heap.size, 0, none⟩) 2 2] 64)) (.pointer (some ⟨w3.heap.size + 1, 0, none⟩)) (exN 7 0 text [a, k]) := by
  obtain ⟨W, hW, _, hE⟩ := ex_built h.grown.size 7 0 text [.pointer p, .pointer pk] [a, k] rfl (by simp) (fun j hj => by
    rcases (show j = 0 ∨ j = 1 by simp at hj; omega) with rfl | rfl
    · exact ⟨_, rfl, h.left⟩
    · exact ⟨_, rfl, h.val k u hr⟩)
  rw [← hW] at hE
  exact hE
theorem OpK.fin {W0 w wr w3 : World} {R : Nat} {s : ByteArray} {r2 : RE} {fr f' : Nat} {p pk : Option Addr} {a : Ex} {sub : Tok → RE} {res : RE} {text : ByteArray} (h : OpK W0 w wr w3 R s r2 fr p pk a) (hres : res = opK s 0 sub f' text a r2) : GotE W0 w R s res (.returned (.pointer (some ⟨w3.heap.size + 1, 0, none⟩))) ((w3.alloc (.cells #[.pointer p, .pointer pk] 24)).alloc (.cells #[.int .i64 7, .int .i64 0, .string text, .slice (some ⟨w3.heap.size, 0, none⟩) 2 2] 64)) := by
  have hb := OpK.below w3 p pk text
  refine ⟨_, rfl, gT h.grown (grownA_below hb _), ?_, fun x t hx => ?_⟩
  · have := h.px.below hb
    rw [hres]
    cases r2 with
    | none => exact this
    | some y => exact this
  · rw [hres] at hx
    cases hr : r2 with
    | none => rw [hr] at hx; cases hx
    | some y =>
      obtain ⟨k, u⟩ := y
      rw [hr] at hx
      simp only [opK, if_true, Option.some.injEq, Prod.mk.injEq] at hx
      obtain ⟨rfl, rfl⟩ := hx
      exact h.ex hr text
theorem OpK.more {W0 w wr w3 : World} {R m : Nat} {s : ByteArray} {r2 : RE} {fr f' : Nat} {p pk : Option Addr} {a : Ex} {n : Int} {sub : Tok → RE} {res : RE} {text : ByteArray} (h : OpK W0 w wr w3 R s r2 fr p pk a) (hn : n ≠ 0) (hres : res = opK s n sub f' text a r2) (hm : m ≤ fr) (hf : s.size + 1 ≤ f' + 1 + fr) : Hid (OpI W0 w ((w3.alloc (.cells #[.pointer p, .pointer pk] 24)).alloc (.cells #[.int .i64 7, .int .i64 0, .string text, .slice (some ⟨w3.heap.size, 0, none⟩) 2 2] 64)) R m s n sub res (some ⟨w3.heap.size + 1, 0, none⟩)) := by
  have hb := OpK.below w3 p pk text
  refine ⟨stE r2, gT h.grown (grownA_below hb _), h.px.below hb, h.ok.mono (by omega), ?_⟩
  cases hr : r2 with
  | none => exact .inl ⟨rfl, by rw [hres, hr]; rfl⟩
  | some y =>
    obtain ⟨k, u⟩ := y
    have hu := (h.ok u (by rw [hr]; rfl)).2
    refine .inr ⟨u, _, f', rfl, ?_, by omega, h.ex hr text⟩
    rw [hres, hr]
    simp only [opK, if_neg hn]
theorem OpK.less {W0 w wr w3 : World} {R : Nat} {s : ByteArray} {r2 : RE} {p pk : Option Addr} {a : Ex} {t : Tok} (h : OpK W0 w wr w3 R s r2 t.fr p pk a) (hX : PX W0 wr R s (some t)) (x : List Value) (text : ByteArray) : meaP s R ((w3.alloc (.cells #[.pointer p, .pointer pk] 24)).alloc (.cells #[.int .i64 7, .int .i64 0, .string text, .slice (some ⟨w3.heap.size, 0, none⟩) 2 2] 64)) < meaP s R wr := by
  rw [meaP_below h.px (OpK.below w3 p pk text)]
  exact meaP_lt hX h.px (h.ok.mono (by omega))

set_option maxHeartbeats 8000000 in
theorem plevel_step {W0 w : World} (L : LibA W0) {R m : Nat} {s : ByteArray} {sub : Tok → RE} {n : Int} (hn0 : 0 ≤ n) (hn2 : n ≤ 2) (hS : LvC W0 R s m (n + 1) sub) (hgo : GoesE s sub) {o : Option Tok} (h : PX W0 w R s o) (ho : OkO s m o) :
    Calls Tryz.prog 59 #[.pointer (some ⟨R, 0, none⟩), .int .i64 n] w (GotE W0 w R s (o.bind (levS s n sub))) := by
  have hn3 : (n == 3) = false := by rw [beq_eq_false_iff_ne]; omega
  have hw1 : IntKind.i64.wrap (n + 1) = n + 1 := by rw [IntKind.wrap_i64]; omega
  have hRw := h.lt
  generalize hres : o.bind (levS s n sub) = res
  have H1 : Hid (Calls Tryz.prog 59 #[.pointer (some ⟨R, 0, none⟩), .int .i64 (n + 1)] w fun e w' => ∃ p, e = .returned (.pointer p) ∧ OpI W0 w w' R m s n sub res p) := by
    refine (hS w o h ho).mono ?_
    rintro e w' ⟨p, rfl, hg, hX, hv⟩
    refine ⟨p, rfl, stE (o.bind sub), hg, hX, (ho.st hgo).mono (by omega), ?_⟩
    cases hr : o.bind sub with
    | none =>
      refine .inl ⟨rfl, ?_⟩
      rw [← hres]
      cases o with
      | none => rfl
      | some t => simp only [Option.bind_some] at hr ⊢; unfold levS; rw [hr]
    | some y =>
      obtain ⟨a, u⟩ := y
      refine .inr ⟨u, a, s.size + 1, rfl, ?_, by omega, hv a u hr⟩
      rw [← hres]
      cases o with
      | none => cases hr
      | some t => simp only [Option.bind_some] at hr ⊢; unfold levS; rw [hr]
  have HS : Hid (∀ w o, PX W0 w R s o → OkO s m o → Calls Tryz.prog 59 #[.pointer (some ⟨R, 0, none⟩), .int .i64 (n + 1)] w (GotE W0 w R s (o.bind sub))) := hS
  have HG : Hid (GoesE s sub) := hgo
  clear hres h ho hS hgo
  go_enter Tryz.func59, Tryz.ntmps59
  go_wp2_with fail
  go_at_call 59
  refine H1.out.mono ?_
  rintro e w1 ⟨p1, rfl, hI1⟩
  have HI1 : Hid (OpI W0 w w1 R m s n sub res p1) := hI1
  clear H1 hI1
  go_wp2_with fail
  go_loopw [5, 6, 7] (fun pv _ _ wr => ∃ p, pv = .pointer p ∧ Hid (OpI W0 w wr R m s n sub res p)) (fun _ _ _ wr => meaP s R wr)
  case atStart => exact ⟨p1, rfl, HI1⟩
  case round =>
    obtain ⟨p, rfl, HI⟩ := hrel
    obtain ⟨o, hg, hX, hO, hst⟩ := HI.out
    rcases hst with ⟨rfl, hr⟩ | ⟨t, a, f, rfl, hr, hf, hE⟩
    · obtain ⟨t, te, pe, z, _, hp⟩ := hX.bad rfl
      obtain ⟨c0, c1, c2, c3, c4, c5, c6, c7, c8⟩ := hp.cells
      have HEnd : Hid (GotE W0 w R s res (.returned (.pointer p)) wr) := ⟨p, rfl, hg, by rw [hr]; exact hX, fun x t h => by rw [hr] at h; cases h⟩
      clear hg hX hO hr hp HI HS HG
      go_wp2
      go_ret
      exact HEnd.out
    · obtain ⟨hok, z, hp⟩ := hX.good t rfl
      obtain ⟨c0, c1, c2, c3, c4, c5, c6, c7, c8⟩ := hp.cells
      obtain ⟨f', rfl⟩ : ∃ f', f = f' + 1 := ⟨f - 1, by have := hok.2.1; omega⟩
      have HStop : Hid (¬ (t.kind = 6 ∧ lvlL t.text.toList = n) → GotE W0 w R s res (.returned (.pointer p)) wr) := fun hno => ⟨p, rfl, hg, by rw [hr, ops_miss hno]; exact hX, fun x u h => by rw [hr, ops_miss hno] at h; simp only [Option.some.injEq, Prod.mk.injEq] at h; obtain ⟨rfl, rfl⟩ := h; exact hE⟩
      have HL : Hid (∀ w, Calls Tryz.prog 89 #[.string t.text] w fun e w' => e = .returned (.int .i64 (lvlL t.text.toList)) ∧ w' = w) := fun w => rlevel_any t.text w
      cases h6 : (t.kind == 6)
      · have HEnd : Hid (GotE W0 w R s res (.returned (.pointer p)) wr) := HStop.out fun hh => by rw [hh.1] at h6; cases h6
        clear hg hX hO hr hp HI HS HG HStop HL hE hok
        go_wp2
        go_ret
        exact HEnd.out
      · rw [beq_iff_eq] at h6
        by_cases hl : lvlL t.text.toList = n
        · have hl2 : (lvlL t.text.toList != n) = false := by rw [bne_eq_false_iff_eq]; exact hl
          have h62 : (t.kind == 6) = true := by rw [h6]; rfl
          rw [ops_hit h6 hl] at hr
          obtain ⟨hok1, hm1⟩ := hO t rfl
          have hO2 : OkO s (t.fr + 1) (nextS s (some t)) := OkO.next hok1 (Nat.le_refl _) (by omega)
          have HN : Hid (Calls Tryz.prog 30 #[.pointer (some ⟨R, 0, none⟩)] wr fun e w' => e = .returned (.tuple #[]) ∧ wr.grownBy w' (some R) ∧ PX W0 w' R s (nextS s (some t))) := pnext_any L hX
          have HK : Hid (∀ w2, wr.grownBy w2 (some R) → PX W0 w2 R s (nextS s (some t)) → Calls Tryz.prog 59 #[.pointer (some ⟨R, 0, none⟩), .int .i64 (n + 1)] w2 fun e w3 => ∃ pk, e = .returned (.pointer pk) ∧ OpK W0 w wr w3 R s ((nextS s (some t)).bind sub) t.fr p pk a) := by
            intro w2 hg2 hX2
            refine (HS.out w2 _ hX2 (hO2.mono (by omega))).mono ?_
            rintro e w3 ⟨pk, rfl, hg3, hX3, hv3⟩
            exact ⟨pk, rfl, gT hg (gT hg2 hg3), gT hg2 hg3, hX3, hO2.st HG.out, fun x u hx => (hv3 x u hx).mono (Nat.le_trans hg.size hg2.size), hE.grown hRw (gT hg2 hg3)⟩
          have HRes : Hid (res = opK s n sub f' t.text a ((nextS s (some t)).bind sub)) := hr
          have HX : Hid (PX W0 wr R s (some t)) := hX
          clear hr hg hX hO hp HI HS HG HStop hE hok hok1 hO2
          generalize (nextS s (some t)).bind sub = r2 at *
          generalize nextS s (some t) = o2 at *
          go_wp2_with fail
          go_at_call 89
          refine (HL.out _).mono ?_
          rintro e w2 ⟨rfl, hw⟩
          obtain rfl := hw.symm
          clear hw HL
          go_wp2_with fail
          go_at_call 30
          refine HN.out.mono ?_
          rintro e w2 ⟨rfl, hg2, hX2⟩
          have HK2 : Hid (Calls Tryz.prog 59 #[.pointer (some ⟨R, 0, none⟩), .int .i64 (n + 1)] w2 fun e w3 => ∃ pk, e = .returned (.pointer pk) ∧ OpK W0 w wr w3 R s r2 t.fr p pk a) := HK.out w2 hg2 hX2
          clear HK HN hX2 hg2
          go_wp2_with fail
          go_at_call 59
          refine HK2.out.mono ?_
          rintro e w3 ⟨pk, rfl, hK3⟩
          have HK3 : Hid (OpK W0 w wr w3 R s r2 t.fr p pk a) := hK3
          clear HK2 hK3
          by_cases hn : n = 0
          · subst hn
            go_wp2
            go_ret
            exact HK3.out.fin HRes.out
          · have hn2 : (n == 0) = false := by rw [beq_eq_false_iff_ne]; exact hn
            go_wp2
            go_roundw
            case rel => exact ⟨some ⟨w3.heap.size + 1, 0, none⟩, by simp, HK3.out.more hn HRes.out (by omega) (by omega)⟩
            case measure => exact HK3.out.less HX.out [] _
        · have HEnd : Hid (GotE W0 w R s res (.returned (.pointer p)) wr) := HStop.out fun hh => hl hh.2
          have hl2 : (lvlL t.text.toList != n) = true := by rw [bne_iff_ne]; exact hl
          have h62 : (t.kind == 6) = true := by rw [h6]; rfl
          clear hg hX hO hr hp HI HS HG HStop hE hok
          go_wp2_with fail
          go_at_call 89
          refine (HL.out _).mono ?_
          rintro e w2 ⟨rfl, hw⟩
          obtain rfl := hw.symm
          clear hw
          go_wp2
          go_ret
          exact HEnd.out

end Go.Proofs.YthbglakncijahaaGreatDoor
