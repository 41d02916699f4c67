import Derived.Test.YtbiiapdeincpbaaREdges
import Derived.Lib.OwnKind
import Derived.Deep.RegionWith
namespace Go.Proofs.Ytbiiapdeincpbaa
open Go.RowKit
set_option linter.unusedVariables false
set_option maxRecDepth 100000

theorem growL_len (l : List Rg) (lo hi : Int) : (growL l lo hi).length ≤ l.length + 1 := by
  unfold growL
  cases h : l.getLast? with
  | none => simp
  | some r =>
    dsimp only
    split <;> simp <;> omega

theorem Rngs.below {w w' : World} {v : Value} {l : List Rg} (h : Rngs w v l) (hb : Below w.heap.size w w') : Rngs w' v l := by
  rcases h with h | ⟨b, off, c, rfl, hlt, hc⟩
  · exact Or.inl h
  · have := hb.size
    exact Or.inr ⟨b, off, c, rfl, by omega, fun j hj => ⟨(hb.cell (p := ⟨b, off + j * 2, none⟩) hlt).trans (hc j hj).1, (hb.cell (p := ⟨b, off + j * 2 + 1, none⟩) hlt).trans (hc j hj).2⟩⟩

theorem ints_grown {w w' : World} {B C : Nat} {v x : Value} {zs : List Int} {l : List Rg} (h : IntsC w B v zs) (ho : OwnR w C x l) (hg : w.grownBy w' x.ownBlock) : IntsC w' B v zs :=
  h.keep (fun k cur hk => hg.block k (Array.getElem?_eq_some_iff.1 hk).1 (fun e => by
    obtain ⟨c, fz, hc⟩ := Lib.ownsRow_kind ho k e.symm
    rw [hk] at hc
    simp at hc)) hg.size

theorem upto_bd {l : List Rg} {to : Int} {f : Int → Bool} (h : Upto l to f) (ht : to ≤ 1114112) : ∀ r ∈ l, 0 ≤ r.2 ∧ r.2 ≤ 1114111 := fun r hr => by
  have h1 := h.low r hr
  have h2 := h.apart.2 r hr
  omega

theorem wrap_k64 (n : Int) (h0 : -9223372036854775808 ≤ n) (h1 : n ≤ 9223372036854775807) : IntKind.i64.wrap n = n := by
  simp [IntKind.wrap, IntKind.bits, IntKind.signed]
  split <;> omega

theorem own_drew {w : World} {B : Nat} {v : Value} {l : List Rg} (h : OwnR w B v l) (n : Nat) : OwnR (w.drewN n) B v l := h
theorem grown_drew {w w' : World} {row : Option Nat} {n : Nat} (h : (w.drewN n).grownBy w' row) : w.grownBy w' row := ⟨h.os, h.tape, h.output, h.size, h.block⟩

set_option maxHeartbeats 1600000 in
theorem both_any (how : Int) (va vb : Value) (a b : List Rg) (w : World) (hla : a.length ≤ 1000) (hlb : b.length ≤ 1000) (ha : Rngs w va a) (hb : Rngs w vb b)
    (hW : ∀ (p : Int) (W : World), Rngs W va a → Rngs W vb b → Calls Try.prog 38 #[va, vb, .int .i64 how, .int .i64 p] W fun e w' => e = .returned (.bool (wantR how (hasB a p) (hasB b p))) ∧ w' = W) :
    Calls Try.prog 17 #[va, vb, .int .i64 how] w fun e w' => ∃ v' out, e = .returned v' ∧ OwnR w' w.heap.size v' out ∧ Upto out 1114112 (fun p => wantR how (hasB a p) (hasB b p)) ∧ Below w.heap.size w w' ∧ out.length ≤ 5000 := by
  have HW : Hid (∀ (p : Int) (W : World), Rngs W va a → Rngs W vb b → Calls Try.prog 38 #[va, vb, .int .i64 how, .int .i64 p] W fun e w' => e = .returned (.bool (wantR how (hasB a p) (hasB b p))) ∧ w' = W) := hW
  clear hW
  go_enter Try.func17, Try.ntmps17
  go_wp2_with fail
  refine (ends_any _).mono ?_
  rintro e w1 ⟨v1, rfl, hI1, hb1⟩
  have hs1 := hb1.size
  go_wp2_with fail
  refine (edges_any w.heap.size v1 va [0, 1114112] a w1 (by omega) (by simp) hs1 hI1 Cuts.ends (ha.below hb1)).mono ?_
  rintro e w2 ⟨v2, rfl, hI2, hb2⟩
  have hb2' := hb1.trans (hb2.mono hs1)
  have hs2 := hb2'.size
  have hc2 := edgesL_cuts a Cuts.ends
  have hl2 := edgesL_len a [0, 1114112]
  simp only [List.length_cons, List.length_nil] at hl2
  have hv2 := edgesL_covers a [0, 1114112]
  go_wp2_with fail
  refine (edges_any w.heap.size v2 vb (edgesL [0, 1114112] a) b w2 (by omega) (by omega) hs2 hI2 hc2 (hb.below hb2')).mono ?_
  rintro e w3 ⟨v3, rfl, hI3, hb3⟩
  have hb3' := hb2'.trans (hb3.mono hs2)
  have hs3 := hb3'.size
  have hcE := edgesL_cuts b hc2
  have hlE := edgesL_len b (edgesL [0, 1114112] a)
  have hva : Covers (edgesL (edgesL [0, 1114112] a) b) a := hv2.sub (edgesL_sub b _)
  have hvb := edgesL_covers b (edgesL [0, 1114112] a)
  generalize edgesL (edgesL [0, 1114112] a) b = E at *
  clear hI1 hI2 hb1 hb2 hb2' hb3 hs1 hs2 hc2 hv2
  have hlen2 := cuts_len hcE
  have hE0 := cuts_first hcE
  have HEl : Hid (∀ k, k + 1 = E.length → E.getD k 0 = 1114112) := cuts_last hcE
  have hconst : Hid (∀ k, k + 1 < E.length → ∀ p, E.getD k 0 ≤ p → p ≤ E.getD (k + 1) 0 - 1 → wantR how (hasB a p) (hasB b p) = wantR how (hasB a (E.getD k 0)) (hasB b (E.getD k 0))) := fun k hk p h1 h2 => by
    have hm : ∀ i, i < E.length → E.getD i 0 ∈ E := fun i hi => by simp [hi]
    have b0 := hcE.bd _ (hm k (by omega))
    have b1 := hcE.bd _ (hm (k + 1) hk)
    have hlt := sorted_get hcE.sorted k (k + 1) (by omega) hk
    rw [hasB_in a p (by omega) (by omega), hasB_in b p (by omega) (by omega), hasB_in a _ (by omega) (by omega), hasB_in b _ (by omega) (by omega), cut_const hcE hva hk p h1 h2, cut_const hcE hvb hk p h1 h2]
  have hbdE : Hid (∀ i, i < E.length → 0 ≤ E.getD i 0 ∧ E.getD i 0 ≤ 1114112) := fun i hi => hcE.bd _ (by simp [hi])
  clear hva hvb
  obtain ⟨g, c, rfl, gc1, gc2, gB, gs, gcur, gcell⟩ := hI3
  have hI3 : IntsC w3 w.heap.size (.slice (some ⟨g, 0, none⟩) E.length c) E := ⟨g, c, rfl, gc1, gc2, gB, gs, gcur, gcell⟩
  clear gcell gcur gs
  have hEl : E.length ≤ 5000 := by omega
  go_wp2
  go_loopw [8, 9] (fun x i wr => ∃ (k : Nat) (out : List Rg), k + 1 ≤ E.length ∧ i = .int .i64 k ∧ OwnR wr w.heap.size x out ∧ IntsC wr w.heap.size (.slice (some ⟨g, 0, none⟩) E.length c) E ∧ Below w.heap.size w wr ∧ Upto out (E.getD k 0) (fun p => wantR how (hasB a p) (hasB b p)) ∧ out.length ≤ k) (fun _ i _ => E.length - (intOf i).toNat)
  case atStart =>
    refine ⟨0, [], by omega, rfl, World.ownsRow_nil _ _ _ _, hI3, hb3', ?_, by simp⟩
    rw [hE0]; exact Upto.nil _
  case round =>
    obtain ⟨k, out, hk, rfl, hO, hI, hbw, hU0, hol⟩ := hrel
    have hU : Hid (Upto out (E.getD k 0) (fun p => wantR how (hasB a p) (hasB b p))) := hU0
    clear hU0 hE0
    have hsz := hbw.size
    have hcells : ∀ j, j < E.length → wr.cell? ⟨g, j, none⟩ = some (.int .i64 (E.getD j 0)) := by
      obtain ⟨g', c', e1, _, _, _, _, _, h6⟩ := hI
      simp only [Value.slice.injEq, Option.some.injEq, Addr.mk.injEq, true_and, and_true] at e1
      obtain ⟨rfl, rfl⟩ := e1
      exact h6
    by_cases hlt : k + 1 < E.length
    · have ck := hcells k (by omega)
      have ck1 := hcells (k + 1) hlt
      clear hcells
      have hst := cut_step hcE hlt hU.out (hconst.out k hlt)
      obtain ⟨bka, bkb⟩ := hbdE.out k (by omega)
      obtain ⟨bk1a, bk1b⟩ := hbdE.out (k + 1) hlt
      generalize E.getD k 0 = x0 at *
      generalize hx1 : E.getD (k + 1) 0 = x1 at *
      have HX1 : Hid (E.getD (k + 1) 0 = x1) := hx1
      clear hx1
      have hobd := upto_bd hU.out (by omega)
      have hi1 : (k : Int) + 1 < (E.length : Int) := by omega
      cases hask : wantR how (hasB a x0) (hasB b x0)
      · have HS : Hid (Upto out x1 (fun p => wantR how (hasB a p) (hasB b p))) := by
          have := hst; rw [hask] at this; exact this
        clear hst
        go_wp2_with fail
        refine (HW.out x0 wr (ha.below hbw) (hb.below hbw)).mono ?_
        rw [hask]
        rintro e w' ⟨rfl, rfl⟩
        clear hask
        go_wp2
        go_roundw
        case rel => exact ⟨k + 1, out, by omega, by go_num, hO, hI, hbw, by rw [HX1.out]; exact HS.out, by omega⟩
        case measure => simp [intOf]; omega
      · have HS : Hid (Upto (growL out x0 (x1 - 1)) x1 (fun p => wantR how (hasB a p) (hasB b p))) := by
          have := hst; rw [hask] at this; exact this
        clear hst
        go_wp2_with fail
        refine (HW.out x0 wr (ha.below hbw) (hb.below hbw)).mono ?_
        rw [hask]
        rintro e w' ⟨rfl, rfl⟩
        clear hask
        have hgl := growL_len out x0 (x1 - 1)
        go_wp2_with fail
        have hol2 : out.length ≤ 1000000 := by omega
        have hwr : IntKind.i64.wrap (x1 - 1) = x1 - 1 := wrap_k64 _ (by omega) (by omega)
        have hwr2 : IntKind.i64.wrap ((k : Int) + 1) = (k : Int) + 1 := wrap_k64 _ (by omega) (by omega)
        have hk0 : (0 : Int) ≤ (k : Int) + 1 := by omega
        go_region_with (go_at_call 39; refine (grow_any w.heap.size u8 out x0 (x1 - 1) _ ?_ ?_ ?_ ?_).mono ?_; exact hO; exact hsz; exact hol2; exact hobd; rintro e w4 ⟨v4, rfl, hO4, hg4⟩)
        all_goals
          have hI4 := ints_grown hI hO (w' := w4) ⟨hg4.os, hg4.tape, hg4.output, hg4.size, hg4.block⟩
          have hbw4 : Below w.heap.size w w4 := hbw.grown (row := u8.ownBlock) ⟨hg4.os, hg4.tape, hg4.output, hg4.size, hg4.block⟩ hsz (fun j hj => (World.ownsRow.lt hO j hj).1)
          clear hg4 hO hI hbw
          go_wp2
          go_roundw
          case rel => exact ⟨k + 1, _, by omega, by go_num, hO4, hI4, hbw4, by rw [HX1.out]; exact HS.out, by omega⟩
          case measure => simp [intOf]; omega
    · have e1 : k + 1 = E.length := by omega
      have HU2 : Hid (Upto out 1114112 (fun p => wantR how (hasB a p) (hasB b p))) := by
        have := hU.out; rw [HEl.out k e1] at this; exact this
      clear hU e1
      go_wp2
      go_ret
      exact ⟨_, out, rfl, hO, HU2.out, hbw, by omega⟩

end Go.Proofs.Ytbiiapdeincpbaa
