import Derived.Test.YtbiiapdeincpbaaCInv
import Derived.Test.YtbiiapdeincpbaaRCls
namespace Go.Proofs.Ytbiiapdeincpbaa
open Go.RowKit
set_option linter.unusedVariables false
set_option maxRecDepth 100000

theorem but_below {w w' : World} (h : Below w.heap.size w w') : But [] w w' := ⟨h.os, h.tape, h.output, h.size, fun k hk _ => h.block k hk⟩

theorem SetsAt.belowC {w w' : World} {v : Value} {ls : List (List Rg)} (h : SetsAt w v ls) (hb : Below w.heap.size w w') : SetsAt w' v ls := by
  rcases h with h | ⟨b, off, c, rfl, hlt, hc⟩
  · exact Or.inl h
  · have := hb.size
    refine Or.inr ⟨b, off, c, rfl, by omega, fun j hj => ?_⟩
    obtain ⟨vj, h1, h2⟩ := hc j hj
    exact ⟨vj, (hb.cell (p := ⟨b, off + j, none⟩) hlt).trans h1, h2.below hb⟩

/-- the state as the sweep begins -/
theorem cl_start {w w1 : World} {M Dp Nd Mp n L : Nat} {nodes : List Int} {ps : List Pr} (hm : MemAt w1 M Dp Nd Mp n L (List.replicate n 0) nodes ps) (hb : Below (w.heap.size + 1) (w.alloc (.cells #[.slice none 0 0] 37)) w1) :
    Cl (((w1.alloc (.cells #[.pointer (some ⟨M, 0, none⟩)] 61)).alloc (.map #[] 0)).alloc (.cells #[.map (some (w1.heap.size + 1))] 63)) w.heap.size M Dp Nd Mp n L (w1.heap.size + 1 + 1) w1.heap.size w.heap.size (w1.heap.size + 1) (List.replicate n 0) nodes ps (.slice none 0 0) [] [] := by
  have hs1 := hb.size
  simp at hs1
  have s1 : (w1.alloc (.cells #[.pointer (some ⟨M, 0, none⟩)] 61)).heap.size = w1.heap.size + 1 := by simp
  have s2 : ((w1.alloc (.cells #[.pointer (some ⟨M, 0, none⟩)] 61)).alloc (.map #[] 0)).heap.size = w1.heap.size + 1 + 1 := by simp
  refine ⟨((hm.alloc _).alloc _).alloc _, ?_, ?_, ?_, ?_, ⟨[], World.ownsRow_nil _ _ _ _, by simp⟩, ?_, rfl, by simp; omega⟩
  · rw [Below.heap_alloc _ _ _ (by omega), Below.heap_alloc _ _ _ (by omega), Below.heap_alloc _ _ _ (by omega), hb.block w.heap.size (by omega)]
    exact heap_alloc_new w _
  · rw [Below.heap_alloc _ _ _ (by omega), Below.heap_alloc _ _ _ (by omega)]
    exact heap_alloc_new w1 _
  · have := heap_alloc_new ((w1.alloc (.cells #[.pointer (some ⟨M, 0, none⟩)] 61)).alloc (.map #[] 0)) (.cells #[.map (some (w1.heap.size + 1))] 63)
    rw [s2] at this
    exact this
  · refine ⟨.map [], ?_, idx_nil⟩
    have := World.ownsMap_made (H := Unit) (w1.alloc (.cells #[.pointer (some ⟨M, 0, none⟩)] 61)) Try.prog 3 (plainElem Try.prog 3)
    rw [s1] at this
    exact this.alloc _
  · have := hm.lt.2.2.2
    omega

set_option maxHeartbeats 2000000 in
theorem pclasses_any (vl : Value) (ls : List (List Rg)) (w : World) (hl : ls.length ≤ 12) (hll : ∀ l ∈ ls, l.length ≤ 12) (hs : SetsAt w vl ls) :
    Calls Try.prog 26 #[vl] w fun e w' => ∃ v cs, e = .returned v ∧ ClsAt w' w.heap.size v cs ∧ Part ls cs 1114112 ∧ Below w.heap.size w w' ∧ cs.length ≤ 2000000 := by
  have hmf : ∀ (fn : Fn) (first cap : Array Value) (w : World), (Instr.makeFunc fn first cap).run Try.prog w = .ok (.func fn first cap) w := fun _ _ _ _ => rfl
  have hmm := @run_makeMap Try.prog
  have HS : Hid (SetsAt w vl ls) := hs
  have HLL : Hid (∀ l ∈ ls, l.length ≤ 12) := hll
  obtain ⟨la, lc, rfl⟩ : ∃ a c, vl = .slice a ls.length c := by
    rcases hs with ⟨rfl, a, c, rfl⟩ | ⟨b, off, c, rfl, _⟩
    · exact ⟨a, c, rfl⟩
    · exact ⟨_, _, rfl⟩
  clear hs hll
  go_enter Try.func26, Try.ntmps26
  go_wp2_with fail
  refine (newMem_any ls.length _ hl).mono ?_
  rintro e w1 ⟨M, Dp, Nd, Mp, L, nodes, ps, rfl, hm, hgood, hleaf, hbd, hL1, hnL, hL16, hpl, b1, b2, b3, b4, hbel⟩
  have e0 : (w.alloc (.cells #[.slice none 0 0] 37)).heap.size = w.heap.size + 1 := by simp
  rw [e0] at b1 b2 b3 b4 hbel
  have HC : Hid (Cl (((w1.alloc (.cells #[.pointer (some ⟨M, 0, none⟩)] 61)).alloc (.map #[] 0)).alloc (.cells #[.map (some (w1.heap.size + 1))] 63)) w.heap.size M Dp Nd Mp ls.length L (w1.heap.size + 1 + 1) w1.heap.size w.heap.size (w1.heap.size + 1) (List.replicate ls.length 0) nodes ps (.slice none 0 0) [] []) := cl_start hm hbel
  have HG : Hid (Good ps nodes L) := hgood
  have HLF : Hid (∀ t, t < L → nodes.getD (L + t) 0 = 0) := hleaf
  have HBD : Hid (∀ j, j < 2 * L → -1000000 ≤ nodes.getD j 0 ∧ nodes.getD j 0 ≤ 1000000) := hbd
  have hbw1 : Below w.heap.size w w1 := ((Below.refl _ w).alloc (Nat.le_refl _) _).trans (hbel.mono (by omega))
  have hs1 := hbel.size
  rw [e0] at hs1
  clear hm hgood hleaf hbd hbel e0
  go_wp2_with fail
  have hbW : Below w.heap.size w (((w1.alloc (.cells #[.pointer (some ⟨M, 0, none⟩)] 61)).alloc (.map #[] 0)).alloc (.cells #[.map (some (w1.heap.size + 1))] 63)) := ((hbw1.alloc (by omega) _).alloc (by simp; omega) _).alloc (by simp; omega) _
  generalize ((w1.alloc (.cells #[.pointer (some ⟨M, 0, none⟩)] 61)).alloc (.map #[] 0)).alloc (.cells #[.map (some (w1.heap.size + 1))] 63) = W0 at *
  have hlE := gen_len ls 0 12 HLL.out
  have hlE2 : (gen 0 ls).length ≤ 288 := by
    have : ls.length * (2 * 12) ≤ 12 * 24 := by omega
    omega
  have hgb : ∀ {E : List Eg}, E.Perm (gen 0 ls) → E.length ≤ 288 ∧ ∀ e ∈ E, 0 ≤ e.2.1 ∧ e.2.1 < ls.length ∧ (e.2.2 = 1 ∨ e.2.2 = -1) := fun {E} hp => by
    refine ⟨by rw [hp.length_eq]; exact hlE2, fun e he => ?_⟩
    have := gen_bd ls 0 e (hp.mem_iff.1 he)
    simp at this
    exact ⟨this.2.2.1, this.2.2.2.1, this.2.2.2.2⟩
  refine (stretch_gen M w.heap.size w1.heap.size (w1.heap.size + 1 + 1) (.slice la ls.length lc) ls W0 (fun E W A fr => ∃ nodes ps v cs rs, CI ls w W0.heap.size M Dp Nd Mp L (w1.heap.size + 1 + 1) w1.heap.size w.heap.size (w1.heap.size + 1) W A fr nodes ps v cs rs) (by omega) (fun l h => by have := HLL.out l h; omega) (HS.out.belowC hbW) (by omega) ?_ ?_ ?_ ?_ ?_).mono ?_
  · intro E w2 hp ha hb
    refine ⟨nodes, ps, .slice none 0 0, [], [], ?_⟩
    have hB := but_below hb
    refine ⟨?_, HG.out, fun t ht => ?_, HBD.out, by simp; omega, by simp, part_nil ls, by simp, hbW.trans (hb.mono hbW.size), hb.size, by omega⟩
    · rw [dsOf_nil]
      exact HC.out.turned (hB.mono (by simp)) (HC.out.mem.but hB (by simp) (by simp) (by simp) (by simp))
    · rw [HLF.out t ht]
      have e9 : sumS [] (t : Int) = 0 := rfl
      rw [e9]
      split <;> omega
  · rintro E W A fr o ⟨nodes, ps, v, cs, rs, h⟩
    exact ⟨nodes, ps, v, cs, rs, h.alloc o⟩
  · rintro E W A fr ⟨nodes, ps, v, cs, rs, h⟩
    exact h.size
  · rintro E W A B e fr hp hE hef ⟨nodes, ps, v, cs, rs, h⟩
    obtain ⟨g1, g2⟩ := hgb hp
    have he := g2 e (by rw [hE]; simp)
    have hal : A.length ≤ E.length := by rw [hE]; simp
    refine (ci_turn h hnL hL16 (by omega) (by omega) (by omega) (by omega) (fun x hx => (g2 x (by rw [hE]; simp [hx])).2.2) e he.1 he.2.1 he.2.2).mono ?_
    rintro r W' ⟨rfl, ⟨nodes', ps', h'⟩, hF⟩
    exact ⟨rfl, ⟨nodes', ps', v, cs, rs, h'⟩, keeps_of_fr hF⟩
  · rintro E W A B lo hi hp hE hA hB h0 hlh hi1 ⟨nodes, ps, v, cs, rs, h⟩
    refine (ci_take h hL1 hnL (by omega) (by omega) E B hi hp hE hA hB h0 hlh hi1).mono ?_
    rintro r W' ⟨rfl, ⟨v', cs', rs', h'⟩, hF⟩
    exact ⟨rfl, ⟨nodes, ps, v', cs', rs', h'⟩, keeps_of_fr hF⟩
  · rintro e w2 ⟨rfl, E, hp, nodes2, ps2, v2, cs2, rs2, h2⟩
    have cC : w2.cell? ⟨w.heap.size, 0, none⟩ = some v2 := by simp [World.cell?, h2.cl.hC]
    obtain ⟨a2, c2, rfl⟩ := cls_slice h2.cl.cls
    have H2 : Hid (ClsAt w2 w.heap.size (.slice a2 cs2.length c2) cs2 ∧ Part ls cs2 1114112 ∧ Below w.heap.size w w2 ∧ cs2.length ≤ 2000000) := ⟨h2.cl.cls, h2.part, h2.bel, by have := h2.num; omega⟩
    have hs2 := h2.bel.size
    have hs3 := h2.size
    have hs4 := hbW.size
    have hlt2 : w.heap.size < w2.heap.size := (Array.getElem?_eq_some_iff.1 h2.cl.hC).1
    clear h2 HC HG HLF HBD hbW hgb hmm hmf
    go_wp2
    go_ret
    exact ⟨_, cs2, rfl, H2.out⟩

end Go.Proofs.Ytbiiapdeincpbaa
