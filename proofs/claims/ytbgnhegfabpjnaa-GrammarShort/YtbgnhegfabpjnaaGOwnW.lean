/- The program: the productions of each name, the walk. -/
import Derived.Test.YtbgnhegfabpjnaaGOwn
namespace Go.Proofs.Ytbgnhegfabpjnaa
open Go.RowKit
set_option linter.unusedVariables false
set_option maxRecDepth 100000

set_option maxHeartbeats 8000000 in
theorem ownProds_any (t s : Int) (N : Nat) (ps : List PdR) (ls ss : List Int) (pv lv sv : Value) (w : World) (hN : N ≤ 300) (hps : ps.length ≤ 400) (hok : ∀ m, m < ps.length → 0 ≤ (ps.getD m noPd).left ∧ (ps.getD m noPd).left < N) (h : PdsM w pv ps) :
    Calls Try.prog 19 #[gv ⟨t, N, s, ps, ls, ss⟩ pv lv sv] w fun e w' => e = .returned (.slice (some ⟨w.heap.size + 1, 0, none⟩) N N) ∧ OwnD w' (w.heap.size + 1) N (ownL ps) ∧ Below w.heap.size w w' := by
  obtain ⟨i0, hi0, hz0, hz1, hz2⟩ := infoParts Try.infoProd
  have hB0 := boxG_below w ⟨t, N, s, ps, ls, ss⟩ pv lv sv
  have hB1 := boxG_size w ⟨t, N, s, ps, ls, ss⟩ pv lv sv
  have hB2 := boxG_box w ⟨t, N, s, ps, ls, ss⟩ pv lv sv
  obtain ⟨pa, pc, rfl⟩ := h.slice
  have HP : Hid (PdsM w (.slice pa ps.length pc) ps) := h
  have HOK : Hid (∀ m, m < ps.length → 0 ≤ (ps.getD m noPd).left ∧ (ps.getD m noPd).left < N) := hok
  clear h hok
  have hmk := makeProds N (by omega) (boxG w ⟨t, N, s, ps, ls, ss⟩ (.slice pa ps.length pc) lv sv)
  have hA0 := alloc_below (boxG w ⟨t, N, s, ps, ls, ss⟩ (.slice pa ps.length pc) lv sv) (.cells (Array.replicate N (Value.slice none 0 0)) 22)
  have HI0 : Hid (OpI w ((boxG w ⟨t, N, s, ps, ls, ss⟩ (.slice pa ps.length pc) lv sv).alloc (.cells (Array.replicate N (Value.slice none 0 0)) 22)) (w.heap.size + 1) N ps 0 (List.replicate N (Value.slice none 0 0)) (fun _ => [])) := by
    have hg : ∀ n, n < N → (List.replicate N (Value.slice none 0 0)).getD n .nilFunc = .slice none 0 0 := fun n hn => by simp [List.getD, hn]
    refine ⟨?_, by simp, fun n hn => ?_, fun n m hn hm hnm b hb => ?_, fun n hn => by simp [ownL], fun n hn q hq => by simp at hq⟩
    · show ((boxG w _ _ lv sv).heap.push _)[w.heap.size + 1]? = some (.cells (List.replicate N (Value.slice none 0 0)).toArray 22 (0, 0))
      rw [List.toArray_replicate, ← hB1]
      exact Array.getElem?_push_size
    · rw [hg n hn]; exact ⟨rfl, .inl ⟨rfl, rfl⟩⟩
    · rw [hg n hn] at hb; simp [Value.ownBlock] at hb
  rw [hB1] at hmk hA0
  unfold boxG gvs at hB0 hB1 hB2 hmk hA0 HI0
  unfold gv gvs
  simp only at *
  obtain ⟨q0, q1, q2, q3, q4, q5, q6⟩ := hB2
  have HBX : Hid (BoxG (w.alloc (.cells #[.int .i64 t, .int .i64 N, .int .i64 s, .slice pa ps.length pc, lv, sv] 25)) w.heap.size ⟨t, N, s, ps, ls, ss⟩ (.slice pa ps.length pc) lv sv) := ⟨q0, q1, q2, q3, q4, q5, q6⟩
  simp only at q0 q1 q2 q3 q4 q5 q6
  go_enter Try.func19, Try.ntmps19
  go_wp2
  clear q0 q1 q2 q3 q4 q5 q6 HBX
  clear hmk
  generalize w.alloc (.cells #[.int .i64 t, .int .i64 N, .int .i64 s, .slice pa ps.length pc, lv, sv] 25) = w0 at *
  have hb1 : Below w.heap.size w (w0.alloc (.cells (Array.replicate N (Value.slice none 0 0)) 22)) := hB0.trans (hA0.mono (Nat.le_succ _))
  generalize w0.alloc (.cells (Array.replicate N (Value.slice none 0 0)) 22) = w1 at *
  clear hA0 hB0 hB1
  go_loopw [12] (fun i wr => ∃ (k : Nat) (vs : List Value) (zs : Nat → List (PdR × Value)), k ≤ ps.length ∧ i = .int .i64 k ∧ Hid (OpI w wr (w.heap.size + 1) N ps k vs zs) ∧ Below w.heap.size w wr) (fun i _ => ps.length - (intOf i).toNat)
  case atStart => exact ⟨0, _, _, Nat.zero_le _, rfl, HI0, hb1⟩
  case round =>
    clear HI0 hb1
    obtain ⟨k, vs, zs, hk, rfl, HI, hbw⟩ := hrel
    by_cases hlt : k < ps.length
    · obtain ⟨b, off, rv, rfl, hb, hpd⟩ := HP.out.at hlt
      have hpd2 := hpd.below hb hbw
      obtain ⟨hl0, hl1⟩ := HOK.out k hlt
      have HR : Hid (IntsR w rv (ps.getD k noPd).right) := hpd.right
      obtain ⟨lf, hlf⟩ : ∃ lf : Nat, (ps.getD k noPd).left = (lf : Int) := ⟨(ps.getD k noPd).left.toNat, by omega⟩
      have hlN : lf < N := by omega
      have hzl := HI.out.zlen hlN
      obtain ⟨va, vc, hv⟩ : ∃ va vc, vs.getD lf .nilFunc = .slice va (zs lf).length vc := by
        rcases (HI.out.own lf hlN).2 with ⟨e, h0⟩ | ⟨g, cap, cur, e, _⟩
        · exact ⟨none, 0, by rw [e, h0]⟩
        · exact ⟨_, _, e⟩
      have HST : Hid (∀ w3 o w5 g cap, Below wr.heap.size wr w3 → w5.ownsRow (w.heap.size + 1 + 1) 33 3 (.slice (some ⟨g, 0, none⟩) ((zs lf).length + 1) cap) ((zs lf).length + 1) (zcs (zs lf) ++ [.int .i64 (lf : Int), rv, .int .i64 (ps.getD k noPd).level]) → (w3.alloc o).grownBy w5 (Value.slice va (zs lf).length vc).ownBlock → ((Value.slice va (zs lf).length vc).ownBlock = some g ∨ g = w3.heap.size + 1) →
          w5.cell? ⟨w.heap.size + 1, lf, none⟩ = some (.slice va (zs lf).length vc) ∧ w5.frozen? ⟨w.heap.size + 1, lf, none⟩ = false ∧ w.heap.size + 1 < w5.heap.size ∧ OpI w (w5.setCell ⟨w.heap.size + 1, lf, none⟩ (.slice (some ⟨g, 0, none⟩) ((zs lf).length + 1) cap)) (w.heap.size + 1) N ps (k + 1) (vs.set lf (.slice (some ⟨g, 0, none⟩) ((zs lf).length + 1) cap)) (fun n => if n = lf then zs lf ++ [(ps.getD k noPd, rv)] else zs n) ∧ Below w.heap.size w (w5.setCell ⟨w.heap.size + 1, lf, none⟩ (.slice (some ⟨g, 0, none⟩) ((zs lf).length + 1) cap))) := by
        intro w3 o w5 g cap h3 ho hg hat
        have hI3 := HI.out.below h3
        have hs5 : w3.heap.size + 1 ≤ w5.heap.size := by have := hg.size; simpa using this
        have hol := (hI3.own lf hlN).lt
        rw [hv] at hol
        have hDl := hI3.row.lt
        have hbl : ∀ b, b < w3.heap.size → (Value.slice va (zs lf).length vc).ownBlock ≠ some b → w5.heap[b]? = w3.heap[b]? := fun b hb hne => (hg.block b (by simp; omega) (fun e => hne e.symm)).trans (Below.heap_alloc w3 o b hb)
        have hrow : RowV w5 (w.heap.size + 1) 22 vs := (hbl _ hDl (fun e => by have := hol _ e; omega)).trans hI3.row
        refine ⟨?_, hrow.fz lf, hrow.lt, ?_, ?_⟩
        · rw [hrow.cell, ← hv]
          have := hI3.len
          simp [List.getD, show lf < vs.length by omega]
        · refine hI3.step (o := o) hlt hlN hlf HR.out (by rw [hlf]; exact ho) (by rw [hv]; exact hg) (by rw [hv]; exact hat)
        · have h4 := hbw.trans (h3.mono hbw.size)
          refine ⟨?_, ?_, ?_, by simp; have := h4.size; omega, fun c hc => ?_⟩
          · exact hg.os.trans h4.os
          · simpa using hg.tape.trans h4.tape
          · exact hg.output.trans h4.output
          · rw [Below.heap_setCell _ _ _ _ (by simp; omega), hbl c (by have := h4.size; omega) (fun e => by have := hol _ e; omega)]
            exact h4.block c hc
      have HOW : Hid (∀ w3, Below wr.heap.size wr w3 → w3.ownsRow (w.heap.size + 1 + 1) 33 3 (.slice va (zs lf).length vc) (zs lf).length (zcs (zs lf)) ∧ w3.cell? ⟨w.heap.size + 1, lf, none⟩ = some (.slice va (zs lf).length vc) ∧ w.heap.size + 1 < w3.heap.size) := fun w3 h3 => by
        have hI3 := HI.out.below h3
        refine ⟨by rw [← hv]; exact hI3.own lf hlN, ?_, hI3.row.lt⟩
        rw [hI3.row.cell, ← hv]
        have := hI3.len
        simp [List.getD, show lf < vs.length by omega]
      obtain ⟨c0, c1, c2, _⟩ := hpd2
      obtain ⟨ra, rc, hra⟩ := hpd.right.slice
      subst hra
      rw [hlf] at c0
      clear hpd HI hl0 hl1
      have hbr : b < wr.heap.size := Nat.lt_of_lt_of_le hb hbw.size
      generalize (ps.getD k noPd).level = lev at *
      generalize (ps.getD k noPd).right.length = rl at *
      generalize zs lf = z at *
      rename World => wo
      go_wp2_with fail
      clear c0 c1 c2
      have hA := alloc_below wo (.cells #[.int .i64 (lf : Int), .slice ra rl rc, .int .i64 lev] 33)
      have hAs := alloc_size wo (.cells #[.int .i64 (lf : Int), .slice ra rl rc, .int .i64 lev] 33)
      obtain ⟨f0, f1, f2⟩ := box3_cells wo (.int .i64 (lf : Int)) (.slice ra rl rc) (.int .i64 lev) 33
      generalize wo.alloc (.cells #[.int .i64 (lf : Int), .slice ra rl rc, .int .i64 lev] 33) = w3 at *
      have hdr : Below wo.heap.size wo w3.drew := hA.trans ⟨rfl, rfl, rfl, Nat.le_refl _, fun _ _ => rfl⟩
      obtain ⟨ow1, ow2, ow3⟩ := HOW.out w3.drew hdr
      have hsz3 : wo.heap.size < w3.heap.size := by omega
      have HOW2 : Hid (∀ o, (w3.drew.alloc o).ownsRow (w.heap.size + 1 + 1) 33 3 (.slice va z.length vc) z.length (zcs z)) := fun o => World.ownsRow.alloc ow1 o
      have hlow : w.heap.size + 1 + 1 ≤ w3.heap.size := ow3
      have c4 : w3.cell? ⟨w.heap.size + 1, lf, none⟩ = some (.slice va z.length vc) := ow2
      have HBOX : Hid (∀ o w5, (w3.drew.alloc o).grownBy w5 (Value.slice va z.length vc).ownBlock → w5.cell? ⟨wo.heap.size, 0, none⟩ = some (.int .i64 (lf : Int)) ∧ wo.heap.size < w5.heap.size) := fun o w5 hg => by
        have hne : (Value.slice va z.length vc).ownBlock ≠ some wo.heap.size := fun e => by
          have := ((HOW.out wo (Below.refl _ _)).1.lt _ e).2
          omega
        have hb5 : w5.heap[wo.heap.size]? = w3.heap[wo.heap.size]? := (hg.block wo.heap.size (by simp; omega) (fun e => hne e.symm)).trans (Below.heap_alloc w3.drew o wo.heap.size hsz3)
        refine ⟨?_, Nat.lt_of_lt_of_le (show wo.heap.size < (w3.drew.alloc o).heap.size by simp; omega) hg.size⟩
        simp only [World.cell?] at f0 ⊢
        rw [hb5]; exact f0
      have HST2 : Hid (∀ o w5 g cap, w5.ownsRow (w.heap.size + 1 + 1) 33 3 (.slice (some ⟨g, 0, none⟩) (z.length + 1) cap) (z.length + 1) (zcs z ++ [.int .i64 (lf : Int), .slice ra rl rc, .int .i64 lev]) → (w3.drew.alloc o).grownBy w5 (Value.slice va z.length vc).ownBlock → ((Value.slice va z.length vc).ownBlock = some g ∨ g = w3.heap.size + 1) → _) := fun o w5 g cap h1 h2 h3 => HST.out w3.drew o w5 g cap hdr h1 h2 h3
      have hlt3 : w.heap.size + 1 < w3.heap.size := ow3
      have hne5 : w.heap.size + 1 < wo.heap.size := (HOW.out wo (Below.refl _ _)).2.2
      clear ow1 ow2 ow3 HOW HST hA hdr hAs
      go_region_law (refine step_append_lies _ rfl _ _ 22 rfl (w.heap.size + 1 + 1) 33 i0 (.agg #[.int .i64 0, .slice none 0 0, .int .i64 0]) 3 40 Try.underlying22 hi0 hz0 hz1 hz2 rfl (by decide) (.slice va z.length vc) z.length (zcs z) rfl (HOW2.out _) ⟨w3.heap.size, 0, none⟩ 1 1 [.int .i64 (lf : Int), .slice ra rl rc, .int .i64 lev] rfl rfl (World.news_of_block (heap_alloc_new w3.drew _)) (by intro x hx; simp at hx; rcases hx with rfl | rfl | rfl <;> rfl) (by omega) (by unfold maxLen; omega) (by omega) (by simp; omega) (w3.heap.size + 1) (by simp) ?_; intro g9 cap9 w9 hown9 hg9 hat9 hlt9; have q := HST2.out _ w9 g9 cap9 hown9 hg9 hat9; obtain ⟨q1, q2, q3, q4, q5⟩ := q; have q := HBOX.out _ w9 hg9; obtain ⟨q6, q7⟩ := q)
      all_goals
        have Q4 : Hid (OpI w (w9.setCell ⟨w.heap.size + 1, lf, none⟩ (.slice (some ⟨g9, 0, none⟩) (z.length + 1) cap9)) (w.heap.size + 1) N ps (k + 1) (vs.set lf (.slice (some ⟨g9, 0, none⟩) (z.length + 1) cap9)) (fun n => if n = lf then z ++ [(ps.getD k noPd, .slice ra rl rc)] else zs n)) := q4
        clear q4 hown9 hg9 hat9 hlt9 HST2 HBOX HOW2
        go_wp2
        go_roundw
        case rel => exact ⟨k + 1, _, _, by omega, by go_num, Q4, q5⟩
        case measure => simp [intOf]; omega
    · obtain rfl : k = ps.length := by omega
      have HE : Hid (OwnD wr (w.heap.size + 1) N (ownL ps)) := HI.out.done (k := 0) hbw
      clear HI
      go_wp2
      go_ret
      exact ⟨rfl, HE.out, hbw⟩

end Go.Proofs.Ytbgnhegfabpjnaa
