/- Texts of the proof, put together: VPatB. -/
import Derived.Test.YtbjohedenfindaaGreatDoorPw31
namespace Go.Proofs.YtbjohedenfindaaGreatDoor
open Go.RowKit
set_option linter.unusedVariables false
set_option maxRecDepth 100000

/-- a kid as it lies in memory -/
def kidV (n : Nat) (vs : List Value) (k : Int) : Value := if k < 0 ∨ (n : Int) ≤ k then .pointer none else vs.getD k.toNat .nilFunc
theorem own_cell {w : World} {B g cap n : Nat} {vs : List Value} (h : w.ownsRow B 22 1 (.slice (some ⟨g, 0, none⟩) n cap) n vs) {j : Nat} (hj : j < n) : w.cell? ⟨g, j, none⟩ = some (vs.getD j .nilFunc) := by
  have hl : vs.length = n := by have := h.1; simpa using this
  have hc := h.cells (g := g) rfl j (vs.getD j .nilFunc) (by rw [List.getD_eq_getElem?_getD, List.getElem?_eq_getElem (by omega)]; rfl)
  have hadd : (⟨g, 0, none⟩ : Addr).add j = ⟨g, 0 + j, none⟩ := by unfold Addr.add; split <;> simp_all
  rw [hadd, Nat.zero_add] at hc
  exact hc

theorem mk_tree {S Q B : Nat} {w0 w : World} {p : PartP} {sv kv av : Value} {us vs : List Value} {A : List Re} (hN : NdI S Q w0 w p sv kv p.kids.length us) (hS : S = w0.heap.size) (hB : B ≤ S) (hav : ∀ b, av.ownBlock = some b → b < S) (hvs : vs.length = A.length)
    (hall : ∀ j, j < A.length → ∃ t, A[j]? = some t ∧ Tree (fun b => B ≤ b ∧ av.ownBlock ≠ some b) w0 (vs.getD j .nilFunc) t) (hus : us = p.kids.map (kidV A.length vs)) :
    Tree (fun b => B ≤ b ∧ av.ownBlock ≠ some b) w (.pointer (some ⟨Q, 0, none⟩)) (mkRe A p) := by
  obtain ⟨n, hn⟩ := fuel_all A vs hvs hall
  obtain ⟨hq1, hq2⟩ := hN.q
  have hnew : ∀ b, S ≤ b → B ≤ b ∧ av.ownBlock ≠ some b := fun b hb => ⟨by omega, fun e => by have := hav b e; omega⟩
  have hbel := hN.bel
  refine ⟨n + 1, Q, sv, kv, rfl, hnew Q hq1, hN.blk, hN.set.moved (Nat.le_refl _) fun b _ hok => ⟨hnew b hok.1, rfl⟩, ?_⟩
  have hkl : (mkRe A p).kids = p.kids.map (kidO A) := rfl
  rw [hkl]
  by_cases h0 : p.kids.length = 0
  · have e : p.kids = [] := List.eq_nil_of_length_eq_zero h0
    obtain ⟨a, c, hk⟩ := hN.slice
    exact .inl ⟨by rw [e]; rfl, a, c, by rw [hk, h0]⟩
  · obtain ⟨g, cap, hk, hg1, hg2⟩ := hN.own.form (by omega)
    subst hk
    refine .inr ⟨g, 0, cap, by rw [List.length_map], hg2, hnew g (by omega), fun j hj => ?_⟩
    rw [List.length_map] at hj
    refine ⟨us.getD j .nilFunc, by rw [Nat.zero_add]; exact own_cell hN.own hj, ?_⟩
    have e1 : us.getD j .nilFunc = kidV A.length vs (p.kids.getD j 0) := by rw [hus]; simp [hj]
    have e2 : (p.kids.map (kidO A)).getD j none = kidO A (p.kids.getD j 0) := by simp [hj]
    rw [e1, e2]
    generalize p.kids.getD j 0 = k
    unfold kidV kidO
    by_cases hr : k < 0 ∨ (A.length : Int) ≤ k
    · rw [if_pos hr, if_pos hr]
    · rw [if_neg hr, if_neg hr]
      obtain ⟨t, ht, hT⟩ := hn k.toNat (by omega)
      rw [ht]
      exact hT.moved (by rw [← hS] ; exact Nat.le_trans (by omega) (Nat.le_of_lt hq2)) fun b hb hok => ⟨hok, hbel.block b (by omega)⟩

/-- what is kept between two parts -/
def PatI (w0 : World) (ps : List PartP) (wr : World) (i : Nat) (av : Value) : Prop := PtrsOwn wr w0.heap.size av (allRe (ps.take i)) ∧ Below w0.heap.size w0 wr
theorem PatI.slice {w0 wr : World} {ps : List PartP} {i : Nat} {av : Value} (h : PatI w0 ps wr i av) (hi : i ≤ ps.length) : ∃ a c, av = .slice a i c := by
  obtain ⟨a, c, e⟩ := ptrs_slice h.1
  have : (allRe (ps.take i)).length = i := by rw [allRe_len, List.length_take]; omega
  rw [this] at e
  exact ⟨a, c, e⟩

set_option maxHeartbeats 8000000 in
theorem plpattern_row {w : World} {ps : List PartP} {b off c : Nat} (hb : b < w.heap.size) (hn : ps.length ≤ 2000) (hne : ps ≠ []) (hsz : ∀ j, j < ps.length → (ps.getD j noPart).set.length ≤ 12 ∧ (ps.getD j noPart).kids.length ≤ 1048576) (hc : ∀ j, j < ps.length → ∃ sv kv, PartR w b (off + j * 5) (ps.getD j noPart) sv kv) :
    Calls Tryz.prog 11 #[.slice (some ⟨b, off, none⟩) ps.length c] w fun e w' => ∃ q, e = .returned (.pointer (some ⟨q, 0, none⟩)) ∧ Below w.heap.size w w' ∧ Tree (fun b => w.heap.size ≤ b) w' (.pointer (some ⟨q, 0, none⟩)) ((allRe ps).getD (ps.length - 1) ⟨0, [], 0, 0, []⟩) := by
  obtain ⟨i1, hj0, hj1, hj2, hj3⟩ := info_parts Tryz.infoPRe
  have HP : Hid (∀ j, j < ps.length → ∃ sv kv, PartR w b (off + j * 5) (ps.getD j noPart) sv kv) := hc
  have HZ : Hid (∀ j, j < ps.length → (ps.getD j noPart).set.length ≤ 12 ∧ (ps.getD j noPart).kids.length ≤ 1048576) := hsz
  have hlen : 0 < ps.length := by
    rcases Nat.eq_zero_or_pos ps.length with h | h
    · exact (hne (List.eq_nil_of_length_eq_zero h)).elim
    · exact h
  clear hc hsz hne
  go_enter Tryz.func11, Tryz.ntmps11
  go_wp2
  go_loopw [3, 11] (fun av iv wr => ∃ (i : Nat), i ≤ ps.length ∧ iv = .int .i64 i ∧ Hid (PatI w ps wr i av)) (fun _ iv _ => ps.length - (intOf iv).toNat)
  case atStart => exact ⟨0, Nat.zero_le _, rfl, ⟨[], rfl, ⟨rfl, .inl ⟨rfl, rfl⟩⟩, fun j hj => by simp [allRe] at hj⟩, Below.refl _ _⟩
  case round =>
    rename World => wo
    obtain ⟨i, hi, rfl, HI⟩ := hrel
    obtain ⟨aa, ac, rfl⟩ := HI.out.slice hi
    by_cases hlt : i < ps.length
    · obtain ⟨sv, kv, hp⟩ := HP.out i hlt
      have hbw := HI.out.2
      have hszw := hbw.size
      obtain ⟨c0, c1, c2, c3, c4, hs, hk⟩ := hp.below hb hbw
      obtain ⟨hz12, hzk⟩ := HZ.out i hlt
      obtain ⟨sa, sc, rfl⟩ := rngs_slice hs
      obtain ⟨ka, kc, rfl, hk2⟩ := hk
      have HA : Hid (allRe (ps.take (i + 1)) = allRe (ps.take i) ++ [mkRe (allRe (ps.take i)) (ps.getD i noPart)]) := allRe_take ps i hlt
      have HAL : Hid ((allRe (ps.take i)).length = i) := by show _ = _; rw [allRe_len, List.length_take]; omega
      generalize ps.getD i noPart = p at *
      generalize hAe : allRe (ps.take i) = A at *
      have HPO : Hid (PtrsOwn wo w.heap.size (.slice aa i ac) A) := by have := HI.out.1; rw [hAe] at this; exact this
      obtain ⟨vs, hvl, hvo, hva⟩ := HPO.out
      have HVO : Hid (wo.ownsRow w.heap.size 22 1 (.slice aa i ac) i vs) := by have := HAL.out; show wo.ownsRow _ _ _ _ _ _; rw [show i = vs.length by omega]; rw [show i = vs.length by omega] at hvo; exact hvo
      have HVA : Hid (∀ j, j < A.length → ∃ t, A[j]? = some t ∧ Tree (fun b => w.heap.size ≤ b ∧ (Value.slice aa i ac).ownBlock ≠ some b) wo (vs.getD j .nilFunc) t) := hva
      have HVL : Hid (vs.length = A.length) := hvl
      clear hAe hp hvo hva hvl
      go_wp2
      have hP := heap_alloc_new wo (.cells #[.int .i64 p.kind, .int .i64 p.mn, .int .i64 p.mx, .slice sa p.set.length sc, .slice ka p.kids.length kc] 36)
      have hbA : Below wo.heap.size wo (wo.alloc (.cells #[.int .i64 p.kind, .int .i64 p.mn, .int .i64 p.mx, .slice sa p.set.length sc, .slice ka p.kids.length kc] 36)) := below_allocU _ _
      have hsA : (wo.alloc (.cells #[.int .i64 p.kind, .int .i64 p.mn, .int .i64 p.mx, .slice sa p.set.length sc, .slice ka p.kids.length kc] 36)).heap.size = wo.heap.size + 1 := by simp
      generalize wo.alloc (.cells #[.int .i64 p.kind, .int .i64 p.mn, .int .i64 p.mx, .slice sa p.set.length sc, .slice ka p.kids.length kc] 36) = w1 at *
      have f0 : w1.cell? ⟨wo.heap.size, 0, none⟩ = some (.int .i64 p.kind) := by simp [World.cell?, hP]
      have f1 : w1.cell? ⟨wo.heap.size, 1, none⟩ = some (.int .i64 p.mn) := by simp [World.cell?, hP]
      have f2 : w1.cell? ⟨wo.heap.size, 2, none⟩ = some (.int .i64 p.mx) := by simp [World.cell?, hP]
      have f3 : w1.cell? ⟨wo.heap.size, 3, none⟩ = some (.slice sa p.set.length sc) := by simp [World.cell?, hP]
      have HSet : Hid (Rngs w1.drew (.slice sa p.set.length sc) p.set) := (hs.below hbA).below ⟨rfl, rfl, rfl, Nat.le_refl _, fun _ _ => rfl⟩
      have HF5 : Hid (∀ w5, w1.drew.grownBy w5 none → w5.cell? ⟨wo.heap.size, 0, none⟩ = some (.int .i64 p.kind) ∧ w5.cell? ⟨wo.heap.size, 1, none⟩ = some (.int .i64 p.mn) ∧ w5.cell? ⟨wo.heap.size, 2, none⟩ = some (.int .i64 p.mx) ∧ w5.cell? ⟨wo.heap.size, 3, none⟩ = some (.slice sa p.set.length sc)) := fun w5 hg => by
        have hb5 := (hg.block wo.heap.size (by show _ < w1.heap.size; omega) (by simp)).trans hP
        refine ⟨?_, ?_, ?_, ?_⟩ <;> simp [World.cell?, hb5]
      have HST : Hid (∀ w5 sa5 c5, RowR (fun b => w1.drew.heap.size ≤ b ∧ b < w5.heap.size) w5 (.slice sa5 p.set.length c5) p.set → w1.drew.grownBy w5 none → NdI wo.heap.size w5.heap.size wo (w5.alloc (.cells #[.int .i64 p.kind, .slice sa5 p.set.length c5, .int .i64 p.mn, .int .i64 p.mx, .slice none 0 0] 48)) p (.slice sa5 p.set.length c5) (.slice none 0 0) 0 [] ∧ (w5.alloc (.cells #[.int .i64 p.kind, .slice sa5 p.set.length c5, .int .i64 p.mn, .int .i64 p.mx, .slice none 0 0] 48)).cell? ⟨wo.heap.size, 4, none⟩ = some (.slice ka p.kids.length kc)) := fun w5 sa5 c5 hrow hg => by
        have hs1 : w1.heap.size ≤ w5.heap.size := hg.size
        have hbl : ∀ b, b < w1.heap.size → w5.heap[b]? = w1.heap[b]? := fun b hb => hg.block b hb (by simp)
        have hbB : Below wo.heap.size wo w5 := ⟨hg.os.trans hbA.os, hg.tape.trans hbA.tape, hg.output.trans hbA.output, by omega, fun b hb => (hbl b (by omega)).trans (hbA.block b hb)⟩
        refine ⟨NdI.start hbB (by omega) (hrow.moved (Nat.le_refl _) fun b _ hok => ⟨⟨?_, hok.2⟩, rfl⟩), ?_⟩
        · have h1 : w1.heap.size ≤ b := hok.1
          omega
        · have e := (Below.heap_alloc w5 (.cells #[.int .i64 p.kind, .slice sa5 p.set.length c5, .int .i64 p.mn, .int .i64 p.mx, .slice none 0 0] 48) wo.heap.size (by omega)).trans ((hbl wo.heap.size (by omega)).trans hP)
          simp [World.cell?, e]
      clear hs hP hbA hsA c0 c1 c2 c3 c4
      go_region_held3 (fun w' => w'.cell? ⟨wo.heap.size, 0, none⟩ = some (.int .i64 p.kind) ∧ w'.cell? ⟨wo.heap.size, 1, none⟩ = some (.int .i64 p.mn) ∧ w'.cell? ⟨wo.heap.size, 2, none⟩ = some (.int .i64 p.mx) ∧ w'.cell? ⟨wo.heap.size, 3, none⟩ = some (.slice sa p.set.length sc)) (go_keep) ((refine step_append_rngs rfl _ _ rfl sa p.set.length sc p.set rfl (by omega) rfl rfl HSet.out ?_; intro sa5 c5 w5 hrow5 hg5; have q := HF5.out w5 hg5; obtain ⟨q0, q1, q2, q3⟩ := q))
      all_goals
        obtain ⟨hN0, h4⟩ := HST.out w5 sa5 c5 hrow5 hg5
        generalize w5.alloc (.cells #[.int .i64 p.kind, .slice sa5 p.set.length c5, .int .i64 p.mn, .int .i64 p.mx, .slice none 0 0] 48) = w6 at *
        generalize w5.heap.size = Q at *
        have HN0 : Hid (NdI wo.heap.size Q wo w6 p (.slice sa5 p.set.length c5) (.slice none 0 0) 0 []) := hN0
        clear hN0 HST HF5 HSet hrow5 hg5 q0 q1 q2 q3 f0 f1 f2 f3
        go_wp2
        go_loopw [29] (fun kx wr2 => ∃ (k : Nat) (kv : Value) (us : List Value), k ≤ p.kids.length ∧ kx = .int .i64 k ∧ Hid (NdI wo.heap.size Q wo wr2 p (.slice sa5 p.set.length c5) kv k us) ∧ Hid (us = (p.kids.take k).map (kidV i vs))) (fun kx _ => p.kids.length - (intOf kx).toNat)
        case atStart => exact ⟨0, _, [], Nat.zero_le _, rfl, HN0, rfl⟩
        case round =>
          obtain ⟨k, kv, us, hk, rfl, HN, HU⟩ := hrel
          obtain ⟨va, vc, rfl⟩ := HN.out.slice
          have hq1 := HN.out.q.1
          have hq2 := HN.out.q.2
          have d4 := HN.out.cell4
          by_cases hkt : k < p.kids.length
          · obtain ⟨kg, koff, rfl, hkg, hkc⟩ : ∃ kg koff, ka = some ⟨kg, koff, none⟩ ∧ kg < wo.heap.size ∧ ∀ j, j < p.kids.length → wo.cell? ⟨kg, koff + j, none⟩ = some (.int .i64 (p.kids.getD j 0)) := by
              rcases hk2 with h | h
              · rw [h] at hkt; simp at hkt
              · exact h
            have ck := (HN.out.bel.cell (p := ⟨kg, koff + k, none⟩) hkg).trans (hkc k hkt)
            have HT : Hid ((p.kids.take (k + 1)).map (kidV i vs) = us ++ [kidV i vs (p.kids.getD k 0)]) := by
              show _ = _
              rw [List.take_succ_eq_append_getElem hkt, List.map_append, ← HU.out]
              simp [hkt]
            generalize p.kids.getD k 0 = x at *
            clear hkc hk2
            by_cases hx : x < 0 ∨ (i : Int) ≤ x
            · have HKV : Hid (kidV i vs x = .pointer none) := by show _ = _; unfold kidV; rw [if_pos hx]
              have hcs : x < 0 ∨ (¬ x < 0 ∧ x ≥ (i : Int)) := by omega
              clear hx
              rcases hcs with g1 | ⟨g1, g2⟩
              all_goals
                go_wp2_with (at_builtin; refine wpList_append_lies _ rfl _ _ 46 rfl (Q + 1) 22 i1 (.pointer none) 1 8 Tryz.underlying46 hj0 hj1 hj2 hj3 rfl (by decide) (.slice va k vc) k us rfl (World.ownsRow.alloc HN.out.own _) ⟨wr.heap.size, 0, none⟩ 1 1 [.pointer none] rfl rfl (cell_one_new wr _ _) (by intro x hx; simp at hx; subst hx; rfl) (by omega) (by unfold maxLen; omega) (by omega) (by simp; omega) (wr.heap.size + 1) (by simp) ?_)
                intro g9 cap9 w9 hown9 hg9 hat9 hlt9
                obtain ⟨q1, q2, q3, q4⟩ := HN.out.step hown9 hg9 hat9
                have Q4 : Hid (NdI wo.heap.size Q wo (w9.setCell ⟨Q, 4, none⟩ (.slice (some ⟨g9, 0, none⟩) (k + 1) cap9)) p (.slice sa5 p.set.length c5) (.slice (some ⟨g9, 0, none⟩) (k + 1) cap9) (k + 1) (us ++ [.pointer none])) := q4
                clear q4 hown9 hg9 hat9 hlt9 HN d4
                go_wp2
                go_roundw
                case rel => exact ⟨k + 1, _, _, by omega, by go_num, Q4, by show _ = _; rw [HT.out, HKV.out]⟩
                case measure => simp [intOf]; omega
            · have hx0 : 0 ≤ x := by omega
              have hxi : x < (i : Int) := by omega
              obtain ⟨xn, rfl⟩ : ∃ n : Nat, x = (n : Int) := ⟨x.toNat, by omega⟩
              have hxn : xn < i := by omega
              obtain ⟨ga, cap', e, hga1, hga2⟩ := HVO.out.form (by omega)
              simp only [Value.slice.injEq, true_and] at e
              obtain ⟨rfl, rfl⟩ := e
              have cx := (HN.out.bel.cell (p := ⟨ga, xn, none⟩) hga2).trans (own_cell HVO.out hxn)
              obtain ⟨tx, htx, hTx⟩ := HVA.out xn (by rw [HAL.out]; exact hxn)
              obtain ⟨vb, hvb, _⟩ := hTx.ptr
              have HKV : Hid (kidV i vs (xn : Int) = .pointer (some ⟨vb, 0, none⟩)) := by show _ = _; unfold kidV; rw [if_neg hx, Int.toNat_natCast, hvb]
              rw [hvb] at cx
              have HOW : Hid (∀ o, (wr.drew.alloc o).ownsRow (Q + 1) 22 1 (.slice va k vc) k us) := fun o => World.ownsRow.alloc (HN.out.own.kept (row := none) (w' := wr.drew) ⟨rfl, rfl, rfl, Nat.le_refl _, fun _ _ _ => rfl⟩ (by cases hq : (Value.slice va k vc).ownBlock <;> simp)) _
              have HSTP : Hid (∀ o w9 g9 cap9, w9.ownsRow (Q + 1) 22 1 (.slice (some ⟨g9, 0, none⟩) (k + 1) cap9) (k + 1) (us ++ [.pointer (some ⟨vb, 0, none⟩)]) → (wr.drew.alloc o).grownBy w9 (Value.slice va k vc).ownBlock → ((Value.slice va k vc).ownBlock = some g9 ∨ g9 = wr.heap.size + 1) →
                  w9.cell? ⟨Q, 4, none⟩ = some (.slice va k vc) ∧ w9.frozen? ⟨Q, 4, none⟩ = false ∧ Q < w9.heap.size ∧ NdI wo.heap.size Q wo (w9.setCell ⟨Q, 4, none⟩ (.slice (some ⟨g9, 0, none⟩) (k + 1) cap9)) p (.slice sa5 p.set.length c5) (.slice (some ⟨g9, 0, none⟩) (k + 1) cap9) (k + 1) (us ++ [.pointer (some ⟨vb, 0, none⟩)])) := fun o w9 g9 cap9 h1 h2 h3 => HN.out.step (o := o) h1 ⟨h2.os, h2.tape, h2.output, h2.size, h2.block⟩ h3
              clear hx hTx htx hvb HN
              go_wp2
              go_region_law (refine step_append_lies _ rfl _ _ 46 rfl (Q + 1) 22 i1 (.pointer none) 1 8 Tryz.underlying46 hj0 hj1 hj2 hj3 rfl (by decide) (.slice va k vc) k us rfl (HOW.out _) ⟨wr.heap.size, 0, none⟩ 1 1 [.pointer (some ⟨vb, 0, none⟩)] rfl rfl (cell_one_new wr.drew _ _) (by intro x hx; simp at hx; subst hx; rfl) (by omega) (by unfold maxLen; omega) (by omega) (by simp; omega) (wr.heap.size + 1) (by simp) ?_; intro g9 cap9 w9 hown9 hg9 hat9 hlt9; have q := HSTP.out _ w9 g9 cap9 hown9 hg9 hat9; obtain ⟨q1, q2, q3, q4⟩ := q)
              all_goals
                have Q4 : Hid (NdI wo.heap.size Q wo (w9.setCell ⟨Q, 4, none⟩ (.slice (some ⟨g9, 0, none⟩) (k + 1) cap9)) p (.slice sa5 p.set.length c5) (.slice (some ⟨g9, 0, none⟩) (k + 1) cap9) (k + 1) (us ++ [.pointer (some ⟨vb, 0, none⟩)])) := q4
                clear q4 hown9 hg9 hat9 hlt9 d4 HSTP HOW cx
                go_wp2
                go_roundw
                case rel => exact ⟨k + 1, _, _, by omega, by go_num, Q4, by show _ = _; rw [HT.out, HKV.out]⟩
                case measure => simp [intOf]; omega
          · obtain rfl : k = p.kids.length := by omega
            have hlt3 : ¬ (p.kids.length : Int) < (p.kids.length : Int) := by omega
            have HB2 : Hid (Below wo.heap.size wo wr) := HN.out.bel
            have hown2 : wr.ownsRow w.heap.size 22 1 (.slice aa i ac) i vs := HVO.out.kept (row := none) (grownBy_of_below HB2.out none) (by cases hq : (Value.slice aa i ac).ownBlock <;> simp)
            have HTR : Hid (Tree (fun b => w.heap.size ≤ b ∧ (Value.slice aa i ac).ownBlock ≠ some b) wr (.pointer (some ⟨Q, 0, none⟩)) (mkRe A p)) := mk_tree HN.out rfl hszw (fun b hb => (HVO.out.lt b hb).2) HVL.out HVA.out (by rw [HU.out, List.take_of_length_le (Nat.le_refl _), HAL.out])
            have HFin : Hid (∀ v' w9 ob, w9.ownsRow w.heap.size 22 1 v' (i + 1) (vs ++ [.pointer (some ⟨Q, 0, none⟩)]) → (wr.alloc ob).grownBy w9 (Value.slice aa i ac).ownBlock → (v'.ownBlock = (Value.slice aa i ac).ownBlock ∨ v'.ownBlock = some (wr.alloc ob).heap.size) → PatI w ps w9 (i + 1) v') := fun v' w9 ob h1 h2 h3 => by
              have hL : vs.length = i := by rw [HVL.out, HAL.out]
              refine ⟨?_, ?_⟩
              · rw [HA.out]
                refine PtrsOwn.snoc (w := wr) (v := .slice aa i ac) (vs := vs) (p := .pointer (some ⟨Q, 0, none⟩)) HVL.out (fun j hj => ?_) HTR.out (by rw [hL]; exact h1) h2 h3
                obtain ⟨t, q1, q2⟩ := HVA.out j hj
                exact ⟨t, q1, q2.moved HB2.out.size fun b hb hok => ⟨hok, HB2.out.block b hb⟩⟩
              · have hs2 := HB2.out.size
                have hs9 : wr.heap.size + 1 ≤ w9.heap.size := by have := h2.size; simpa using this
                refine ⟨h2.os.trans (HB2.out.os.trans hbw.os), by simpa using h2.tape.trans (HB2.out.tape.trans hbw.tape), h2.output.trans (HB2.out.output.trans hbw.output), by omega, fun b hb => ?_⟩
                rw [h2.block b (by simp; omega) (fun e => by have := (HVO.out.lt b e.symm).1; omega), Below.heap_alloc wr ob b (by omega), HB2.out.block b (by omega)]
                exact hbw.block b hb
            clear HN HU HTR HN0 d4
            have hs2 := HB2.out.size
            go_wp2_with (at_builtin; refine wpList_append_lies _ rfl _ _ 46 rfl w.heap.size 22 i1 (.pointer none) 1 8 Tryz.underlying46 hj0 hj1 hj2 hj3 rfl (by decide) (.slice aa i ac) i vs rfl (World.ownsRow.alloc hown2 _) ⟨wr.heap.size, 0, none⟩ 1 1 [.pointer (some ⟨Q, 0, none⟩)] rfl rfl (cell_one_new wr _ _) (by intro x hx; simp at hx; subst hx; rfl) (by omega) (by unfold maxLen; omega) (by omega) (by simp; omega) (wr.heap.size + 1) (by simp) ?_)
            intro g9 cap9 w9 hown9 hg9 hat9 hlt9
            have b1 := HFin.out _ w9 _ hown9 hg9 (by
              rcases hat9 with e | e
              · exact .inl (by rw [e]; rfl)
              · exact .inr (by rw [e]; simp [Value.ownBlock]))
            have B1 : Hid (PatI w ps w9 (i + 1) (.slice (some ⟨g9, 0, none⟩) (i + 1) cap9)) := b1
            clear b1 hown9 hg9 hat9 hlt9 HFin hown2
            go_wp2
            go_roundw
            case rel => exact ⟨i + 1, by omega, by go_num, B1⟩
            case measure => simp [intOf]; omega
    · obtain rfl : i = ps.length := by omega
      have hbw := HI.out.2
      obtain ⟨vs, hvl, hvo, hva⟩ := HI.out.1
      have hAL : (allRe (ps.take ps.length)).length = ps.length := by rw [allRe_len, List.length_take]; omega
      rw [hAL] at hvl hva
      rw [hvl] at hvo
      obtain ⟨ga, cap', e, hga1, hga2⟩ := hvo.form (by omega)
      simp only [Value.slice.injEq, true_and] at e
      obtain ⟨rfl, rfl⟩ := e
      have cx := own_cell hvo (show ps.length - 1 < ps.length by omega)
      obtain ⟨tx, htx, hTx⟩ := hva (ps.length - 1) (by omega)
      obtain ⟨vb, hvb, _⟩ := hTx.ptr
      rw [hvb] at cx hTx
      have HTx : Hid (Tree (fun b => w.heap.size ≤ b) wo (.pointer (some ⟨vb, 0, none⟩)) ((allRe ps).getD (ps.length - 1) ⟨0, [], 0, 0, []⟩)) := by
        rw [List.take_of_length_le (Nat.le_refl _)] at htx
        show Tree _ _ _ _
        rw [List.getD_eq_getElem?_getD, htx]
        exact hTx.imp fun b _ h => h.1
      have hne0 : ((ps.length : Int) == 0) = false := by rw [beq_eq_false_iff_ne]; omega
      have hsub : (ps.length : Int) - 1 = ((ps.length - 1 : Nat) : Int) := by omega
      have hnl : ps.length - 1 < ps.length := by omega
      clear HI hvl hvo hva hTx htx hvb hAL
      go_wp2
      go_ret
      exact ⟨vb, rfl, hbw, HTx.out⟩

end Go.Proofs.YtbjohedenfindaaGreatDoor
