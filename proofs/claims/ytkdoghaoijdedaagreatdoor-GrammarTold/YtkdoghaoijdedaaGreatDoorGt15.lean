/- Texts of the proof, put together: GWho, GRch. -/
import Derived.Test.YtkdoghaoijdedaaGreatDoorGt14
import Derived.Laws.Rows
namespace Go.Proofs.YtkdoghaoijdedaaGreatDoor
open Go.RowKit
set_option linter.unusedVariables false
set_option maxRecDepth 100000

/-- each symbol of a production has a tree -/
def keepP (N : Nat) (ps : List PdR) (p : PdR) : Bool := hasB true (hgtB true (prsS ps) N) p.right
/-- the productions that stand in trees -/
def wholeP (N : Nat) (ps : List PdR) : List PdR := ps.filter (keepP N ps)
/-- the productions that are left so far, in memory -/
structure WhI (w0 w : World) (B : Nat) (v : Value) (l : List PdR) (zs : List (PdR × Value)) : Prop where
  own : w.ownsRow B 34 3 v zs.length (zcs zs)
  fst : zs.map Prod.fst = l
  rts : ∀ q ∈ zs, IntsR w0 q.2 q.1.right
theorem WhI.done {w0 w : World} {B : Nat} {v : Value} {l : List PdR} {zs : List (PdR × Value)} (h : WhI w0 w B v l zs) (hb : Below w0.heap.size w0 w) : PdsM w v l := by
  have hz := h.fst
  have hl : zs.length = l.length := by rw [← hz, List.length_map]
  have ho := h.own
  rcases ho.2 with ⟨e, h0⟩ | ⟨g, cap, cur, e, hB, hg, hcap, _⟩
  · exact ⟨none, 0, by rw [e, ← hl, h0], .inl (List.eq_nil_of_length_eq_zero (by omega))⟩
  · rw [e] at ho
    refine ⟨_, cap, by rw [e, hl], .inr ⟨g, 0, rfl, (Array.getElem?_eq_some_iff.1 hg).1, fun j hj => ?_⟩⟩
    have hjz : j < zs.length := by omega
    obtain ⟨q, hq⟩ : ∃ q, zs[j]? = some q := ⟨zs[j], by simp [hjz]⟩
    obtain ⟨c0, c1, c2⟩ := zcs_get _ _ _ hq
    have hp : l.getD j noPd = q.1 := by
      rw [← hz]
      simp [List.getD, hq]
    refine ⟨q.2, ?_⟩
    rw [hp, Nat.zero_add]
    exact ⟨(ho.cellAt _ (by omega)).trans c0, (ho.cellAt _ (by omega)).trans c1, (ho.cellAt _ (by omega)).trans c2, (h.rts q (List.mem_of_getElem? hq)).below hb⟩
theorem WhI.below {w0 w w' : World} {B : Nat} {v : Value} {l : List PdR} {zs : List (PdR × Value)} (h : WhI w0 w B v l zs) (hb : Below w.heap.size w w') : WhI w0 w' B v l zs :=
  ⟨h.own.kept (row := none) ⟨hb.os, hb.tape, hb.output, hb.size, fun k hk _ => hb.block k hk⟩ (by cases hq : v.ownBlock <;> simp), h.fst, h.rts⟩
theorem WhI.slice {w0 w : World} {B : Nat} {v : Value} {l : List PdR} {zs : List (PdR × Value)} (h : WhI w0 w B v l zs) : ∃ a c, v = .slice a zs.length c := by
  rcases h.own.2 with ⟨e, h0⟩ | ⟨g, cap, cur, e, _⟩
  · exact ⟨none, 0, by rw [e, h0]⟩
  · exact ⟨_, _, e⟩
theorem grown_belowO {w w' : World} {row : Option Nat} {B : Nat} (h : w.grownBy w' row) (hB : ∀ g, row = some g → B ≤ g) (hs : B ≤ w.heap.size) : Below B w w' :=
  ⟨h.os, h.tape, h.output, h.size, fun k hk => h.block k (by omega) (fun e => by have := hB k e.symm; omega)⟩
theorem filter_take {α : Type} (l : List α) (d : α) (f : α → Bool) (k : Nat) (h : k < l.length) : (l.take (k + 1)).filter f = if f (l.getD k d) then (l.take k).filter f ++ [l.getD k d] else (l.take k).filter f := by
  have e : l.getD k d = l[k] := by simp [List.getD, h]
  rw [List.take_succ_eq_append_getElem h, List.filter_append, e]
  by_cases hf : f l[k] = true
  · simp [hf]
  · simp [hf]

theorem Tryz.infoGramSz : (Tryz.prog.info? 25).map (·.size) = some 6 := by kernel_rfl
theorem six_cells {w : World} {b : Nat} {ty : TypeId} {a0 a1 a2 a3 a4 a5 : Value} (h : w.heap[b]? = some (.cells #[a0, a1, a2, a3, a4, a5] ty (0, 0))) :
    w.cell? ⟨b, 0, none⟩ = some a0 ∧ w.cell? ⟨b, 1, none⟩ = some a1 ∧ w.cell? ⟨b, 2, none⟩ = some a2 ∧ w.cell? ⟨b, 3, none⟩ = some a3 ∧ w.cell? ⟨b, 4, none⟩ = some a4 ∧ w.cell? ⟨b, 5, none⟩ = some a5 ∧ (∀ j, w.frozen? ⟨b, j, none⟩ = false) ∧ b < w.heap.size := by
  refine ⟨?_, ?_, ?_, ?_, ?_, ?_, fun j => ?_, (Array.getElem?_eq_some_iff.1 h).1⟩
  all_goals first | (simp [World.cell?, h]; done) | simp [World.frozen?, h]

set_option maxHeartbeats 8000000 in
theorem whole_any (t s : Int) (N : Nat) (ps : List PdR) (ls ss : List Int) (pv lv sv : Value) (w : World) (hG : GOkM N ps) (h : PdsM w pv ps) (hlv : ∃ a n c, lv = .slice a n c) (hsv : ∃ a n c, sv = .slice a n c) :
    Calls Tryz.prog 51 #[gv ⟨t, N, s, ps, ls, ss⟩ pv lv sv] w fun e w' => ∃ pv', e = .returned (gv ⟨t, N, s, wholeP N ps, ls, ss⟩ pv' lv sv) ∧ PdsM w' pv' (wholeP N ps) ∧ Below w.heap.size w w' := by
  obtain ⟨i0, hi0, hz0, hz1, hz2⟩ := infoParts Tryz.infoProd
  obtain ⟨la, ln, lc, rfl⟩ := hlv
  obtain ⟨sa, sn, sc, rfl⟩ := hsv
  have hB0 := boxG_below w ⟨t, N, s, ps, ls, ss⟩ pv (.slice la ln lc) (.slice sa sn sc)
  have hB1 := boxG_size w ⟨t, N, s, ps, ls, ss⟩ pv (.slice la ln lc) (.slice sa sn sc)
  have hB2 := boxG_box w ⟨t, N, s, ps, ls, ss⟩ pv (.slice la ln lc) (.slice sa sn sc)
  obtain ⟨Z, hZ⟩ : ∃ Z : Obj, Z = .cells #[.int .i64 0, .int .i64 0, .int .i64 0, .slice none 0 0, .slice none 0 0, .slice none 0 0] 25 := ⟨_, rfl⟩
  have hF0 := alloc_below (boxG w ⟨t, N, s, ps, ls, ss⟩ pv (.slice la ln lc) (.slice sa sn sc)) Z
  have hF1 := alloc_size (boxG w ⟨t, N, s, ps, ls, ss⟩ pv (.slice la ln lc) (.slice sa sn sc)) Z
  have hHT := haveTrees_any true t s N ps ls ss pv (.slice la ln lc) (.slice sa sn sc) ((boxG w ⟨t, N, s, ps, ls, ss⟩ pv (.slice la ln lc) (.slice sa sn sc)).alloc Z) hG ((h.below hB0).below hF0)
  obtain ⟨pa, pc, rfl⟩ := h.slice
  have HP : Hid (PdsM w (.slice pa ps.length pc) ps) := h
  have hB3 := hB2.below (K := (boxG w ⟨t, N, s, ps, ls, ss⟩ (.slice pa ps.length pc) (.slice la ln lc) (.slice sa sn sc)).heap.size) (by omega) hF0
  have HBX : Hid (BoxG ((boxG w ⟨t, N, s, ps, ls, ss⟩ (.slice pa ps.length pc) (.slice la ln lc) (.slice sa sn sc)).alloc Z) w.heap.size ⟨t, N, s, ps, ls, ss⟩ (.slice pa ps.length pc) (.slice la ln lc) (.slice sa sn sc)) := hB3
  have hB4 : Below w.heap.size w ((boxG w ⟨t, N, s, ps, ls, ss⟩ (.slice pa ps.length pc) (.slice la ln lc) (.slice sa sn sc)).alloc Z) := hB0.trans (hF0.mono (by omega))
  have HG0 : Hid (((boxG w ⟨t, N, s, ps, ls, ss⟩ (.slice pa ps.length pc) (.slice la ln lc) (.slice sa sn sc)).alloc Z).heap[w.heap.size]? = some (.cells #[.int .i64 t, .int .i64 N, .int .i64 s, .slice pa ps.length pc, .slice la ln lc, .slice sa sn sc] 25 (0, 0))) := by
    show _ = _
    rw [Below.heap_alloc _ _ _ (by omega)]
    exact Array.getElem?_push_size
  have HG1 : Hid (((boxG w ⟨t, N, s, ps, ls, ss⟩ (.slice pa ps.length pc) (.slice la ln lc) (.slice sa sn sc)).alloc Z).heap[w.heap.size + 1]? = some Z) := by
    show _ = _
    rw [← hB1]
    exact Array.getElem?_push_size
  rw [hB1] at hF1
  have HZ : Hid (Z = .cells #[.int .i64 0, .int .i64 0, .int .i64 0, .slice none 0 0, .slice none 0 0, .slice none 0 0] 25) := hZ
  clear h hB0 hB2 hF0
  subst hZ
  clear HZ
  unfold boxG gv gvs at hHT
  unfold boxG gvs at hB1 hB3 hB4 HBX hF1 HG0 HG1
  unfold gv gvs
  simp only at *
  obtain ⟨q0, q1, q2, q3, q4, q5, q6⟩ := hB3
  simp only at q0 q1 q2 q3 q4 q5 q6
  go_enter Tryz.func51, Tryz.ntmps51
  go_wp2_with fail
  refine hHT.mono ?_
  rintro e wB ⟨B, L, rfl, hrow, hlen, hfct, hBl, hb2⟩
  clear hHT q0 q1 q2 q3 q4 q5 q6
  have hfe : factB L = hgtB true (prsS ps) N := funext hfct
  have HFE : Hid (factB L = hgtB true (prsS ps) N) := hfe
  clear hfct hfe
  try rw [hB1]
  clear hB1
  generalize (w.alloc (.cells #[.int .i64 t, .int .i64 N, .int .i64 s, .slice pa ps.length pc, .slice la ln lc, .slice sa sn sc] 25)).alloc (.cells #[.int .i64 0, .int .i64 0, .int .i64 0, .slice none 0 0, .slice none 0 0, .slice none 0 0] 25) = w0 at *
  have hb2' : Below w.heap.size w wB := hB4.trans (hb2.mono (by omega))
  have HRB : Hid (RowB wB B L) := hrow
  have HGa : Hid (wB.heap[w.heap.size]? = some (.cells #[.int .i64 t, .int .i64 N, .int .i64 s, .slice pa ps.length pc, .slice la ln lc, .slice sa sn sc] 25 (0, 0))) := (hb2.block _ (by omega)).trans HG0.out
  have HGb : Hid (wB.heap[w.heap.size + 1]? = some (.cells #[.int .i64 0, .int .i64 0, .int .i64 0, .slice none 0 0, .slice none 0 0, .slice none 0 0] 25 (0, 0))) := (hb2.block _ (by omega)).trans HG1.out
  obtain ⟨q0, q1, q2, q3, q4, q5, q6⟩ := HBX.out.below (show w.heap.size < w0.heap.size by omega) hb2
  simp only at q0 q1 q2 q3 q4 q5 q6
  have hsB : w.heap.size + 1 < wB.heap.size := by have := hb2.size; omega
  clear hrow HG0 HG1 HBX hB4 hb2
  have hpl := hG.len
  have HI0 : Hid (WhI w wB wB.heap.size (.slice none 0 0) ((ps.take 0).filter (keepP N ps)) []) := ⟨⟨rfl, .inl ⟨rfl, rfl⟩⟩, by simp, fun q hq => by simp at hq⟩
  go_wp2
  clear q0 q1 q2 q3 q4 q5 q6
  go_loopw [4, 12] (fun v i wr => ∃ (k : Nat) (zs : List (PdR × Value)), k ≤ ps.length ∧ i = .int .i64 k ∧ Hid (WhI w wr wB.heap.size v ((ps.take k).filter (keepP N ps)) zs) ∧ Below wB.heap.size wB wr) (fun _ i _ => ps.length - (intOf i).toNat)
  case atStart => exact ⟨0, [], Nat.zero_le _, rfl, HI0, Below.refl _ _⟩
  case round =>
    clear HI0
    obtain ⟨k, zs, hk, rfl, HI, hbw⟩ := hrel
    obtain ⟨va, vc, rfl⟩ := HI.out.slice
    by_cases hlt : k < ps.length
    · obtain ⟨b, off, rv, rfl, hb, hpd⟩ := (HP.out.below hb2').at hlt
      have hSy := (hG.mem (p := ps.getD k noPd) (by simp [List.getD, hlt])).2
      have HT := filter_take ps noPd (keepP N ps) k hlt
      have hR0 : IntsR w rv (ps.getD k noPd).right := by
        obtain ⟨b', off', rv', e', hlt', hpd'⟩ := HP.out.at hlt
        obtain ⟨rfl, rfl⟩ : b = b' ∧ off = off' := by simpa using e'
        have h1 := hpd.2
        have h2 := (hpd'.below hlt' hb2').2
        rw [h1] at h2
        obtain rfl : rv = rv' := by simpa using h2
        exact hpd'.right
      have HR0 : Hid (IntsR w rv (ps.getD k noPd).right) := hR0
      have hpd1 := hpd.below hb hbw
      have hbr : b < wr.heap.size := Nat.lt_of_lt_of_le hb hbw.size
      have hA := alloc_below wr (.cells #[.int .i64 (ps.getD k noPd).left, rv, .int .i64 (ps.getD k noPd).level] 34)
      have hAs := alloc_size wr (.cells #[.int .i64 (ps.getD k noPd).left, rv, .int .i64 (ps.getD k noPd).level] 34)
      have hCa := rowHas_any N hG.n (ps.getD k noPd).right L true rv B (wr.alloc (.cells #[.int .i64 (ps.getD k noPd).left, rv, .int .i64 (ps.getD k noPd).level] 34)) hSy hlen (hpd1.right.below hA) ((HRB.out.below hbw).below hA)
      rw [HFE.out] at hCa
      have HKp : Hid (hasB true (hgtB true (prsS ps) N) (ps.getD k noPd).right = keepP N ps (ps.getD k noPd)) := rfl
      rw [HKp.out] at hCa
      have HI3 := HI.out.below hA
      obtain ⟨f0, f1, f2⟩ := box3_cells wr (.int .i64 (ps.getD k noPd).left) rv (.int .i64 (ps.getD k noPd).level) 34
      obtain ⟨c0, c1, c2, _⟩ := hpd1
      obtain ⟨ra, rc, hra⟩ := hpd.right.slice
      subst hra
      clear hpd HKp hR0 hSy
      have hlt9 : wr.heap.size < (wr.alloc (.cells #[.int .i64 (ps.getD k noPd).left, .slice ra (ps.getD k noPd).right.length rc, .int .i64 (ps.getD k noPd).level] 34)).heap.size := by rw [hAs]; exact Nat.lt_succ_self _
      have HFi : Hid (((ps.take (k + 1)).filter (keepP N ps)) = if keepP N ps (ps.getD k noPd) then (ps.take k).filter (keepP N ps) ++ [ps.getD k noPd] else (ps.take k).filter (keepP N ps)) := HT
      have HIh : Hid (WhI w (wr.alloc (.cells #[.int .i64 (ps.getD k noPd).left, .slice ra (ps.getD k noPd).right.length rc, .int .i64 (ps.getD k noPd).level] 34)) wB.heap.size (.slice va zs.length vc) ((ps.take k).filter (keepP N ps)) zs) := HI3
      have hb3 : Below wB.heap.size wB (wr.alloc (.cells #[.int .i64 (ps.getD k noPd).left, .slice ra (ps.getD k noPd).right.length rc, .int .i64 (ps.getD k noPd).level] 34)) := hbw.trans (hA.mono hbw.size)
      have HZL : Hid (zs.length ≤ 400) := by
        have h1 := congrArg List.length HI.out.fst
        rw [List.length_map] at h1
        have h2 := List.length_filter_le (keepP N ps) (ps.take k)
        have h3 : (ps.take k).length ≤ ps.length := by rw [List.length_take]; exact Nat.min_le_right _ _
        have h4 := hG.len
        show _ ≤ _
        omega
      clear HT HI3 HI hA
      generalize keepP N ps (ps.getD k noPd) = kp at *
      generalize hq : ps.getD k noPd = q at *
      clear hq
      obtain ⟨left, right, level⟩ := q
      simp only at *
      go_wp2_with fail
      refine hCa.mono ?_
      rintro e w3 ⟨rfl, rfl⟩
      clear hCa c0 c1 c2
      generalize wr.alloc (.cells #[.int .i64 left, .slice ra right.length rc, .int .i64 level] 34) = w3 at *
      cases kp with
      | false =>
        have HN : Hid (WhI w w3 wB.heap.size (.slice va zs.length vc) ((ps.take (k + 1)).filter (keepP N ps)) zs) := by
          show WhI _ _ _ _ _ _
          rw [HFi.out]
          exact HIh.out
        clear HIh HFi
        go_wp2
        go_roundw
        case rel => exact ⟨k + 1, zs, by omega, by go_num, HN, hb3⟩
        case measure => simp [intOf]; omega
      | true =>
        have hown8 : ∀ o, (w3.alloc o).ownsRow wB.heap.size 34 3 (.slice va zs.length vc) zs.length (zcs zs) := fun o => World.ownsRow.alloc HIh.out.own o
        have hzl := HZL.out
        clear hAs
        have hsz3 : wB.heap.size ≤ w3.heap.size := hb3.size
        have HST : Hid (∀ o w9 g9 cap9, w9.ownsRow wB.heap.size 34 3 (.slice (some ⟨g9, 0, none⟩) (zs.length + 1) cap9) (zs.length + 1) (zcs zs ++ [.int .i64 left, .slice ra right.length rc, .int .i64 level]) → (w3.alloc o).grownBy w9 (Value.slice va zs.length vc).ownBlock → WhI w w9 wB.heap.size (.slice (some ⟨g9, 0, none⟩) (zs.length + 1) cap9) ((ps.take (k + 1)).filter (keepP N ps)) (zs ++ [(⟨left, right, level⟩, .slice ra right.length rc)]) ∧ Below wB.heap.size wB w9) := fun o w9 g9 cap9 h1 h2 => by
          have hol : ∀ b, (Value.slice va zs.length vc).ownBlock = some b → wB.heap.size ≤ b := fun b hb => (HIh.out.own.lt b hb).1
          refine ⟨⟨?_, ?_, ?_⟩, ?_⟩
          · rw [zcs_snoc, List.length_append]; exact h1
          · rw [HFi.out, if_pos rfl, List.map_append, HIh.out.fst]; rfl
          · intro q hq
            rcases List.mem_append.1 hq with hq | hq
            · exact HIh.out.rts q hq
            · obtain rfl : q = (⟨left, right, level⟩, .slice ra right.length rc) := by simpa using hq
              exact HR0.out
          · have h4 : Below wB.heap.size wB (w3.alloc o) := hb3.alloc hsz3 o
            exact h4.trans (grown_belowO h2 hol h4.size)
        clear HIh HFi
        go_wp2_with (at_builtin; refine wpList_append_lies _ rfl _ _ 22 rfl wB.heap.size 34 i0 (.agg #[.int .i64 0, .slice none 0 0, .int .i64 0]) 3 40 Tryz.underlying22 hi0 hz0 hz1 hz2 rfl (by decide) (.slice va zs.length vc) zs.length (zcs zs) rfl (hown8 _) ⟨w3.heap.size, 0, none⟩ 1 1 [.int .i64 left, .slice ra right.length rc, .int .i64 level] rfl rfl ?c1 ?c2 ?c3 ?c4 ?c5 ?c6 (w3.heap.size + 1) ?c7 ?_)
        case c1 => exact World.news_of_block (heap_alloc_new w3 _)
        case c2 => intro x hx; simp at hx; rcases hx with rfl | rfl | rfl <;> rfl
        case c3 => omega
        case c4 => unfold maxLen; omega
        case c5 => omega
        case c6 => simp; omega
        case c7 => simp
        intro g9 cap9 w9 hown9 hg9 hat9 hlt9
        obtain ⟨q1, q2⟩ := HST.out _ w9 g9 cap9 hown9 hg9
        have Q1 : Hid (WhI w w9 wB.heap.size (.slice (some ⟨g9, 0, none⟩) (zs.length + 1) cap9) ((ps.take (k + 1)).filter (keepP N ps)) (zs ++ [(⟨left, right, level⟩, .slice ra right.length rc)])) := q1
        clear q1 hown9 hg9 hat9 hlt9 HST hown8
        go_wp2
        go_roundw
        case rel => exact ⟨k + 1, _, by omega, by go_num, Q1, q2⟩
        case measure => simp [intOf]; omega
    · obtain rfl : k = ps.length := by omega
      have hGa := (hbw.block _ (show w.heap.size < wB.heap.size by omega)).trans HGa.out
      have hGb := (hbw.block _ hsB).trans HGb.out
      have hl : zs.length = (wholeP N ps).length := by
        have := congrArg List.length HI.out.fst
        rw [List.length_map, List.take_length] at this
        exact this
      have HE : Hid (∀ W, W = ((((((wr.setCell ⟨w.heap.size, 3, none⟩ (.slice va zs.length vc)).setCell ⟨w.heap.size + 1, 0, none⟩ (.int .i64 t)).setCell ⟨w.heap.size + 1, 1, none⟩ (.int .i64 N)).setCell ⟨w.heap.size + 1, 2, none⟩ (.int .i64 s)).setCell ⟨w.heap.size + 1, 3, none⟩ (.slice va zs.length vc)).setCell ⟨w.heap.size + 1, 4, none⟩ (.slice la ln lc)).setCell ⟨w.heap.size + 1, 5, none⟩ (.slice sa sn sc) →
          W.heap[w.heap.size + 1]? = some (.cells #[.int .i64 t, .int .i64 N, .int .i64 s, .slice va zs.length vc, .slice la ln lc, .slice sa sn sc] 25 (0, 0)) ∧ PdsM W (.slice va zs.length vc) (wholeP N ps) ∧ Below w.heap.size w W) := by
        rintro W rfl
        have hol : ∀ b, (Value.slice va zs.length vc).ownBlock = some b → wB.heap.size ≤ b := fun b hb => (HI.out.own.lt b hb).1
        have k0 := HI.out.own.kept (set_grown wr w.heap.size 3 (.slice va zs.length vc)) (.inr fun e => by have := hol _ e; omega)
        have kk : ∀ (V : World) (j : Nat) (x : Value), V.ownsRow wB.heap.size 34 3 (.slice va zs.length vc) zs.length (zcs zs) → (V.setCell ⟨w.heap.size + 1, j, none⟩ x).ownsRow wB.heap.size 34 3 (.slice va zs.length vc) zs.length (zcs zs) := fun V j x hV => hV.kept (set_grown V (w.heap.size + 1) j x) (.inr fun e => by have := hol _ e; omega)
        have hbA : Below w.heap.size w (wr.setCell ⟨w.heap.size, 3, none⟩ (.slice va zs.length vc)) := below_set (hb2'.trans (hbw.mono hb2'.size)) (Nat.le_refl _) _ _
        have bb : ∀ (V : World) (j : Nat) (x : Value), Below w.heap.size w V → Below w.heap.size w (V.setCell ⟨w.heap.size + 1, j, none⟩ x) := fun V j x hV => below_set hV (by omega) _ _
        have hbE := bb _ 5 (.slice sa sn sc) (bb _ 4 (.slice la ln lc) (bb _ 3 (.slice va zs.length vc) (bb _ 2 (.int .i64 s) (bb _ 1 (.int .i64 N) (bb _ 0 (.int .i64 t) hbA)))))
        refine ⟨?_, ?_, hbE⟩
        · have h0 : (wr.setCell ⟨w.heap.size, 3, none⟩ (.slice va zs.length vc)).heap[w.heap.size + 1]? = some (.cells #[.int .i64 0, .int .i64 0, .int .i64 0, .slice none 0 0, .slice none 0 0, .slice none 0 0] 25 (0, 0)) := (Below.heap_setCell _ _ _ _ (by simp)).trans hGb
          have h1 := heap_setC _ _ 5 _ _ (.slice sa sn sc) (heap_setC _ _ 4 _ _ (.slice la ln lc) (heap_setC _ _ 3 _ _ (.slice va zs.length vc) (heap_setC _ _ 2 _ _ (.int .i64 s) (heap_setC _ _ 1 _ _ (.int .i64 N) (heap_setC _ _ 0 _ _ (.int .i64 t) h0)))))
          rw [h1]
          rfl
        · have hI : WhI w _ wB.heap.size (.slice va zs.length vc) ((ps.take ps.length).filter (keepP N ps)) zs := ⟨kk _ 5 (.slice sa sn sc) (kk _ 4 (.slice la ln lc) (kk _ 3 (.slice va zs.length vc) (kk _ 2 (.int .i64 s) (kk _ 1 (.int .i64 N) (kk _ 0 (.int .i64 t) k0))))), HI.out.fst, HI.out.rts⟩
          have := hI.done hbE
          rw [List.take_length] at this
          exact this
      clear HI
      obtain ⟨d0, d1, d2, d3, d4, d5, dz, dl⟩ := six_cells hGa
      obtain ⟨_, _, _, _, _, _, ez, el⟩ := six_cells hGb
      obtain ⟨g0, g1, g2, g3, g4, g5, gz, gl⟩ := six_cells (heap_setC wr w.heap.size 3 _ _ (.slice va zs.length vc) hGa)
      have hz3 := dz 3
      have e0 := ez 0
      have e1 := ez 1
      have e2 := ez 2
      have e3 := ez 3
      have e4 := ez 4
      have e5 := ez 5
      rw [hl] at *
      go_wp2
      generalize hW : (((((((wr.setCell ⟨w.heap.size, 3, none⟩ (.slice va (wholeP N ps).length vc)).setCell ⟨w.heap.size + 1, 0, none⟩ (.int .i64 t)).setCell ⟨w.heap.size + 1, 1, none⟩ (.int .i64 N)).setCell ⟨w.heap.size + 1, 2, none⟩ (.int .i64 s)).setCell ⟨w.heap.size + 1, 3, none⟩ (.slice va (wholeP N ps).length vc)).setCell ⟨w.heap.size + 1, 4, none⟩ (.slice la ln lc)).setCell ⟨w.heap.size + 1, 5, none⟩ (.slice sa sn sc)) = W
      obtain ⟨r1, r2, r3⟩ := HE.out W hW.symm
      have R2 : Hid (PdsM W (.slice va (wholeP N ps).length vc) (wholeP N ps)) := r2
      clear r2 HE hW d0 d1 d2 d3 d4 d5 dz ez g0 g1 g2 g3 g4 g5 gz hz3 e0 e1 e2 e3 e4 e5 hGa hGb
      refine bodyPost_ret (results_cell_row rfl _ W (w.heap.size + 1) 25 _ (0, 0) _ rfl r1 Tryz.underlying25 rfl Tryz.infoGramSz) rfl ?_
      exact ⟨_, rfl, R2.out, r3⟩

end Go.Proofs.YtkdoghaoijdedaaGreatDoor

namespace Go.Proofs.YtkdoghaoijdedaaGreatDoor
open Go.RowKit
open Go.Maps (Keyed)
set_option linter.unusedVariables false
set_option maxRecDepth 100000

/-- a variable that holds links -/
structure VarL (w : World) (H D N : Nat) (mp cnt : Nat → Nat) (r : Nat → Nat → Prop) : Prop where
  lt : H < w.heap.size
  cell : w.cell? ⟨H, 0, none⟩ = some (.slice (some ⟨D, 0, none⟩) N N)
  lnk : LinksM w D N mp cnt r
theorem VarL.below {w w' : World} {H D N : Nat} {mp cnt : Nat → Nat} {r : Nat → Nat → Prop} (h : VarL w H D N mp cnt r) (hb : Below w.heap.size w w') : VarL w' H D N mp cnt r :=
  ⟨Nat.lt_of_lt_of_le h.lt hb.size, (hb.cell (p := ⟨H, 0, none⟩) h.lt).trans h.cell, h.lnk.below hb⟩

set_option maxHeartbeats 4000000 in
theorem reachedC_any (N : Nat) (hN : N ≤ 300) (r : Nat → Nat → Prop) (mp cnt : Nat → Nat) (L : List Bool) (B n H D G : Nat) (s : Int) (hn : n < N) (w : World) (hL : L.length = N) (hv : RowB w B L) (hH : VarL w H D N mp cnt r) (hr : ∀ k, r n k → k < N) (hGl : G < w.heap.size) (hGc : w.cell? ⟨G, 2, none⟩ = some (.int .i64 s)) (R : Bool) (hR : R = true ↔ (∃ k, r n k ∧ factB L k = true) ∨ (n : Int) = s) :
    Calls Tryz.prog 74 #[.slice (some ⟨B, 0, none⟩) N N, .int .i64 n, .pointer (some ⟨H, 0, none⟩), .pointer (some ⟨G, 0, none⟩)] w fun e w' => e = .returned (.bool R) ∧ Below w.heap.size w w' := by
  obtain ⟨hHl, cH, hlk⟩ := hH
  have hDl := hlk.lt
  have cD := hlk.cell n hn
  have hMl := (hlk.keys n hn).lt
  obtain ⟨D0, hown, him, hkeys⟩ := hlk.keys n hn
  have HK : Hid (∀ kl, Maps.has D0 kl = true ↔ ∃ q : Nat, kl = .int .i64 q ∧ r n q) := hkeys
  have HV : Hid (RowB w B L) := hv
  have HL : Hid (L.length = N) := hL
  have HRr : Hid (∀ k, r n k → k < N) := hr
  have HRR : Hid (R = true ↔ (∃ k, r n k ∧ factB L k = true) ∨ (n : Int) = s) := hR
  clear hlk hkeys him hv hL hr hR
  go_enter Tryz.func74, Tryz.ntmps74
  go_wp2_with (first
    | (at_range; refine wpList_range_own _ rfl _ 65 rfl 3 3 Tryz.lawIntG Tryz.underlying65 _ (mp n) (cnt n) _ rfl hown ?_; intro w2 hrg0 hg0 hs0)
    | go_in)
  go_frame
  have hb2 : Below w.heap.size w w2 := ⟨hg0.os, hg0.tape, hg0.output, hg0.size, fun q hq => hg0.block q hq (by simp)⟩
  clear hown hg0 cD hDl cH hHl
  generalize hrr : w.heap.size = rr at *
  go_loopw [7] (fun _ wr => ∃ (left : Lit → Bool) (ct : Nat), wr.ranges Tryz.prog 3 (plainElem Tryz.prog 3) (mp n) rr (cnt n) D0 left ct ∧ ct ≤ Maps.size D0 ∧ Hid (∀ q : Nat, r n q → left (.int .i64 (q : Int)) = false → factB L q = false) ∧ Hid (∀ kl, left kl = true → Maps.has D0 kl = true) ∧ Below rr w wr ∧ rr < wr.heap.size) (fun _ wr => wr.rangeLeft (mp n) rr)
  case atStart => exact ⟨_, _, hrg0, Nat.le_refl _, (fun q hq h => by have := (HK.out (.int .i64 (q : Int))).2 ⟨q, rfl, hq⟩; rw [this] at h; cases h), (fun kl h => h), hb2, by omega⟩
  case round =>
    clear hb2 hrg0 hs0
    obtain ⟨left, ct, hrg, hcs, HF0, HF, hbr, hsz⟩ := hrel
    go_wp2_with (first
      | (at_next; refine wpList_next_ranges_ii _ rfl _ rfl 3 3 .i64 .i64 Tryz.lawIntG Tryz.underlying3 Tryz.underlying3 (mp n) rr (cnt n) _ _ _ rfl hrg ?_ ?_)
      | go_in)
    · intro hc0 hl0
      have hGc2 : wr.cell? ⟨G, 2, none⟩ = some (.int .i64 s) := (hbr.cell (p := ⟨G, 2, none⟩) hGl).trans hGc
      have hGl2 : G < wr.heap.size := by omega
      have HE : Hid (R = ((n : Int) == s)) := by
        show _ = _
        rw [Bool.eq_iff_iff, HRR.out, beq_iff_eq]
        constructor
        · rintro (⟨k, h1, h2⟩ | h)
          · rw [HF0.out k h1 (hl0 _)] at h2; cases h2
          · exact h
        · exact .inr
      clear HF0 HF hl0 hGc
      go_wp2
      go_ret
      exact ⟨by rw [HE.out]; rfl, by first | exact hbr | (rw [hrr]; exact hbr)⟩
    · intro x p w3 ct1 hwx hwc hlx hat hrg1 hlt1 hg1 hs1 hen
      obtain ⟨q, hq, hrq⟩ := (HK.out _).1 (HF.out _ hlx)
      obtain rfl : x = (q : Int) := by simpa using hq
      have hqN := HRr.out q hrq
      have hb3 : Below rr w w3 := hbr.trans (grown_below hg1 (by omega) (by omega))
      have hV3 : RowB w3 B L := (hb3.block B (by rw [← hrr]; exact HV.out.lt)).trans HV.out
      have cB := hV3.cell (j := q) (by rw [HL.out]; exact hqN)
      have hBl := hV3.lt
      have hs3 := hg1.size
      clear hV3 hq
      obtain ⟨y, hy⟩ : ∃ y, y = factB L q := ⟨_, rfl⟩
      have HY : Hid (y = factB L q) := hy
      rw [← hy] at cB
      clear hy
      cases y with
      | true =>
        have HE : Hid (R = true) := HRR.out.2 (.inl ⟨q, hrq, HY.out.symm⟩)
        clear HF0 HF HY hrq
        go_wp2
        go_ret
        exact ⟨by rw [HE.out]; rfl, by first | exact hb3 | (rw [hrr]; exact hb3)⟩
      | false =>
        have HF2 : Hid (∀ q' : Nat, r n q' → (left (.int .i64 (q' : Int)) && !(Lit.int .i64 (q' : Int)).sameKey (.int .i64 (q : Int))) = false → factB L q' = false) := fun q' h1 h2 => by
          by_cases e : q' = q
          · subst e; exact HY.out.symm
          · refine HF0.out q' h1 ?_
            have h3 : ¬ (q' : Int) = (q : Int) := by omega
            simpa [Lit.sameKey, h3] using h2
        clear HF0 HY hrq
        go_wp2
        go_roundw
        case rel => exact ⟨_, ct1, hrg1, by omega, HF2, (fun kl hkl => HF.out kl (by simp only [Bool.and_eq_true] at hkl; exact hkl.1)), hb3, by omega⟩
        case measure => rw [hrg1.left_eq, hrg.left_eq]; exact hlt1

end Go.Proofs.YtkdoghaoijdedaaGreatDoor
