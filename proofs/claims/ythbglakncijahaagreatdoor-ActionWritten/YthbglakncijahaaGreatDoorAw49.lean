/- Texts of the proof, put together: ASiz. -/
import Derived.Test.YthbglakncijahaaGreatDoorAw29
namespace Go.Proofs.YthbglakncijahaaGreatDoor
open Go.RowKit
set_option linter.unusedVariables false
set_option maxRecDepth 100000

def hvStep (n : List Int) (s k : Int) : Int := if 0 ≤ k ∧ k < n.length then (if s + n.getD k.toNat 0 > 1000 then 1000 else s + n.getD k.toNat 0) else (if s + 1 > 1000 then 1000 else s + 1)
def hvOne (n : List Int) (p : TmP) : Int := p.kids.foldl (hvStep n) 1
def hvAll (ps : List TmP) : List Int := ps.foldl (fun n p => n ++ [hvOne n p]) []
theorem hvAll_take (ps : List TmP) (i : Nat) (h : i < ps.length) : hvAll (ps.take (i + 1)) = hvAll (ps.take i) ++ [hvOne (hvAll (ps.take i)) (ps.getD i noTm)] := by
  unfold hvAll
  rw [List.take_succ_eq_append_getElem h, List.foldl_append]
  simp [h]
theorem foldH_len (ps : List TmP) : ∀ acc : List Int, (ps.foldl (fun n p => n ++ [hvOne n p]) acc).length = acc.length + ps.length := by
  induction ps with
  | nil => intro acc; simp
  | cons p ps ih => intro acc; rw [List.foldl_cons, ih]; simp; omega
theorem hvAll_len (ps : List TmP) : (hvAll ps).length = ps.length := by unfold hvAll; rw [foldH_len]; simp
def Bnd (n : List Int) : Prop := ∀ x ∈ n, 1 ≤ x ∧ x ≤ 1000
theorem Bnd.at {n : List Int} (h : Bnd n) (k : Nat) (hk : k < n.length) : 1 ≤ n.getD k 0 ∧ n.getD k 0 ≤ 1000 := by
  apply h
  rw [List.getD_eq_getElem?_getD, List.getElem?_eq_getElem hk]
  exact List.getElem_mem hk
theorem hvStep_bnd {n : List Int} (h : Bnd n) {s k : Int} (hs : 1 ≤ s ∧ s ≤ 1000) : 1 ≤ hvStep n s k ∧ hvStep n s k ≤ 1000 := by
  unfold hvStep
  split
  · rename_i hk
    have := h.at k.toNat (by omega)
    split <;> omega
  · split <;> omega
theorem hvOne_bnd {n : List Int} (h : Bnd n) (p : TmP) : 1 ≤ hvOne n p ∧ hvOne n p ≤ 1000 := by
  unfold hvOne
  have : ∀ (l : List Int) (s : Int), 1 ≤ s ∧ s ≤ 1000 → 1 ≤ l.foldl (hvStep n) s ∧ l.foldl (hvStep n) s ≤ 1000 := by
    intro l
    induction l with
    | nil => intro s hs; exact hs
    | cons k l ih => intro s hs; exact ih _ (hvStep_bnd h hs)
  exact this _ _ (by omega)
theorem hvAll_bnd (ps : List TmP) : Bnd (hvAll ps) := by
  unfold hvAll
  have : ∀ (ps : List TmP) (acc : List Int), Bnd acc → Bnd (ps.foldl (fun n p => n ++ [hvOne n p]) acc) := by
    intro ps
    induction ps with
    | nil => intro acc h; exact h
    | cons p ps ih =>
      intro acc h
      refine ih _ fun x hx => ?_
      rcases List.mem_append.1 hx with hx | hx
      · exact h x hx
      · simp at hx; subst hx; exact hvOne_bnd h p
  exact this ps [] (fun x hx => by simp at hx)

/-- weights are those of the trees, cut off at 1000 -/
theorem hvOne_wt {n : List Int} {A : List Ex} (hl : n.length = A.length) (h : ∀ k, k < A.length → n.getD k 0 = ((min 1000 (wtE (A.getD k nilE)) : Nat) : Int)) (p : TmP) : hvOne n p = ((min 1000 (wtE (mkE A p)) : Nat) : Int) := by
  rw [wtE_eq]
  unfold hvOne mkE
  simp only
  have : ∀ (l : List Int) (m : Nat), l.foldl (hvStep n) ((min 1000 m : Nat) : Int) = ((min 1000 (m + wtL (l.map (kidE A))) : Nat) : Int) := by
    intro l
    induction l with
    | nil => intro m; simp [wtL]
    | cons k l ih =>
      intro m
      have e := wtL_append [kidE A k] (l.map (kidE A))
      rw [wtL_one] at e
      rw [List.foldl_cons, List.map_cons, show kidE A k :: l.map (kidE A) = [kidE A k] ++ l.map (kidE A) from rfl, e, ← Nat.add_assoc, ← ih (m + wtE (kidE A k))]
      congr 1
      by_cases hk : 0 ≤ k ∧ k < n.length
      · have ek : kidE A k = A.getD k.toNat nilE := by unfold kidE; rw [if_neg (by omega)]
        rw [ek]
        unfold hvStep
        rw [if_pos hk, h k.toNat (by omega)]
        split <;> omega
      · have ek : kidE A k = nilE := by unfold kidE; rw [if_pos (by omega)]
        have e2 : wtE nilE = 1 := by rw [wtE_eq]; rfl
        rw [ek, e2]
        unfold hvStep
        rw [if_neg hk]
        split <;> omega
  have := this p.kids 1
  exact this
theorem hvAll_wt (ps : List TmP) : ∀ i, i ≤ ps.length → ∀ k, k < i → (hvAll (ps.take i)).getD k 0 = ((min 1000 (wtE ((allE (ps.take i)).getD k nilE)) : Nat) : Int)
  | 0, _, k, hk => by omega
  | i + 1, hi, k, hk => by
    have ih := hvAll_wt ps i (by omega)
    have h1 : (hvAll (ps.take i)).length = i := by rw [hvAll_len, List.length_take]; omega
    have h2 : (allE (ps.take i)).length = i := by rw [allTr_len, List.length_take]; omega
    rw [hvAll_take ps i (by omega), allTr_take ps i (by omega)]
    by_cases hki : k < i
    · have e1 : (hvAll (ps.take i) ++ [hvOne (hvAll (ps.take i)) (ps.getD i noTm)]).getD k 0 = (hvAll (ps.take i)).getD k 0 := by simp [List.getD_eq_getElem?_getD, List.getElem?_append_left (show k < (hvAll (ps.take i)).length by omega)]
      have e2 : (allE (ps.take i) ++ [mkE (allE (ps.take i)) (ps.getD i noTm)]).getD k nilE = (allE (ps.take i)).getD k nilE := by simp [List.getD_eq_getElem?_getD, List.getElem?_append_left (show k < (allE (ps.take i)).length by omega)]
      rw [e1, e2]
      exact ih k hki
    · obtain rfl : k = i := by omega
      have e1 : (hvAll (ps.take k) ++ [hvOne (hvAll (ps.take k)) (ps.getD k noTm)]).getD k 0 = hvOne (hvAll (ps.take k)) (ps.getD k noTm) := by
        rw [List.getD_eq_getElem?_getD, List.getElem?_append_right (by omega), h1]; simp
      have e2 : (allE (ps.take k) ++ [mkE (allE (ps.take k)) (ps.getD k noTm)]).getD k nilE = mkE (allE (ps.take k)) (ps.getD k noTm) := by
        rw [List.getD_eq_getElem?_getD, List.getElem?_append_right (by omega), h2]; simp
      rw [e1, e2]
      exact hvOne_wt (by omega) (fun q hq => ih q (by omega)) _

theorem Tryz.infoIntT : (Tryz.prog.info? 3).map (fun i => (i.zero, i.size, i.bytes)) = some (some (.int .i64 0), 1, 8) := by kernel_rfl
def OwnH (w : World) (B : Nat) (v : Value) (l : List Int) : Prop := w.ownsRow B 3 1 v l.length (l.map fun z => Value.int .i64 z)
theorem OwnH.slice {B : Nat} {w : World} {v : Value} {l : List Int} (h : OwnH w B v l) : ∃ a c, v = .slice a l.length c := by
  rcases (show w.ownsRow B 3 1 v l.length (l.map fun z => Value.int .i64 z) from h).2 with ⟨rfl, h0⟩ | ⟨g, cap, cur, rfl, _⟩
  · exact ⟨none, 0, by rw [h0]⟩
  · exact ⟨_, _, rfl⟩
theorem OwnH.at {B : Nat} {w : World} {a : Option Addr} {n c : Nat} {l : List Int} (h : OwnH w B (.slice a n c) l) {k : Nat} (hk : k < l.length) : ∃ g, a = some ⟨g, 0, none⟩ ∧ g < w.heap.size ∧ w.cell? ⟨g, 0 + k, none⟩ = some (.int .i64 (l.getD k 0)) := by
  obtain ⟨g, cap, e, _, hg⟩ := World.ownsRow.form h (by omega)
  simp only [Value.slice.injEq] at e
  obtain ⟨rfl, rfl, rfl⟩ := e
  have hc := World.ownsRow.cells h (g := g) rfl k (.int .i64 (l.getD k 0)) (by simp [hk])
  have hadd : (⟨g, 0, none⟩ : Addr).add k = ⟨g, 0 + k, none⟩ := by unfold Addr.add; split <;> simp_all
  rw [hadd] at hc
  exact ⟨g, rfl, hg, hc⟩

set_option maxHeartbeats 8000000 in
theorem size_row {w : World} {ps : List TmP} {b off c : Nat} (hb : b < w.heap.size) (hn : ps.length ≤ 2600000000000) (hne : ps ≠ []) (hsz : ∀ j, j < ps.length → (ps.getD j noTm).kids.length * 8 ≤ 140737488351232) (hc : ∀ j, j < ps.length → ∃ kv, TmR w b (off + j * 4) (ps.getD j noTm) kv) :
    Calls Tryz.prog 6 #[.slice (some ⟨b, off, none⟩) ps.length c] w fun e w' => e = .returned (.int .i64 ((hvAll ps).getD (ps.length - 1) 0)) ∧ Below w.heap.size w w' := by
  obtain ⟨i1, hj0, hj1, hj2, hj3⟩ := info_parts Tryz.infoIntT
  have HP : Hid (∀ j, j < ps.length → ∃ kv, TmR w b (off + j * 4) (ps.getD j noTm) kv) := hc
  have HZ : Hid (∀ j, j < ps.length → (ps.getD j noTm).kids.length * 8 ≤ 140737488351232) := hsz
  have hlen : 0 < ps.length := by
    rcases Nat.eq_zero_or_pos ps.length with h | h
    · exact (hne (List.eq_nil_of_length_eq_zero h)).elim
    · exact h
  clear hc hsz hne
  go_enter Tryz.func6, Tryz.ntmps6
  go_wp2
  go_loopw [3, 4] (fun nv iv wr => ∃ (i : Nat), i ≤ ps.length ∧ iv = .int .i64 i ∧ Hid (OwnH wr w.heap.size nv (hvAll (ps.take i))) ∧ Hid (Below w.heap.size w wr)) (fun _ iv _ => ps.length - (intOf iv).toNat)
  case atStart => exact ⟨0, Nat.zero_le _, rfl, ⟨rfl, .inl ⟨rfl, rfl⟩⟩, Below.refl _ _⟩
  case round =>
    rename World => wo
    obtain ⟨i, hi, rfl, HO, HB⟩ := hrel
    obtain ⟨na, nc, hnv⟩ := HO.out.slice
    subst hnv
    have HHL : Hid ((hvAll (ps.take i)).length = i) := by show _ = _; rw [hvAll_len, List.length_take]; omega
    have HBN : Hid (Bnd (hvAll (ps.take i))) := hvAll_bnd _
    by_cases hlt : i < ps.length
    · obtain ⟨kv, hp⟩ := HP.out i hlt
      have hbw := HB.out
      obtain ⟨c0, c1, c2, c3, hk⟩ := hp.below hb hbw
      have hzk := HZ.out i hlt
      obtain ⟨ka, kc, hke, _, hk2⟩ := hk
      subst hke
      have hb2 : b < wo.heap.size := Nat.lt_of_lt_of_le hb hbw.size
      have HA : Hid (hvAll (ps.take (i + 1)) = hvAll (ps.take i) ++ [hvOne (hvAll (ps.take i)) (ps.getD i noTm)]) := hvAll_take ps i hlt
      generalize ps.getD i noTm = p at *
      generalize hvAll (ps.take i) = A at *
      have HO2 : Hid (OwnH wo w.heap.size (.slice na i nc) A) := by have h := HO.out; rw [HHL.out] at h; exact h
      rw [HHL.out]
      clear HO c0 c1 c2 hp
      have hkz : p.kids.length < 100000000000000 := by omega
      go_wp2
      go_loopw [5, 6] (fun sv kv wr2 => ∃ (k : Nat) (z : Int), k ≤ p.kids.length ∧ 1 ≤ z ∧ z ≤ 1000 ∧ sv = .int .i64 z ∧ kv = .int .i64 k ∧ wr2 = wo ∧ Hid (z = (p.kids.take k).foldl (hvStep A) 1)) (fun _ kv _ => p.kids.length - (intOf kv).toNat)
      case atStart => exact ⟨0, 1, Nat.zero_le _, by omega, by omega, rfl, rfl, rfl, rfl⟩
      case round =>
        obtain ⟨k, z, hkl, hz1, hz2, rfl, rfl, hwr, HZZ⟩ := hrel
        subst hwr
        by_cases hkn : k < p.kids.length
        · obtain ⟨kg, koff, rfl, hkg, hkc⟩ : ∃ kg koff, ka = some ⟨kg, koff, none⟩ ∧ kg < wr.heap.size ∧ ∀ j, j < p.kids.length → wr.cell? ⟨kg, koff + j, none⟩ = some (.int .i64 (p.kids.getD j 0)) := by
            rcases hk2 with h | h
            · rw [h] at hkn; simp at hkn
            · exact h
          have ck := hkc k hkn
          have HT : Hid ((p.kids.take (k + 1)).foldl (hvStep A) 1 = hvStep A z (p.kids.getD k 0)) := by
            show _ = _
            rw [List.take_succ_eq_append_getElem hkn, List.foldl_append, ← HZZ.out]
            simp [hkn]
          generalize p.kids.getD k 0 = x at *
          clear hkc hk2 HZZ
          by_cases hx0 : x ≥ 0
          · have d0 : decide (x ≥ 0) = true := decide_eq_true hx0
            by_cases hxi : x < (i : Int)
            · have d1 : decide (x < (i : Int)) = true := decide_eq_true hxi
              have hxn : x.toNat < A.length := by rw [HHL.out]; omega
              obtain ⟨ng, rfl, hng, hnc⟩ := HO2.out.at hxn
              have hbd := HBN.out.at x.toNat hxn
              have HT2 : Hid (hvStep A z x = if z + A.getD x.toNat 0 > 1000 then 1000 else z + A.getD x.toNat 0) := by
                show _ = _
                unfold hvStep
                rw [if_pos ⟨hx0, by rw [HHL.out]; exact hxi⟩]
              generalize A.getD x.toNat 0 = y at *
              rw [Nat.zero_add] at hnc
              have hw1 : IntKind.i64.wrap (z + y) = z + y := by rw [IntKind.wrap_i64]; omega
              by_cases hbig : z + y > 1000
              · have d2 : decide (z + y > 1000) = true := decide_eq_true hbig
                have HT3 : Hid (1000 = (p.kids.take (k + 1)).foldl (hvStep A) 1) := by show _ = _; rw [HT.out, HT2.out, if_pos hbig]
                clear HT HT2
                go_wp2
                go_roundw
                case rel => exact ⟨k + 1, 1000, by omega, by omega, by omega, rfl, by go_num, trivial, HT3⟩
                case measure => simp [intOf]; omega
              · have d2 : decide (z + y > 1000) = false := decide_eq_false hbig
                have HT3 : Hid (z + y = (p.kids.take (k + 1)).foldl (hvStep A) 1) := by show _ = _; rw [HT.out, HT2.out, if_neg hbig]
                clear HT HT2
                go_wp2
                go_roundw
                case rel => exact ⟨k + 1, z + y, by omega, by omega, by omega, rfl, by go_num, trivial, HT3⟩
                case measure => simp [intOf]; omega
            · have d1 : decide (x < (i : Int)) = false := decide_eq_false hxi
              have HT2 : Hid (hvStep A z x = if z + 1 > 1000 then 1000 else z + 1) := by
                show _ = _
                unfold hvStep
                rw [if_neg (by rw [HHL.out]; omega)]
              have hw1 : IntKind.i64.wrap (z + 1) = z + 1 := by rw [IntKind.wrap_i64]; omega
              by_cases hbig : z + 1 > 1000
              · have d2 : decide (z + 1 > 1000) = true := decide_eq_true hbig
                have HT3 : Hid (1000 = (p.kids.take (k + 1)).foldl (hvStep A) 1) := by show _ = _; rw [HT.out, HT2.out, if_pos hbig]
                clear HT HT2
                go_wp2
                go_roundw
                case rel => exact ⟨k + 1, 1000, by omega, by omega, by omega, rfl, by go_num, trivial, HT3⟩
                case measure => simp [intOf]; omega
              · have d2 : decide (z + 1 > 1000) = false := decide_eq_false hbig
                have HT3 : Hid (z + 1 = (p.kids.take (k + 1)).foldl (hvStep A) 1) := by show _ = _; rw [HT.out, HT2.out, if_neg hbig]
                clear HT HT2
                go_wp2
                go_roundw
                case rel => exact ⟨k + 1, z + 1, by omega, by omega, by omega, rfl, by go_num, trivial, HT3⟩
                case measure => simp [intOf]; omega
          · have d0 : decide (x ≥ 0) = false := decide_eq_false hx0
            have HT2 : Hid (hvStep A z x = if z + 1 > 1000 then 1000 else z + 1) := by
              show _ = _
              unfold hvStep
              rw [if_neg (by omega)]
            have hw1 : IntKind.i64.wrap (z + 1) = z + 1 := by rw [IntKind.wrap_i64]; omega
            by_cases hbig : z + 1 > 1000
            · have d2 : decide (z + 1 > 1000) = true := decide_eq_true hbig
              have HT3 : Hid (1000 = (p.kids.take (k + 1)).foldl (hvStep A) 1) := by show _ = _; rw [HT.out, HT2.out, if_pos hbig]
              clear HT HT2
              go_wp2
              go_roundw
              case rel => exact ⟨k + 1, 1000, by omega, by omega, by omega, rfl, by go_num, trivial, HT3⟩
              case measure => simp [intOf]; omega
            · have d2 : decide (z + 1 > 1000) = false := decide_eq_false hbig
              have HT3 : Hid (z + 1 = (p.kids.take (k + 1)).foldl (hvStep A) 1) := by show _ = _; rw [HT.out, HT2.out, if_neg hbig]
              clear HT HT2
              go_wp2
              go_roundw
              case rel => exact ⟨k + 1, z + 1, by omega, by omega, by omega, rfl, by go_num, trivial, HT3⟩
              case measure => simp [intOf]; omega
        · obtain rfl : k = p.kids.length := by omega
          have hlt3 : ¬ (p.kids.length : Int) < (p.kids.length : Int) := by omega
          have HZ2 : Hid (z = hvOne A p) := by
            show _ = _
            rw [HZZ.out, List.take_of_length_le (Nat.le_refl _)]
            rfl
          clear HZZ
          have hBs := HB.out.size
          have HOW : Hid (wr.ownsRow w.heap.size 3 1 (.slice na i nc) i (A.map fun z => Value.int .i64 z)) := by
            have h := HO2.out
            unfold OwnH at h
            rw [HHL.out] at h
            exact h
          go_wp2_with (at_builtin; refine wpList_append_lies _ rfl _ _ 37 rfl w.heap.size 3 i1 (.int .i64 0) 1 8 Tryz.underlying37 hj0 hj1 hj2 hj3 rfl (by decide) (.slice na i nc) i (A.map fun z => Value.int .i64 z) rfl (World.ownsRow.alloc HOW.out _) ⟨wr.heap.size, 0, none⟩ 1 1 [.int .i64 z] rfl rfl (cell_one_new wr _ _) (by intro x hx; simp at hx; subst hx; rfl) (by omega) (by unfold maxLen; omega) (by omega) (by simp; omega) (wr.heap.size + 1) (by simp) ?_)
          intro g9 cap9 w9 hown9 hg9 hat9 hlt9
          have HO9 : Hid (OwnH w9 w.heap.size (.slice (some ⟨g9, 0, none⟩) (i + 1) cap9) (hvAll (ps.take (i + 1)))) := by
            show OwnH _ _ _ _
            rw [HA.out, ← HZ2.out]
            unfold OwnH
            rw [List.length_append, HHL.out]
            simpa using hown9
          have HB9 : Hid (Below w.heap.size w w9) := (HB.out.alloc hBs _).grown hg9 (by simp; omega) (fun k hk => (HOW.out.lt k hk).1)
          clear hown9 hg9 hat9 hlt9
          go_wp2
          go_roundw
          case rel => exact ⟨i + 1, by omega, by go_num, HO9, HB9⟩
          case measure => simp [intOf]; omega
    · obtain rfl : i = ps.length := by omega
      rw [List.take_of_length_le (Nat.le_refl _)] at HO HHL HBN ⊢
      have hll : ps.length - 1 < (hvAll ps).length := by rw [HHL.out]; omega
      obtain ⟨ng, rfl, hng, hnc⟩ := HO.out.at hll
      rw [Nat.zero_add] at hnc
      rw [HHL.out]
      have hsub : (ps.length : Int) - 1 = ((ps.length - 1 : Nat) : Int) := by omega
      have hnl : ps.length - 1 < ps.length := by omega
      have hne0 : ((ps.length : Int) == 0) = false := by rw [beq_eq_false_iff_ne]; omega
      have HBF := HB
      clear HO HBN HHL HP HZ hll
      obtain ⟨R, hR⟩ : ∃ R, R = (hvAll ps).getD (ps.length - 1) 0 := ⟨_, rfl⟩
      rw [← hR] at hnc
      have HRR : Hid (R = (hvAll ps).getD (ps.length - 1) 0) := hR
      clear hR
      go_wp2
      go_ret
      exact ⟨by rw [← HRR.out]; rfl, HBF.out⟩

end Go.Proofs.YthbglakncijahaaGreatDoor
