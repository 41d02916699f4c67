/- Texts of the proof, put together: RTE, RTF. -/
import Derived.Test.YtbjohedenfindaaGreatDoorMg34
import Derived.Laws.AppendOwnNone
namespace Go.Proofs.YtbjohedenfindaaGreatDoor
open Go.RowKit
set_option linter.unusedVariables false
set_option maxRecDepth 100000

theorem Kd.vals {ok : Nat → Prop} {w : World} {v : Value} {l : List Tm} (h : Kd ok w v l) : ∃ ka kc, ∃ vs : List Value, v = .slice ka l.length kc ∧ vs.length = l.length ∧ (∀ j, j < l.length → ∃ g off, ka = some ⟨g, off, none⟩ ∧ g < w.heap.size ∧ ok g ∧ w.cell? ⟨g, off + j, none⟩ = some (vs.getD j .nilFunc)) ∧ ∀ j, j < l.length → TT ok w (vs.getD j .nilFunc) (l.getD j nothT) := by
  obtain ⟨ka, kc, rfl, h⟩ := h
  have : ∀ m, m ≤ l.length → ∃ vs : List Value, vs.length = m ∧ ∀ j, j < m → (∃ g off, ka = some ⟨g, off, none⟩ ∧ g < w.heap.size ∧ ok g ∧ w.cell? ⟨g, off + j, none⟩ = some (vs.getD j .nilFunc)) ∧ TT ok w (vs.getD j .nilFunc) (l.getD j nothT) := by
    intro m
    induction m with
    | zero => intro _; exact ⟨[], rfl, fun j hj => by omega⟩
    | succ m ih =>
      intro hm
      obtain ⟨vs, h1, h2⟩ := ih (by omega)
      obtain ⟨g, off, u, k1, k2, k3, k4, k5⟩ := h m (by omega)
      refine ⟨vs ++ [u], by simp [h1], fun j hj => ?_⟩
      by_cases hjm : j < m
      · have e : (vs ++ [u]).getD j .nilFunc = vs.getD j .nilFunc := by simp [List.getD_eq_getElem?_getD, List.getElem?_append_left (show j < vs.length by omega)]
        rw [e]; exact h2 j hjm
      · have hj' : j = m := by omega
        subst hj'
        have e : (vs ++ [u]).getD j .nilFunc = u := by rw [← h1]; simp
        rw [e]; exact ⟨⟨g, off, k1, k2, k3, k4⟩, k5⟩
  obtain ⟨vs, h1, h2⟩ := this l.length (Nat.le_refl _)
  exact ⟨ka, kc, vs, rfl, h1, fun j hj => (h2 j hj).1, fun j hj => (h2 j hj).2⟩
theorem Kd.of_own {ok : Nat → Prop} {w : World} {B : Nat} {v : Value} {vs : List Value} {l : List Tm} (hown : w.ownsRow B 22 1 v vs.length vs) (hl : vs.length = l.length) (ht : ∀ j, j < l.length → TT ok w (vs.getD j .nilFunc) (l.getD j nothT)) (hk : ∀ b, B ≤ b → ok b) : Kd ok w v l := by
  have hlt := hown.lt
  rcases hown.2 with ⟨rfl, h0⟩ | ⟨g, cap, cur, rfl, hB, _⟩
  · have : l = [] := List.eq_nil_of_length_eq_zero (by omega)
    subst this; exact Kd.nil _ _
  · refine ⟨_, _, by rw [hl], fun j hj => ⟨g, 0, vs.getD j .nilFunc, rfl, (hlt g rfl).2, hk g hB, ?_, ht j hj⟩⟩
    have := hown.cellAt j (by omega)
    simp only [Nat.zero_add]
    rw [this]
    simp [hl, hj]

/-- where a tree comes in among those in order -/
theorem ins_here : ∀ (l : List Tm) (t : Tm) (i : Nat), i ≤ l.length → (∀ j, j < i → ord (l.getD j nothT) t < 0) → (i = l.length ∨ (i < l.length ∧ 0 < ord (l.getD i nothT) t)) → insS l t = l.take i ++ t :: l.drop i
  | [], t, i, hi, _, _ => by
    have : i = 0 := by simpa using hi
    subst this; rfl
  | x :: l, t, 0, hi, _, h => by
    rcases h with h | ⟨_, h⟩
    · simp at h
    · have h' : 0 < ord x t := by simpa using h
      simp only [insS]; rw [if_neg (by omega), if_pos h']; rfl
  | x :: l, t, i + 1, hi, hb, h => by
    have h0 : ord x t < 0 := by simpa using hb 0 (by omega)
    have := ins_here l t i (by simpa using hi) (fun j hj => by simpa using hb (j + 1) (by omega)) (by
      rcases h with h | ⟨h1, h2⟩
      · left; simpa using h
      · right; exact ⟨by simpa using h1, by simpa using h2⟩)
    simp only [insS]; rw [if_neg (by omega), if_neg (by omega), this]; rfl
theorem ins_there : ∀ (l : List Tm) (t : Tm) (i : Nat), i < l.length → (∀ j, j < i → ord (l.getD j nothT) t < 0) → ord (l.getD i nothT) t = 0 → insS l t = l
  | [], t, i, hi, _, _ => by simp at hi
  | x :: l, t, 0, hi, _, h => by
    have h' : ord x t = 0 := by simpa using h
    simp only [insS]; rw [if_pos h']
  | x :: l, t, i + 1, hi, hb, h => by
    have h0 : ord x t < 0 := by simpa using hb 0 (by omega)
    have := ins_there l t i (by simpa using hi) (fun j hj => by simpa using hb (j + 1) (by omega)) (by simpa using h)
    simp only [insS]; rw [if_neg (by omega), if_neg (by omega), this]

theorem ins_getD {α : Type} (xs : List α) (x d : α) (i j : Nat) (hi : i ≤ xs.length) : (xs.take i ++ x :: xs.drop i).getD j d = if j < i then xs.getD j d else if j = i then x else xs.getD (j - 1) d := by
  have hl : (xs.take i).length = i := by simp; omega
  split
  · rename_i h
    rw [List.getD_eq_getElem?_getD, List.getElem?_append_left (by omega), List.getElem?_take_of_lt h, ← List.getD_eq_getElem?_getD]
  · rename_i h
    rw [List.getD_eq_getElem?_getD, List.getElem?_append_right (by omega), hl]
    split
    · rename_i h2; subst h2; simp
    · rename_i h2
      obtain ⟨m, rfl⟩ : ∃ m, j = i + m + 1 := ⟨j - i - 1, by omega⟩
      have e1 : i + m + 1 - i = m + 1 := by omega
      have e2 : i + m + 1 - 1 = i + m := by omega
      rw [e1, e2, List.getElem?_cons_succ, List.getElem?_drop, ← List.getD_eq_getElem?_getD]
/-- what 'add' gives -/
def Adds (ok : Nat → Prop) (w : World) (l : List Tm) (e : Ending) (w' : World) : Prop := ∃ ka kc, e = .returned (.slice ka l.length kc) ∧ l.length ≤ kc ∧ (l = [] → ka = none ∧ kc = 0) ∧ Kd (orNew ok w) w' (.slice ka l.length kc) l ∧ Below w.heap.size w w'
theorem below_own {w w1 w2 : World} {v : Value} {B : Nat} (h : Below w.heap.size w w1) (hB : w.heap.size ≤ B) (hb : ∀ k, v.ownBlock = some k → B ≤ k) (hg : w1.grownBy w2 v.ownBlock) : Below w.heap.size w w2 :=
  ⟨hg.os.trans h.os, hg.tape.trans h.tape, hg.output.trans h.output, Nat.le_trans h.size hg.size, fun k hk => (hg.block k (Nat.lt_of_lt_of_le hk h.size) (fun e => by have := hb k e.symm; omega)).trans (h.block k hk)⟩

theorem adds_end {ok : Nat → Prop} {w W w3 : World} {v3 p : Value} {vs : List Value} {l res : List Tm} {t : Tm} {i : Nat} (hb : Below w.heap.size w w3) (hW : w.heap.size ≤ W.heap.size) (hown : w3.ownsRow W.heap.size 22 1 v3 (i + 1 + (l.length - i)) (vs.take i ++ p :: vs.drop i)) (hvs : vs.length = l.length) (hi : i ≤ l.length) (hr : res = l.take i ++ t :: l.drop i)
    (HT : ∀ j, j < l.length → TT ok w (vs.getD j .nilFunc) (l.getD j nothT)) (HV : TT ok w p t) : Adds ok w res (.returned v3) w3 := by
  have hn : i + 1 + (l.length - i) = (vs.take i ++ p :: vs.drop i).length := by simp; omega
  have hn2 : (vs.take i ++ p :: vs.drop i).length = res.length := by rw [hr]; simp; omega
  have hne : res.length ≠ 0 := by rw [hr]; simp
  rw [hn] at hown
  have hK : Kd (orNew ok w) w3 v3 res := by
    refine Kd.of_own hown hn2 ?_ (fun b hb => .inr (Nat.le_trans hW hb))
    intro j hj
    rw [hr, ins_getD vs p _ i j (by omega), ins_getD l t _ i j hi]
    have hj' : j < l.length + 1 := by rw [hr] at hj; simp at hj; omega
    split
    · exact ((HT j (by omega)).below hb).imp orNew_l
    · split
      · exact (HV.below hb).imp orNew_l
      · exact ((HT (j - 1) (by omega)).below hb).imp orNew_l
  rcases hown.2 with ⟨_, h0⟩ | ⟨g, cap, cur, rfl, _, _, hc, _⟩
  · omega
  · rw [hn2] at hK hc ⊢
    exact ⟨_, _, rfl, hc, fun e => by rw [e] at hne; simp at hne, hK, hb⟩

set_option maxHeartbeats 4000000 in
theorem add_ins {ok : Nat → Prop} {w : World} {k : Int} {b : Nat} {l : List Tm} {t : Tm} {g off kc : Nat} {vs : List Value} (hk' : ∀ (kk : Int), w.cell? ⟨b, 0, none⟩ = some (.int .i64 kk) → (kk == k) = false) (hv : TT ok w (.pointer (some ⟨b, 0, none⟩)) t) (hvs : vs.length = l.length) (hl : l.length ≤ 17592186000000) (hl0 : 0 < l.length) (hcap : l.length ≤ kc) (hg : g < w.heap.size) (hgo : ok g)
    (HC : Hid (∀ j, j < l.length → w.cell? ⟨g, off + j, none⟩ = some (vs.getD j .nilFunc))) (HT : Hid (∀ j, j < l.length → TT ok w (vs.getD j .nilFunc) (l.getD j nothT))) (HSm : Hid (∀ x ∈ l, Sml x)) (hst : Sml t) :
    Calls Tryz.prog 102 #[.int .i64 k, .slice (some ⟨g, off, none⟩) l.length kc, .pointer (some ⟨b, 0, none⟩)] w fun e w' => Adds ok w (insS l t) e w' := by
  obtain ⟨_, _, _, _, hN⟩ := hv.node
  have e := hN.v_eq
  injection e with e; injection e with e; injection e with e; subst e
  have c0 := hN.c0
  have hkk := hk' _ c0
  have hlt := hN.lt
  have HV : Hid (TT ok w (.pointer (some ⟨b, 0, none⟩)) t) := hv
  have HO : Hid (∀ j, j < l.length → ∀ w', Below w.heap.size w w' → Calls Tryz.prog 123 #[vs.getD j .nilFunc, .pointer (some ⟨b, 0, none⟩)] w' fun e w'' => e = .returned (.int .i64 (ord (l.getD j nothT) t)) ∧ Below w'.heap.size w' w'') := fun j hj w' hb => order_any _ ok ok t w' _ _ ((HT.out j hj).below hb) (hv.below hb) (HSm.out _ (getD_mem l j hj)) hst
  have HI : Hid (∀ (i : Nat), i ≤ l.length → (∀ j, j < i → ord (l.getD j nothT) t < 0) → (i = l.length ∨ (i < l.length ∧ 0 < ord (l.getD i nothT) t)) → insS l t = l.take i ++ t :: l.drop i) := ins_here l t
  have HJ : Hid (∀ (i : Nat), i < l.length → (∀ j, j < i → ord (l.getD j nothT) t < 0) → ord (l.getD i nothT) t = 0 → insS l t = l) := ins_there l t
  have hic : ∀ i : Nat, i ≤ l.length → i ≤ kc := fun i hi => Nat.le_trans hi hcap
  obtain ⟨i0, hi0, hz0, hz1, hz2⟩ := info_parts Tryz.infoPRe
  have HPT : Hid (∀ u ∈ vs, u.oneCell' = true) := fun u hu => by
    obtain ⟨j, hj, rfl⟩ := List.getElem_of_mem hu
    obtain ⟨b1, hb1⟩ := (HT.out j (by omega)).ptr
    have e : vs.getD j .nilFunc = vs[j] := by simp [hj]
    rw [e] at hb1; rw [hb1]; rfl
  generalize hres : insS l t = res at *
  generalize t.kind = kk at *
  clear hk' hN hv hres
  go_enter Tryz.func102, Tryz.ntmps102
  go_wp2
  go_loopw [8, 9] (fun iv cv wr => ∃ i : Nat, i ≤ l.length ∧ iv = .int .i64 i ∧ (∀ j, j < i → ord (l.getD j nothT) t < 0) ∧ Below w.heap.size w wr) (fun iv _ _ => l.length - (intOf iv).toNat)
  case atStart => exact ⟨0, Nat.zero_le _, rfl, fun j hj => by omega, Below.refl _ _⟩
  case round =>
    obtain ⟨i, hi, rfl, hp, hbw⟩ := hrel
    have HP : Hid (∀ j, j < i → ord (l.getD j nothT) t < 0) := hp
    clear hp c0
    by_cases hlt2 : i < l.length
    · have hu := HC.out i hlt2
      have hu' := (hbw.cell (p := ⟨g, off + i, none⟩) hg).trans hu
      have HCO : Hid (Calls Tryz.prog 123 #[vs.getD i .nilFunc, .pointer (some ⟨b, 0, none⟩)] wr fun e w'' => e = .returned (.int .i64 (ord (l.getD i nothT) t)) ∧ Below wr.heap.size wr w'') := HO.out i hlt2 wr hbw
      obtain ⟨bi, hbi⟩ := (HT.out i hlt2).ptr
      rw [hbi] at hu' HCO
      clear hu hbi
      generalize hz : ord (l.getD i nothT) t = z at *
      have HZ : Hid (ord (l.getD i nothT) t = z) := hz
      clear hz
      go_wp2_with fail
      refine HCO.out.mono ?_
      rintro e w2 ⟨rfl, hb2⟩
      have hbw2 := hbw.trans (hb2.mono hbw.size)
      by_cases hz0 : z = 0
      · have hr := HJ.out i hlt2 HP.out (by rw [HZ.out, hz0])
        subst hr
        have hz0' : (z == 0) = true := by simpa using hz0
        clear hz0
        go_wp2
        go_ret
        refine ⟨_, _, rfl, hcap, fun e => by rw [e] at hl0; simp at hl0, ?_, hbw2⟩
        exact ⟨_, _, rfl, fun j hj => ⟨g, off, vs.getD j .nilFunc, rfl, Nat.lt_of_lt_of_le hg hbw2.size, .inl hgo, (hbw2.cell (p := ⟨g, off + j, none⟩) hg).trans (HC.out j hj), ((HT.out j hj).below hbw2).imp orNew_l⟩⟩
      · have hz0' : (z == 0) = false := by rw [beq_eq_false_iff_ne]; exact hz0
        by_cases hz1 : 0 < z
        · have hr := HI.out i hi HP.out (.inr ⟨hlt2, by rw [HZ.out]; exact hz1⟩)
          have hz1' : decide (z > 0) = true := by simpa using hz1
          clear hz0 hz1
          have hik : i ≤ kc := by omega
          have HB : Hid (Below w.heap.size w w2) := hbw2
          have HR : Hid (res = l.take i ++ t :: l.drop i) := hr
          have hWs : w.heap.size ≤ w2.heap.size := hbw2.size
          clear hr HO HI HJ HP
          go_wp2_with (at_builtin; refine wpList_append_own_at _ rfl _ _ 46 rfl w2.heap.size 22 i0 (.pointer none) 1 8 Tryz.underlying46 hi0 hz0 hz1 hz2 rfl (by decide) (.slice none 0 0) 0 [] rfl ⟨rfl, .inl ⟨rfl, rfl⟩⟩ ⟨g, off, none⟩ i kc (vs.take i) rfl ?ax0 ?ax1 ?ax2 ?ax3 ?ax4 ?ax5 ?_)
          case ax0 => simp; omega
          case ax1 =>
            intro j u hj
            have hji : j < i := by have := (List.getElem?_eq_some_iff.1 hj).1; simp at this; omega
            rw [List.getElem?_take_of_lt hji] at hj
            have e : vs.getD j .nilFunc = u := by rw [List.getD_eq_getElem?_getD, hj]; rfl
            rw [← e, ← HC.out j (by omega)]
            rw [show (⟨g, off, none⟩ : Addr).add j = ⟨g, off + j, none⟩ by simp [Addr.add]]; exact HB.out.cell (p := ⟨g, off + j, none⟩) hg
          case ax2 => intro u hu; exact HPT.out u (List.mem_of_mem_take hu)
          case ax3 => unfold maxLen; omega
          case ax4 => omega
          case ax5 => exact Nat.le_refl _
          intro v1 w1 hown1 hg1 _ hat1
          have hb1 : Below w.heap.size w w1 := below_own (v := .slice none 0 0) HB.out hWs (fun k hk => by cases hk) hg1
          have hlt1 := hown1.lt
          have hs1 := hg1.size
          have HB1 : Hid (Below w.heap.size w w1) := hb1
          clear hg1 hat1 hb1
          go_wp2_with (at_builtin; refine wpList_append_own_at _ rfl _ _ 46 rfl w2.heap.size 22 i0 (.pointer none) 1 8 Tryz.underlying46 hi0 hz0 hz1 hz2 rfl (by decide) _ _ _ rfl (World.ownsRow.alloc hown1 _) ⟨w1.heap.size, 0, none⟩ 1 1 [.pointer (some ⟨b, 0, none⟩)] rfl rfl ?bx1 ?bx2 ?bx3 ?bx4 ?bx5 ?_)
          case bx1 => exact cell_one_new w1 _ _
          case bx2 => intro u hu; simp at hu; subst hu; rfl
          case bx3 => unfold maxLen; omega
          case bx4 => omega
          case bx5 => simp; omega
          intro v2 w2' hown2 hg2 _ hat2
          have hb2' : Below w.heap.size w w2' := below_own (HB1.out.trans ((below_alloc w1 _).mono HB1.out.size)) hWs (fun k hk => (hlt1 k hk).1) hg2
          have hlt2' := hown2.lt
          have hs2 := hg2.size
          have HB2 : Hid (Below w.heap.size w w2') := hb2'
          clear hg2 hat2 hb2' hown1 hlt1
          go_wp2_with (at_builtin; refine wpList_append_own_at _ rfl _ _ 46 rfl w2.heap.size 22 i0 (.pointer none) 1 8 Tryz.underlying46 hi0 hz0 hz1 hz2 rfl (by decide) _ _ _ rfl hown2 ⟨g, off + i, none⟩ (l.length - i) (kc - i) (vs.drop i) ?dx0 ?dx6 ?dx1 ?dx2 ?dx3 ?dx4 ?dx5 ?_)
          case dx0 => rfl
          case dx6 => simp; omega
          case dx1 =>
            intro j u hj
            have hji : i + j < vs.length := by have := (List.getElem?_eq_some_iff.1 hj).1; simp at this; omega
            rw [List.getElem?_drop] at hj
            have e : vs.getD (i + j) .nilFunc = u := by rw [List.getD_eq_getElem?_getD, hj]; rfl
            rw [← e, ← HC.out (i + j) (by omega), show off + (i + j) = off + i + j by omega]
            rw [show (⟨g, off + i, none⟩ : Addr).add j = ⟨g, off + i + j, none⟩ by simp [Addr.add]]; exact HB2.out.cell (p := ⟨g, off + i + j, none⟩) hg
          case dx2 => intro u hu; exact HPT.out u (List.mem_of_mem_drop hu)
          case dx3 => unfold maxLen; omega
          case dx4 => omega
          case dx5 => simp at hs2; omega
          intro v3 w3 hown3 hg3 _ hat3
          have hb3 : Below w.heap.size w w3 := below_own HB2.out hWs (fun k hk => (hlt2' k hk).1) hg3
          have HO3 : Hid (w3.ownsRow w2.heap.size 22 1 v3 (i + 1 + (l.length - i)) (vs.take i ++ .pointer (some ⟨b, 0, none⟩) :: vs.drop i)) := hown3
          clear hg3 hat3 hown3 hlt2' hown2
          go_wp2
          go_ret
          exact adds_end hb3 hWs HO3.out hvs hi HR.out (HT.out) HV.out
        · have hz1' : decide (z > 0) = false := by simpa using hz1
          have hzn : Hid (z < 0) := by show z < 0; omega
          clear hz0 hz1
          go_wp2
          go_roundw
          case rel =>
            refine ⟨i + 1, by omega, by go_num, fun j hj => ?_, hbw2⟩
            by_cases hji : j < i
            · exact HP.out j hji
            · have : j = i := by omega
              subst this; rw [HZ.out]; exact hzn.out
          case measure => simp [intOf]; omega
    · have hi2 : i = l.length := by omega
      have hr := HI.out i hi HP.out (.inl hi2)
      have HI2 : Hid (i = l.length) := hi2
      clear hi2
      have hik : i ≤ kc := by omega
      have HB : Hid (Below w.heap.size w wr) := hbw
      have HR : Hid (res = l.take i ++ t :: l.drop i) := hr
      have hWs : w.heap.size ≤ wr.heap.size := hbw.size
      clear hr HO HI HJ HP
      go_wp2_with (at_builtin; refine wpList_append_own_at _ rfl _ _ 46 rfl wr.heap.size 22 i0 (.pointer none) 1 8 Tryz.underlying46 hi0 hz0 hz1 hz2 rfl (by decide) (.slice none 0 0) 0 [] rfl ⟨rfl, .inl ⟨rfl, rfl⟩⟩ ⟨g, off, none⟩ i kc (vs.take i) rfl ?ay0 ?ay1 ?ay2 ?ay3 ?ay4 ?ay5 ?_)
      case ay0 => simp; omega
      case ay1 =>
        intro j u hj
        have hji : j < i := by have := (List.getElem?_eq_some_iff.1 hj).1; simp at this; omega
        rw [List.getElem?_take_of_lt hji] at hj
        have e : vs.getD j .nilFunc = u := by rw [List.getD_eq_getElem?_getD, hj]; rfl
        rw [← e, ← HC.out j (by omega)]
        rw [show (⟨g, off, none⟩ : Addr).add j = ⟨g, off + j, none⟩ by simp [Addr.add]]; exact HB.out.cell (p := ⟨g, off + j, none⟩) hg
      case ay2 => intro u hu; exact HPT.out u (List.mem_of_mem_take hu)
      case ay3 => unfold maxLen; omega
      case ay4 => omega
      case ay5 => exact Nat.le_refl _
      intro v1 w1 hown1 hg1 _ hat1
      have hb1 : Below w.heap.size w w1 := below_own (v := .slice none 0 0) HB.out hWs (fun k hk => by cases hk) hg1
      have hlt1 := hown1.lt
      have hs1 := hg1.size
      have HB1 : Hid (Below w.heap.size w w1) := hb1
      clear hg1 hat1 hb1
      go_wp2_with (at_builtin; refine wpList_append_own_at _ rfl _ _ 46 rfl wr.heap.size 22 i0 (.pointer none) 1 8 Tryz.underlying46 hi0 hz0 hz1 hz2 rfl (by decide) _ _ _ rfl (World.ownsRow.alloc hown1 _) ⟨w1.heap.size, 0, none⟩ 1 1 [.pointer (some ⟨b, 0, none⟩)] rfl rfl ?by1 ?by2 ?by3 ?by4 ?by5 ?_)
      case by1 => exact cell_one_new w1 _ _
      case by2 => intro u hu; simp at hu; subst hu; rfl
      case by3 => unfold maxLen; omega
      case by4 => omega
      case by5 => simp; omega
      intro v2 w2' hown2 hg2 _ hat2
      have hb2' : Below w.heap.size w w2' := below_own (HB1.out.trans ((below_alloc w1 _).mono HB1.out.size)) hWs (fun k hk => (hlt1 k hk).1) hg2
      have hlt2' := hown2.lt
      have hs2 := hg2.size
      have HB2 : Hid (Below w.heap.size w w2') := hb2'
      clear hg2 hat2 hb2' hown1 hlt1
      by_cases hkc : kc = i
      · go_wp2_with (at_builtin; refine wpList_append_own_at _ rfl _ _ 46 rfl wr.heap.size 22 i0 (.pointer none) 1 8 Tryz.underlying46 hi0 hz0 hz1 hz2 rfl (by decide) _ _ _ rfl hown2 ⟨g, off, none⟩ (l.length - i) 0 (vs.drop i) ?dp0 ?dp6 ?dp1 ?dp2 ?dp3 ?dp4 ?dp5 ?_)
        case dp0 => rfl
        case dp6 => simp; omega
        case dp1 =>
          intro j u hj
          have h5 := (List.getElem?_eq_some_iff.1 hj).1
          simp at h5
          have := HI2.out
          omega
        case dp2 => intro u hu; exact HPT.out u (List.mem_of_mem_drop hu)
        case dp3 => unfold maxLen; omega
        case dp4 => omega
        case dp5 => simp at hs2; omega
        intro v3 w3 hown3 hg3 _ hat3
        have hb3 : Below w.heap.size w w3 := below_own HB2.out hWs (fun k hk => (hlt2' k hk).1) hg3
        have HO3 : Hid (w3.ownsRow wr.heap.size 22 1 v3 (i + 1 + (l.length - i)) (vs.take i ++ .pointer (some ⟨b, 0, none⟩) :: vs.drop i)) := hown3
        clear hg3 hat3 hown3 hlt2' hown2
        go_wp2
        go_ret
        exact adds_end hb3 hWs HO3.out hvs hi HR.out (HT.out) HV.out
      · go_wp2_with (at_builtin; refine wpList_append_own_at _ rfl _ _ 46 rfl wr.heap.size 22 i0 (.pointer none) 1 8 Tryz.underlying46 hi0 hz0 hz1 hz2 rfl (by decide) _ _ _ rfl hown2 ⟨g, off + i, none⟩ (l.length - i) (kc - i) (vs.drop i) ?dq0 ?dq6 ?dq1 ?dq2 ?dq3 ?dq4 ?dq5 ?_)
        case dq0 => rfl
        case dq6 => simp; omega
        case dq1 =>
          intro j u hj
          have h5 := (List.getElem?_eq_some_iff.1 hj).1
          simp at h5
          have := HI2.out
          omega
        case dq2 => intro u hu; exact HPT.out u (List.mem_of_mem_drop hu)
        case dq3 => unfold maxLen; omega
        case dq4 => omega
        case dq5 => simp at hs2; omega
        intro v3 w3 hown3 hg3 _ hat3
        have hb3 : Below w.heap.size w w3 := below_own HB2.out hWs (fun k hk => (hlt2' k hk).1) hg3
        have HO3 : Hid (w3.ownsRow wr.heap.size 22 1 v3 (i + 1 + (l.length - i)) (vs.take i ++ .pointer (some ⟨b, 0, none⟩) :: vs.drop i)) := hown3
        clear hg3 hat3 hown3 hlt2' hown2
        go_wp2
        go_ret
        exact adds_end hb3 hWs HO3.out hvs hi HR.out (HT.out) HV.out

end Go.Proofs.YtbjohedenfindaaGreatDoor

namespace Go.Proofs.YtbjohedenfindaaGreatDoor
open Go.RowKit
set_option linter.unusedVariables false
set_option maxRecDepth 100000

set_option maxHeartbeats 4000000 in
theorem add_nil {ok : Nat → Prop} {w : World} {k kk : Int} {b : Nat} {t : Tm} (hlt : b < w.heap.size) (c0 : w.cell? ⟨b, 0, none⟩ = some (.int .i64 kk)) (hkk : (kk == k) = false) (HV : Hid (TT ok w (.pointer (some ⟨b, 0, none⟩)) t)) :
    Calls Tryz.prog 102 #[.int .i64 k, .slice none 0 0, .pointer (some ⟨b, 0, none⟩)] w fun e w' => Adds ok w [t] e w' := by
  obtain ⟨i0, hi0, hz0, hz1, hz2⟩ := info_parts Tryz.infoPRe
  go_enter Tryz.func102, Tryz.ntmps102
  go_wp2
  go_loopw [8] (fun iv wr => iv = .int .i64 0 ∧ wr = w) (fun _ _ => 0)
  case atStart => exact ⟨rfl, rfl⟩
  case round =>
    obtain ⟨rfl, rfl⟩ := hrel
    go_wp2_with (at_builtin; refine (fun (h : Hid _) => wpList_append_own_none rfl _ _ 46 rfl wr.heap.size 22 i0 1 Tryz.underlying46 hi0 (.slice none 0 0) 0 [] rfl (World.ownsRow_nil _ _ _ _) rfl h.out) ?_)
    unfold Hid
    go_wp2_with (at_builtin; refine wpList_append_own_at _ rfl _ _ 46 rfl wr.heap.size 22 i0 (.pointer none) 1 8 Tryz.underlying46 hi0 hz0 hz1 hz2 rfl (by decide) _ _ _ rfl (World.ownsRow_nil _ _ _ _) ⟨wr.heap.size, 0, none⟩ 1 1 [.pointer (some ⟨b, 0, none⟩)] rfl rfl ?b1 ?b2 ?b3 ?b4 ?b5 ?_)
    case b1 => exact cell_one_new wr _ _
    case b2 => intro u hu; simp at hu; subst hu; rfl
    case b3 => unfold maxLen; omega
    case b4 => omega
    case b5 => simp
    intro v2 w2 hown2 hg2 _ hat2
    have hb2 : Below wr.heap.size wr w2 := below_own (v := .slice none 0 0) (below_alloc wr _) (Nat.le_refl _) (fun k hk => by cases hk) hg2
    clear hg2 hat2
    go_wp2_with (at_builtin; refine (fun (h : Hid _) => wpList_append_own_none rfl _ _ 46 rfl wr.heap.size 22 i0 1 Tryz.underlying46 hi0 _ _ _ rfl hown2 rfl h.out) ?_)
    unfold Hid
    have HO : Hid (w2.ownsRow wr.heap.size 22 1 v2 1 [.pointer (some ⟨b, 0, none⟩)]) := hown2
    clear hown2
    go_wp2
    go_ret
    exact adds_end (W := wr) (i := 0) (l := []) (vs := []) hb2 (Nat.le_refl _) HO.out rfl (Nat.le_refl _) rfl (fun j hj => by simp at hj) HV.out

/-- a list that 'add' may go on with -/
def RowOk (l : List Tm) (ka : Option Addr) (kc : Nat) : Prop := l.length ≤ kc ∧ (l = [] → ka = none ∧ kc = 0)
theorem add_one {ok : Nat → Prop} {w : World} {k : Int} {v : Value} {l : List Tm} {t : Tm} {ka : Option Addr} {kc : Nat} (hk : t.kind ≠ k) (hK : Kd ok w (.slice ka l.length kc) l) (hR : RowOk l ka kc) (hv : TT ok w v t) (hl : l.length ≤ 17592186000000) (hS : ∀ x ∈ l, Sml x) (hst : Sml t) :
    Calls Tryz.prog 102 #[.int .i64 k, .slice ka l.length kc, v] w fun e w' => Adds ok w (insS l t) e w' := by
  obtain ⟨b, sv, ka', kc', hN⟩ := hv.node
  have e := hN.v_eq; subst e
  by_cases he : l = []
  · subst he
    obtain ⟨rfl, rfl⟩ := hR.2 rfl
    exact add_nil hN.lt hN.c0 (by rw [beq_eq_false_iff_ne]; exact hk) hv
  · have hpos : 0 < l.length := List.length_pos_iff.2 he
    obtain ⟨ka2, kc2, vs, e, hvs, hc, ht⟩ := hK.vals
    injection e with e1 _ e3; subst e1 e3
    obtain ⟨g, off, rfl, hg, hgo, _⟩ := hc 0 hpos
    refine add_ins ?_ hv hvs hl hpos hR.1 hg hgo ?_ ht hS hst
    · intro kk h
      rw [hN.c0] at h
      injection h with h; injection h with _ h; subst h
      rw [beq_eq_false_iff_ne]; exact hk
    · intro j hj
      obtain ⟨g', off', e, _, _, h⟩ := hc j hj
      injection e with e; injection e with e1 e2 _; subst e1 e2
      exact h
theorem Adds.step {ok : Nat → Prop} {w w1 w2 : World} {l : List Tm} {e : Ending} (hb : Below w.heap.size w w1) (h : Adds (orNew ok w) w1 l e w2) : Adds ok w l e w2 := by
  obtain ⟨ka, kc, h1, h2, h3, h4, h5⟩ := h
  exact ⟨ka, kc, h1, h2, h3, h4.imp (orNew_trans hb.size), hb.trans (h5.mono hb.size)⟩
theorem fold_take (ks l : List Tm) (i : Nat) (h : i < ks.length) : (ks.take (i + 1)).foldl insS l = insS ((ks.take i).foldl insS l) (ks.getD i nothT) := by
  rw [List.take_succ_eq_append_getElem h, List.foldl_append]; simp [h]
theorem sml_fold {ks l : List Tm} (h : ∀ x ∈ l, Sml x) (hk : ∀ x ∈ ks, Sml x) : ∀ x ∈ ks.foldl insS l, Sml x := fun x hx => by
  rcases (mem_foldIns ks l x).1 hx with h' | h'
  · exact h x h'
  · exact hk x h'
theorem fold_len_take (ks l : List Tm) (i : Nat) : ((ks.take i).foldl insS l).length ≤ (ks.foldl insS l).length := by
  have : ks.foldl insS l = (ks.drop i).foldl insS ((ks.take i).foldl insS l) := by rw [← List.foldl_append, List.take_append_drop]
  rw [this]; exact (len_foldIns _ _).1

set_option maxHeartbeats 4000000 in
theorem add_sev {ok : Nat → Prop} {w : World} {k : Int} {b : Nat} {l ks : List Tm} {ka ka' : Option Addr} {kc kc' : Nat} (hlt : b < w.heap.size) (c0 : w.cell? ⟨b, 0, none⟩ = some (.int .i64 k)) (c4 : w.cell? ⟨b, 4, none⟩ = some (.slice ka' ks.length kc')) (hks : ks.length ≤ 17592186000000)
    (HK : Hid (Kd ok w (.slice ka l.length kc) l)) (HR : Hid (RowOk l ka kc)) (hl : (ks.foldl insS l).length ≤ 17592186000000) (HS : Hid (∀ x ∈ l, Sml x)) (HSK : Hid (∀ x ∈ ks, Sml x)) (HKK : Hid (∀ x ∈ ks, x.kind ≠ k))
    (HU : Hid (∀ j, j < ks.length → ∃ g off b1, ka' = some ⟨g, off, none⟩ ∧ g < w.heap.size ∧ w.cell? ⟨g, off + j, none⟩ = some (.pointer (some ⟨b1, 0, none⟩)) ∧ TT ok w (.pointer (some ⟨b1, 0, none⟩)) (ks.getD j nothT))) :
    Calls Tryz.prog 102 #[.int .i64 k, .slice ka l.length kc, .pointer (some ⟨b, 0, none⟩)] w fun e w' => Adds ok w (ks.foldl insS l) e w' := by
  go_enter Tryz.func102, Tryz.ntmps102
  go_wp2
  go_loopw [1, 7] (fun lv iv wr => ∃ i : Nat, i ≤ ks.length ∧ iv = .int .i64 i ∧ ∃ ka kc, lv = .slice ka ((ks.take i).foldl insS l).length kc ∧ RowOk ((ks.take i).foldl insS l) ka kc ∧ Kd (orNew ok w) wr (.slice ka ((ks.take i).foldl insS l).length kc) ((ks.take i).foldl insS l) ∧ Below w.heap.size w wr) (fun _ iv _ => ks.length - (intOf iv).toNat)
  case atStart => exact ⟨0, Nat.zero_le _, rfl, ka, kc, rfl, HR.out, HK.out.imp orNew_l, Below.refl _ _⟩
  case round =>
    obtain ⟨i, hi, rfl, ka2, kc2, rfl, hR2, hK2, hbw⟩ := hrel
    have d4 := (hbw.cell (p := ⟨b, 4, none⟩) hlt).trans c4
    clear c0 c4
    by_cases hlt2 : i < ks.length
    · obtain ⟨g, off, b1, rfl, hg, hu, hT⟩ := HU.out i hlt2
      have hu' := (hbw.cell (p := ⟨g, off + i, none⟩) hg).trans hu
      have e := fold_take ks l i hlt2
      have h1 := fold_len_take ks l i
      have h2 := fold_len_take ks l (i + 1)
      have HC : Hid (Calls Tryz.prog 102 #[.int .i64 k, .slice ka2 ((ks.take i).foldl insS l).length kc2, .pointer (some ⟨b1, 0, none⟩)] wr fun e w' => Adds (orNew ok w) wr ((ks.take (i + 1)).foldl insS l) e w') := by
        rw [e]
        exact add_one (HKK.out _ (getD_mem ks i hlt2)) hK2 hR2 ((hT.below hbw).imp orNew_l) (by omega) (sml_fold HS.out fun x hx => HSK.out x (List.mem_of_mem_take hx)) (HSK.out _ (getD_mem ks i hlt2))
      clear e hR2 hK2 hu hT h1 h2
      generalize (ks.take i).foldl insS l = li at *
      have HN : Hid (∀ w2 e2, Adds (orNew ok w) wr ((ks.take (i + 1)).foldl insS l) e2 w2 → Adds ok w ((ks.take (i + 1)).foldl insS l) e2 w2) := fun w2 e2 h => h.step hbw
      generalize hlj : (ks.take (i + 1)).foldl insS l = lj at *
      have HLJ : Hid ((ks.take (i + 1)).foldl insS l = lj) := hlj
      clear hlj
      go_wp2_with fail
      refine HC.out.mono ?_
      intro e w2 hA
      obtain ⟨ka3, kc3, rfl, hc3, hn3, hK3, hb3⟩ := HN.out w2 e hA
      have HK3 : Hid (Kd (orNew ok w) w2 (.slice ka3 lj.length kc3) lj) := hK3
      clear hA hK3
      go_wp2
      go_roundw
      case rel => exact ⟨i + 1, by omega, by go_num, ka3, kc3, by rw [HLJ.out], by rw [HLJ.out]; exact ⟨hc3, hn3⟩, by rw [HLJ.out]; exact HK3.out, hb3⟩
      case measure => simp [intOf]; omega
    · have hi2 : ks.take i = ks := List.take_of_length_le (by omega)
      rw [hi2] at hR2 hK2 ⊢
      have HK2 : Hid (Kd (orNew ok w) wr (.slice ka2 (ks.foldl insS l).length kc2) (ks.foldl insS l)) := hK2
      have HR2 : Hid (RowOk (ks.foldl insS l) ka2 kc2) := hR2
      clear hK2 hR2 hi2
      go_wp2
      go_ret
      exact ⟨_, _, rfl, HR2.out.1, HR2.out.2, HK2.out, hbw⟩

theorem foldIns_trm {k : Int} {t : Tm} {l : List Tm} (hk : t.kind ≠ k) (hn : isNo t = false) : (trm k t).foldl insS l = insS l t := by simp [trm, hk, hn]
theorem add_any {ok : Nat → Prop} {w : World} {k : Int} (hk3 : k = 3 ∨ k = 4) {v : Value} {l : List Tm} {t : Tm} {ka : Option Addr} {kc : Nat} (hno : isNo t = false) (hnf : Nf t) (hK : Kd ok w (.slice ka l.length kc) l) (hR : RowOk l ka kc) (hv : TT ok w v t) (hl : ((trm k t).foldl insS l).length ≤ 17592186000000) (hS : ∀ x ∈ l, Sml x) (hst : Sml t) :
    Calls Tryz.prog 102 #[.int .i64 k, .slice ka l.length kc, v] w fun e w' => Adds ok w ((trm k t).foldl insS l) e w' := by
  by_cases hk : t.kind = k
  · obtain ⟨b, sv, ka', kc', hN⟩ := hv.node
    have e := hN.v_eq; subst e
    have et : trm k t = t.kids := by simp [trm, hk]
    rw [et] at hl ⊢
    refine add_sev hN.lt (by rw [← hk]; exact hN.c0) hN.c4 hst.num.2.2.2.2.2 hK hR hl hS (fun x hx => hst.kid hx) (fun x hx => (trm_nf hk3 hnf (by rw [et]; exact hx)).2.1) ?_
    intro j hj
    obtain ⟨g, off, u, h1, h2, _, h3, h4⟩ := hN.kid j hj
    obtain ⟨b1, rfl⟩ := h4.ptr
    exact ⟨g, off, b1, h1, h2, h3, h4⟩
  · rw [foldIns_trm hk hno] at hl ⊢
    have := (len_insS l t).1
    exact add_one hk hK hR hv (by omega) hS hst

end Go.Proofs.YtbjohedenfindaaGreatDoor
