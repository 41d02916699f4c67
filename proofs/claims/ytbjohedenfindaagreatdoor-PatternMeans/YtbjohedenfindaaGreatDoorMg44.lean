/- Texts of the proof, put together: RTG, RTH. -/
import Derived.Test.YtbjohedenfindaaGreatDoorMg43
namespace Go.Proofs.YtbjohedenfindaaGreatDoor
open Go.RowKit
set_option linter.unusedVariables false
set_option maxRecDepth 100000

theorem gat_take (k : Int) (l : List Tm) (i : Nat) (h : i < l.length) : gatA k [] (l.take (i + 1)) = (trm k (l.getD i nothT)).foldl insS (gatA k [] (l.take i)) := by
  unfold gatA; rw [List.take_succ_eq_append_getElem h, List.foldl_append]; simp [h]
theorem gat_no (k : Int) (hk : k = 3 ∨ k = 4) (l : List Tm) (i : Nat) (h : i < l.length) (hn : isNo (l.getD i nothT) = true) : gatA k [] (l.take (i + 1)) = gatA k [] (l.take i) := by
  have h1 := (isNo_iff.1 hn).1
  have e : trm k (l.getD i nothT) = [] := by unfold trm; rw [if_neg (by omega), if_pos hn]
  rw [gat_take k l i h, e]; rfl
theorem gat_len_take (k : Int) (l : List Tm) (i : Nat) : (gatA k [] (l.take i)).length ≤ (gatA k [] l).length := by
  have : gatA k [] l = gatA k (gatA k [] (l.take i)) (l.drop i) := by unfold gatA; rw [← List.foldl_append, List.take_append_drop]
  rw [this]; exact len_gatA k _ _
theorem sml_gat {k : Int} {l : List Tm} (h : ∀ x ∈ l, Sml x) : ∀ x ∈ gatA k [] l, Sml x := fun x hx => by
  obtain hx | ⟨t, ht, hx⟩ := (mem_gatA k l [] x).1 hx
  · simp at hx
  · exact sml_trm (h t ht) hx
theorem join_no {l : List Tm} {i : Nat} (h : i < l.length) (hn : isNo (l.getD i nothT) = true) : joinS 4 l = nothT := by
  unfold joinS; rw [if_pos ⟨rfl, List.any_eq_true.2 ⟨_, getD_mem l i h, hn⟩⟩]
theorem join_one {k : Int} {l : List Tm} (h : k = 4 → ∀ j, j < l.length → isNo (l.getD j nothT) = false) : joinS k l = oneS k (gatA k [] l) := by
  unfold joinS
  rw [if_neg]
  rintro ⟨hk, ha⟩
  obtain ⟨x, hx, hn⟩ := List.any_eq_true.1 ha
  obtain ⟨j, hj, rfl⟩ := List.getElem_of_mem hx
  have := h hk j hj
  rw [List.getD_eq_getElem?_getD, List.getElem?_eq_getElem hj] at this
  simp only [Option.getD_some] at this
  rw [this] at hn; simp at hn

set_option maxHeartbeats 4000000 in
theorem joined_any {ok : Nat → Prop} {w : World} {k : Int} (hk3 : k = 3 ∨ k = 4) {lv : Value} {l : List Tm} (hK : Kd ok w lv l) (hnf : ∀ t ∈ l, Nf t) (hS : ∀ t ∈ l, Sml t) (hlen : l.length ≤ 17592186000000) (hg : (gatA k [] l).length ≤ 17592186000000) :
    Calls Tryz.prog 65 #[.int .i64 k, lv] w fun e w' => Makes ok w (joinS k l) e w' := by
  obtain ⟨ka, kc, vs, rfl, hvs, hc, ht⟩ := hK.vals
  have HU : Hid (∀ j, j < l.length → ∃ g off b1, ka = some ⟨g, off, none⟩ ∧ g < w.heap.size ∧ w.cell? ⟨g, off + j, none⟩ = some (.pointer (some ⟨b1, 0, none⟩)) ∧ TT ok w (.pointer (some ⟨b1, 0, none⟩)) (l.getD j nothT)) := fun j hj => by
    obtain ⟨g, off, h1, h2, _, h3⟩ := hc j hj
    obtain ⟨b1, hb1⟩ := (ht j hj).ptr
    have h4 := ht j hj
    rw [hb1] at h3 h4
    exact ⟨g, off, b1, h1, h2, h3, h4⟩
  have HNF : Hid (∀ t ∈ l, Nf t) := hnf
  have HS : Hid (∀ t ∈ l, Sml t) := hS
  have HK3 : Hid (k = 3 ∨ k = 4) := hk3
  have HJ0 : Hid (∀ i, i < l.length → k = 4 → isNo (l.getD i nothT) = true → joinS k l = nothT) := fun i hi h4 hn => by rw [h4]; exact join_no hi hn
  have HJ1 : Hid ((k = 4 → ∀ j, j < l.length → isNo (l.getD j nothT) = false) → joinS k l = oneS k (gatA k [] l)) := join_one
  have hgl : ∀ i, (gatA k [] (l.take i)).length ≤ 17592186000000 := fun i => Nat.le_trans (gat_len_take k l i) hg
  have HGL : Hid (∀ i, (gatA k [] (l.take i)).length ≤ 17592186000000) := hgl
  clear hK hnf hS hvs hc ht hk3 hgl
  generalize hres : joinS k l = res at *
  clear hres
  go_enter Tryz.func65, Tryz.ntmps65
  go_wp2
  go_loopw [5, 6, 7] (fun kv iv nv wr => ∃ i : Nat, i ≤ l.length ∧ iv = .int .i64 i ∧ (k = 4 → ∀ j, j < i → isNo (l.getD j nothT) = false) ∧ ∃ ka kc, kv = .slice ka (gatA k [] (l.take i)).length kc ∧ RowOk (gatA k [] (l.take i)) ka kc ∧ Kd (orNew ok w) wr (.slice ka (gatA k [] (l.take i)).length kc) (gatA k [] (l.take i)) ∧ Below w.heap.size w wr) (fun _ iv _ _ => l.length - (intOf iv).toNat)
  case atStart => exact ⟨0, Nat.zero_le _, rfl, fun _ j hj => by omega, none, 0, rfl, ⟨Nat.le_refl _, fun _ => ⟨rfl, rfl⟩⟩, Kd.nil _ _, Below.refl _ _⟩
  case round =>
    obtain ⟨i, hi, rfl, hno, ka2, kc2, rfl, hR2, hK2, hbw⟩ := hrel
    have HNO : Hid (k = 4 → ∀ j, j < i → isNo (l.getD j nothT) = false) := hno
    have HK2 : Hid (Kd (orNew ok w) wr (.slice ka2 (gatA k [] (l.take i)).length kc2) (gatA k [] (l.take i))) := hK2
    have HR2 : Hid (RowOk (gatA k [] (l.take i)) ka2 kc2) := hR2
    clear hno hK2 hR2
    by_cases hlt2 : i < l.length
    · obtain ⟨g, off, b1, rfl, hgg, hu, hT⟩ := HU.out i hlt2
      have hu' := (hbw.cell (p := ⟨g, off + i, none⟩) hgg).trans hu
      have HT : Hid (TT ok wr (.pointer (some ⟨b1, 0, none⟩)) (l.getD i nothT)) := hT.below hbw
      have HN : Hid (Calls Tryz.prog 100 #[.pointer (some ⟨b1, 0, none⟩)] wr fun e w' => e = .returned (.bool (isNo (l.getD i nothT))) ∧ w' = wr) := risNothing_any (hT.below hbw)
      clear hu hT
      cases hn : isNo (l.getD i nothT)
      · rw [hn] at HN
        have HC : Hid (Calls Tryz.prog 102 #[.int .i64 k, .slice ka2 (gatA k [] (l.take i)).length kc2, .pointer (some ⟨b1, 0, none⟩)] wr fun e w' => Adds (orNew ok w) wr (gatA k [] (l.take (i + 1))) e w') := by
          have e := gat_take k l i hlt2
          have h2 := HGL.out (i + 1)
          rw [e] at h2 ⊢
          exact add_any HK3.out hn (HNF.out _ (getD_mem l i hlt2)) HK2.out HR2.out (HT.out.imp orNew_l) h2 (sml_gat fun x hx => HS.out x (List.mem_of_mem_take hx)) (HS.out _ (getD_mem l i hlt2))
        have HNN : Hid (isNo (l.getD i nothT) = false) := hn
        have HST : Hid (∀ w2 e2, Adds (orNew ok w) wr (gatA k [] (l.take (i + 1))) e2 w2 → Adds ok w (gatA k [] (l.take (i + 1))) e2 w2) := fun w2 e2 h => h.step hbw
        clear hn HK2 HR2 HT
        generalize gatA k [] (l.take i) = li at *
        generalize hlj : gatA k [] (l.take (i + 1)) = lj at *
        have HLJ : Hid (gatA k [] (l.take (i + 1)) = lj) := hlj
        clear hlj
        go_wp2_with fail
        refine HN.out.mono ?_
        rintro e w1 ⟨rfl, rfl⟩
        go_wp2_with fail
        refine HC.out.mono ?_
        intro e w2 hA
        obtain ⟨ka3, kc3, rfl, hc3, hn3, hK3', hb3⟩ := HST.out w2 e hA
        have HK3' : Hid (Kd (orNew ok w) w2 (.slice ka3 lj.length kc3) lj) := hK3'
        clear hA hK3'
        go_wp2
        go_roundw
        case rel =>
          refine ⟨i + 1, by omega, by go_num, fun h4 j hj => ?_, ka3, kc3, by rw [HLJ.out], by rw [HLJ.out]; exact ⟨hc3, hn3⟩, by rw [HLJ.out]; exact HK3'.out, hb3⟩
          by_cases hji : j < i
          · exact HNO.out h4 j hji
          · have : j = i := by omega
            subst this; exact HNN.out
        case measure => simp [intOf]; omega
      · rw [hn] at HN
        by_cases h4 : k = 4
        · have hr := HJ0.out i hlt2 h4 hn
          subst hr h4
          have H0 : Hid (Calls Tryz.prog 68 #[] wr fun e w' => Makes (orNew ok w) wr nothT e w') := rnothing_any _ wr
          have HST : Hid (∀ w2 e2, Makes (orNew ok w) wr nothT e2 w2 → Makes ok w nothT e2 w2) := fun w2 e2 h => h.step hbw
          clear hn HK2 HR2 HT
          generalize gatA 4 [] (l.take i) = li at *
          go_wp2_with fail
          refine HN.out.mono ?_
          rintro e w1 ⟨rfl, rfl⟩
          go_wp2_with fail
          refine H0.out.mono ?_
          intro e w2 hM
          obtain ⟨v2, rfl, h2⟩ := HST.out w2 e hM
          clear hM
          go_wp2
          go_ret
          exact ⟨_, rfl, h2⟩
        · have h4' : (k == 4) = false := by rw [beq_eq_false_iff_ne]; exact h4
          have HG : Hid (gatA k [] (l.take (i + 1)) = gatA k [] (l.take i)) := gat_no k HK3.out l i hlt2 hn
          clear hn HT
          generalize hli : gatA k [] (l.take i) = li at *
          clear hli
          go_wp2_with fail
          refine HN.out.mono ?_
          rintro e w1 ⟨rfl, rfl⟩
          go_wp2
          go_roundw
          case rel => exact ⟨i + 1, by omega, by go_num, fun h => absurd h h4, ka2, kc2, by rw [HG.out], by rw [HG.out]; exact HR2.out, by rw [HG.out]; exact HK2.out, hbw⟩
          case measure => simp [intOf]; omega
    · have hi2 : l.take i = l := List.take_of_length_le (by omega)
      have hr := HJ1.out (fun h4 j hj => HNO.out h4 j (by omega))
      rw [hi2] at HR2 HK2 ⊢
      clear hi2
      have hlG : (gatA k [] l).length ≤ 17592186000000 := hg
      generalize gatA k [] l = L at *
      rcases L with _ | ⟨x, _ | ⟨y, L'⟩⟩
      ·
        have hr' : res = nothT := hr
        subst hr'
        have H0 : Hid (Calls Tryz.prog 68 #[] wr fun e w' => Makes (orNew ok w) wr nothT e w') := rnothing_any _ wr
        have HST : Hid (∀ w2 e2, Makes (orNew ok w) wr nothT e2 w2 → Makes ok w nothT e2 w2) := fun w2 e2 h => h.step hbw
        clear hr
        go_wp2_with fail
        refine H0.out.mono ?_
        intro e w2 hM
        obtain ⟨v2, rfl, h2⟩ := HST.out w2 e hM
        clear hM
        go_wp2
        go_ret
        exact ⟨_, rfl, h2⟩
      ·
        have hr' : res = x := hr
        subst hr'
        obtain ⟨ka4, kc4, vs4, e4, hv4, hc4, ht4⟩ := HK2.out.vals
        injection e4 with e4 _ e5; subst e4 e5
        obtain ⟨g, off, rfl, hgg, _, hu⟩ := hc4 0 (by simp)
        have hT := ht4 0 (by simp)
        obtain ⟨b1, hb1⟩ := hT.ptr
        rw [hb1] at hu hT
        have hT' : TT (orNew ok w) wr (.pointer (some ⟨b1, 0, none⟩)) res := hT
        have HT : Hid (TT (orNew ok w) wr (.pointer (some ⟨b1, 0, none⟩)) res) := hT'
        have hu : wr.cell? ⟨g, off, none⟩ = some (.pointer (some ⟨b1, 0, none⟩)) := by simpa using hu
        clear hr hc4 ht4 hT hT' hb1
        go_wp2
        go_ret
        refine ⟨_, rfl, ?_, hbw⟩
        exact HT.out
      ·
        have hr' : res = sevT k (x :: y :: L') := hr
        subst hr'
        have q0 : (((x :: y :: L').length : Int) == 0) = false := by rw [beq_eq_false_iff_ne]; simp; omega
        have q1 : (((x :: y :: L').length : Int) == 1) = false := by rw [beq_eq_false_iff_ne]; simp; omega
        clear hr
        generalize hLL : x :: y :: L' = LL at *
        have HLL : Hid (x :: y :: L' = LL) := hLL
        clear hLL
        go_wp2
        go_ret
        have e := HLL.out
        subst e
        exact ⟨_, rfl, TT.new (.inr hbw.size) HK2.out rfl, hbw.trans ((below_alloc wr _).mono hbw.size)⟩

end Go.Proofs.YtbjohedenfindaaGreatDoor

namespace Go.Proofs.YtbjohedenfindaaGreatDoor
open Go.RowKit
set_option linter.unusedVariables false
set_option maxRecDepth 100000

/-- trees in a row of the call's own, which none of them has a part in -/
def KO (ok : Nat → Prop) (w : World) (B : Nat) (v : Value) (l : List Tm) : Prop :=
  ∃ vs : List Value, vs.length = l.length ∧ w.ownsRow B 22 1 v vs.length vs ∧ ∀ j, j < l.length → TT (fun b => ok b ∧ v.ownBlock ≠ some b) w (vs.getD j .nilFunc) (l.getD j nothT)
theorem KO.nil (ok : Nat → Prop) (w : World) (B : Nat) : KO ok w B (.slice none 0 0) [] := ⟨[], rfl, World.ownsRow_nil _ _ _ _, fun j hj => by simp at hj⟩
theorem KO.kd {ok : Nat → Prop} {w : World} {B : Nat} {v : Value} {l : List Tm} (h : KO ok w B v l) (hk : ∀ b, B ≤ b → ok b) : Kd ok w v l := by
  obtain ⟨vs, h1, h2, h3⟩ := h
  exact Kd.of_own h2 h1 (fun j hj => (h3 j hj).imp fun b hb => hb.1) hk
theorem KO.slice {ok : Nat → Prop} {w : World} {B : Nat} {v : Value} {l : List Tm} (h : KO ok w B v l) : ∃ a c, v = .slice a l.length c := by
  obtain ⟨vs, hl, hown, _⟩ := h
  rcases hown.2 with ⟨rfl, h0⟩ | ⟨g, cap, cur, rfl, _⟩
  · exact ⟨none, 0, by rw [← hl, h0]⟩
  · exact ⟨_, _, by rw [← hl]⟩
theorem KO.below {ok : Nat → Prop} {w w' : World} {B : Nat} {v : Value} {l : List Tm} (h : KO ok w B v l) (hb : Below w.heap.size w w') : KO ok w' B v l := by
  obtain ⟨vs, h1, h2, h3⟩ := h
  refine ⟨vs, h1, ?_, fun j hj => (h3 j hj).below hb⟩
  have hg : w.grownBy w' none := ⟨hb.os, hb.tape, hb.output, hb.size, fun k hk _ => hb.block k hk⟩
  refine h2.kept hg ?_
  cases hv : v.ownBlock with
  | none => exact Or.inl rfl
  | some k => right; simp
theorem KO.snoc {ok : Nat → Prop} {w w4 : World} {B : Nat} {v v' p : Value} {l : List Tm} {t : Tm} {vs : List Value} {o : Obj} (hl : vs.length = l.length) (hall : ∀ j, j < l.length → TT (fun b => ok b ∧ v.ownBlock ≠ some b) w (vs.getD j .nilFunc) (l.getD j nothT)) (hp : TT (fun b => ok b ∧ v.ownBlock ≠ some b) w p t)
    (hown : w4.ownsRow B 22 1 v' (vs.length + 1) (vs ++ [p])) (hg : (w.alloc o).grownBy w4 v.ownBlock) (hat : v'.ownBlock = v.ownBlock ∨ v'.ownBlock = some (w.alloc o).heap.size) : KO ok w4 B v' (l ++ [t]) := by
  have hmv : ∀ {u : Value} {t : Tm}, TT (fun b => ok b ∧ v.ownBlock ≠ some b) w u t → TT (fun b => ok b ∧ v'.ownBlock ≠ some b) w4 u t := fun h => by
    refine Tree.moved h (Nat.le_trans (by simp) hg.size) fun b hb hok => ⟨⟨hok.1, ?_⟩, ?_⟩
    · rcases hat with h | h
      · rw [h]; exact hok.2
      · rw [h]; simp; omega
    · rw [hg.block b (by simp; omega) (fun e => hok.2 e.symm)]
      exact Below.heap_alloc w o b hb
  refine ⟨vs ++ [p], by simp [hl], by simpa using hown, fun j hj => ?_⟩
  by_cases hj2 : j < l.length
  · have e : (vs ++ [p]).getD j .nilFunc = vs.getD j .nilFunc := by simp [List.getD_eq_getElem?_getD, List.getElem?_append_left (show j < vs.length by omega)]
    have e2 : (l ++ [t]).getD j nothT = l.getD j nothT := by simp [List.getD_eq_getElem?_getD, List.getElem?_append_left hj2]
    rw [e, e2]; exact hmv (hall j hj2)
  · have hj3 : j = l.length := by simp at hj; omega
    subst hj3
    have e : (vs ++ [p]).getD l.length .nilFunc = p := by rw [← hl]; simp
    have e2 : (l ++ [t]).getD l.length nothT = t := by simp
    rw [e, e2]; exact hmv hp
/-- what is made by a call lies in old blocks or in new ones: not in the row of the caller's own -/
theorem made_apart {ok : Nat → Prop} {w wr w2 : World} {v lv : Value} {t : Tm} {n : Nat} {vs : List Value} (hb : w.heap.size ≤ wr.heap.size) (hown : wr.ownsRow w.heap.size 22 1 lv n vs) (h : TT (orNew (fun b => ok b ∧ b < w.heap.size) wr) w2 v t) : TT (fun b => orNew ok w b ∧ lv.ownBlock ≠ some b) w2 v t := by
  refine h.imp fun b hb' => ?_
  have hlt := hown.lt
  rcases hb' with ⟨h1, h2⟩ | h1
  · exact ⟨.inl h1, fun e => by have := (hlt b e).1; omega⟩
  · exact ⟨.inr (Nat.le_trans hb h1), fun e => by have := (hlt b e).2; omega⟩
theorem TT.old {ok : Nat → Prop} {w w' : World} {v : Value} {t : Tm} (h : TT ok w v t) (hb : Below w.heap.size w w') : TT (fun b => ok b ∧ b < w.heap.size) w' v t :=
  Tree.moved h hb.size fun b hb' hok => ⟨⟨hok, hb'⟩, hb.block b hb'⟩

theorem map_take (f : Tm → Tm) (l : List Tm) (i : Nat) (h : i < l.length) : (l.take (i + 1)).map f = (l.take i).map f ++ [f (l.getD i nothT)] := by
  rw [List.take_succ_eq_append_getElem h, List.map_append]; simp [h]
theorem foldr_drop (l : List Tm) (i : Nat) (h : i < l.length) : (l.drop i).foldr catS emptT = catS (l.getD i nothT) ((l.drop (i + 1)).foldr catS emptT) := by
  rw [List.drop_eq_getElem_cons h, List.foldr_cons, List.getD_eq_getElem?_getD, List.getElem?_eq_getElem h]; rfl

theorem gat_plain_len {k : Int} (hk : k = 3 ∨ k = 4) {l : List Tm} (h5 : ∀ x ∈ l, Org x) (hw : (l.map wT).sum ≤ 24) : (gatA k [] (l.map plainS)).length ≤ 17592186000000 := by
  have h1 := len_sum (gatA k [] (l.map plainS))
  have h2 := sum_gat gT k (trm_gT k hk) (l.map plainS) []
  have h3 := pow_sum l fun x hx => (plain_small x (h5 x hx)).1
  have h4 : 3 ^ (l.map wT).sum ≤ 3 ^ 24 := Nat.pow_le_pow_right (by omega) (by omega)
  have e : sumG gT [] = 0 := rfl
  have : (3 : Nat) ^ 24 = 282429536481 := by decide
  omega
theorem org_kids {t : Tm} (h : Org t) (hw : wT t ≤ 24) (hs : Sml t) : (∀ x ∈ t.kids, Org x ∧ Sml x ∧ wT x ≤ 24) ∧ ((t.kind = 2 ∨ t.kind = 3 ∨ t.kind = 4) → (t.kids.map wT).sum ≤ 24) ∧ ((t.kind = 5 ∨ t.kind = 6) → t.kids.length = 1) ∧ (t.kind = 6 → 0 ≤ t.mn ∧ (t.mx = -1 ∨ t.mn ≤ t.mx)) := by
  have h2 := (org_iff.1 h).2
  have hk : ∀ x ∈ t.kids, wT x ≤ 24 := by
    intro x hx
    have h3 := sum_mem wT hx
    rw [wT_eq] at hw
    split at hw
    · rename_i h1
      rcases (org_iff.1 h).1 with ⟨s, rfl⟩ | ⟨l, rfl⟩ | ⟨k, l, hk, rfl, hl⟩ | ⟨x, rfl⟩ | ⟨x, lo, hi, rfl, h3, h4⟩
      · simp [setT] at hx
      · simp [sevT] at h1
      · simp only [sevT] at h1; omega
      · simp [notT] at h1
      · simp [repT] at h1
    · split at hw
      · have := Nat.le_mul_of_pos_right (t.kids.map wT).sum (show 0 < max (max t.mn t.mx).toNat 1 by omega)
        omega
      · omega
  refine ⟨fun x hx => ⟨h2 x hx, hs.kid hx, hk x hx⟩, ?_, ?_, ?_⟩
  · intro hkk; rw [wT_eq, if_neg (by omega), if_neg (by omega)] at hw; omega
  · intro hkk
    rcases (org_iff.1 h).1 with ⟨s, rfl⟩ | ⟨l, rfl⟩ | ⟨k, l, hk, rfl, hl⟩ | ⟨x, rfl⟩ | ⟨x, lo, hi, rfl, h3, h4⟩
    · simp [setT] at hkk
    · simp [sevT] at hkk
    · simp only [sevT] at hkk; omega
    · simp [notT]
    · simp [repT]
  · intro hkk
    rcases (org_iff.1 h).1 with ⟨s, rfl⟩ | ⟨l, rfl⟩ | ⟨k, l, hk, rfl, hl⟩ | ⟨x, rfl⟩ | ⟨x, lo, hi, rfl, h3, h4⟩
    · simp [setT] at hkk
    · simp [sevT] at hkk
    · simp only [sevT] at hkk; omega
    · simp [notT] at hkk
    · exact ⟨h3, by simp only [repT]; omega⟩
def PlainC (t : Tm) : Prop := ∀ (ok : Nat → Prop) (w : World) (v : Value), TT ok w v t → Calls Tryz.prog 37 #[v] w fun e w' => Makes ok w (plainS t) e w'

set_option maxHeartbeats 8000000 in
theorem plain_raw {ok : Nat → Prop} {w : World} {b : Nat} {t : Tm} {ka : Option Addr} {kc : Nat} (hO : Org t) (hw : wT t ≤ 24) (hSm : Sml t) (hv : TT ok w (.pointer (some ⟨b, 0, none⟩)) t) (hlt : b < w.heap.size) (c0 : w.cell? ⟨b, 0, none⟩ = some (.int .i64 t.kind)) (c2 : w.cell? ⟨b, 2, none⟩ = some (.int .i64 t.mn)) (c3 : w.cell? ⟨b, 3, none⟩ = some (.int .i64 t.mx)) (c4 : w.cell? ⟨b, 4, none⟩ = some (.slice ka t.kids.length kc))
    (HU : Hid (∀ j, j < t.kids.length → ∃ g off b1, ka = some ⟨g, off, none⟩ ∧ g < w.heap.size ∧ w.cell? ⟨g, off + j, none⟩ = some (.pointer (some ⟨b1, 0, none⟩)) ∧ TT ok w (.pointer (some ⟨b1, 0, none⟩)) (t.kids.getD j nothT)))
    (HP : Hid (∀ j, j < t.kids.length → PlainC (t.kids.getD j nothT))) :
    Calls Tryz.prog 37 #[.pointer (some ⟨b, 0, none⟩)] w fun e w' => Makes ok w (plainS t) e w' := by
  obtain ⟨i0, hi0, hz0, hz1, hz2⟩ := info_parts Tryz.infoPRe
  have HO : Hid (Org t) := hO
  have HW : Hid (wT t ≤ 24) := hw
  have HSM : Hid (Sml t) := hSm
  have HV : Hid (TT ok w (.pointer (some ⟨b, 0, none⟩)) t) := hv
  have hkl : t.kids.length ≤ 17592186000000 := hSm.num.2.2.2.2.2
  have HE : Hid (plainS t = if t.kind = 2 then (t.kids.map plainS).foldr catS emptT else if t.kind = 3 ∨ t.kind = 4 then joinS t.kind (t.kids.map plainS)
    else if t.kind = 6 then repS ((t.kids.map plainS).headD nothT) t.mn t.mx else if t.kind = 5 then ⟨5, [], 0, 0, t.kids.map plainS⟩ else t) := plainS_eq t
  clear hO hw hSm hv
  generalize plainS t = res at *
  go_enter Tryz.func37, Tryz.ntmps37
  go_wp2
  go_loopw [3, 4, 5] (fun lv iv kv wr => ∃ i : Nat, i ≤ t.kids.length ∧ iv = .int .i64 i ∧ KO (orNew ok w) wr w.heap.size lv ((t.kids.take i).map plainS) ∧ Below w.heap.size w wr) (fun _ iv _ _ => t.kids.length - (intOf iv).toNat)
  case atStart => exact ⟨0, Nat.zero_le _, rfl, KO.nil _ _ _, Below.refl _ _⟩
  case round =>
    obtain ⟨i, hi, rfl, hKO, hbw⟩ := hrel
    have d0 := (hbw.cell (p := ⟨b, 0, none⟩) hlt).trans c0
    have d2 := (hbw.cell (p := ⟨b, 2, none⟩) hlt).trans c2
    have d3 := (hbw.cell (p := ⟨b, 3, none⟩) hlt).trans c3
    have d4 := (hbw.cell (p := ⟨b, 4, none⟩) hlt).trans c4
    clear c0 c2 c3 c4
    by_cases hlt2 : i < t.kids.length
    · obtain ⟨g, off, b1, rfl, hgg, hu, hT⟩ := HU.out i hlt2
      have hu' := (hbw.cell (p := ⟨g, off + i, none⟩) hgg).trans hu
      have HC : Hid (Calls Tryz.prog 37 #[.pointer (some ⟨b1, 0, none⟩)] wr fun e w' => Makes (fun b => ok b ∧ b < w.heap.size) wr (plainS (t.kids.getD i nothT)) e w') := HP.out i hlt2 _ wr _ (hT.old hbw)
      have HM : Hid ((t.kids.take (i + 1)).map plainS = (t.kids.take i).map plainS ++ [plainS (t.kids.getD i nothT)]) := map_take plainS t.kids i hlt2
      have hil : ((t.kids.take i).map plainS).length = i := by simp; omega
      obtain ⟨a3, c3', rfl⟩ := hKO.slice
      have HKO : Hid (KO (orNew ok w) wr w.heap.size (.slice a3 ((t.kids.take i).map plainS).length c3') ((t.kids.take i).map plainS)) := hKO
      rw [hil] at HKO
      generalize hli : (t.kids.take i).map plainS = li at *
      have HLI : Hid (li.length = i) := hil
      generalize plainS (t.kids.getD i nothT) = pk at *
      have HLE : Hid ((t.kids.take i).map plainS = li) := hli
      rw [hil]
      clear hu hT hKO hli hil d0 d2 d3 HE HO HW HSM
      go_wp2_with fail
      refine HC.out.mono ?_
      rintro e w2 ⟨v2, rfl, hT2, hb2⟩
      have hbw2 := hbw.trans (hb2.mono hbw.size)
      obtain ⟨vs, hl, hown, hall⟩ := HKO.out.below hb2
      have hlt3 := hown.lt
      have hT3 : TT (fun b => orNew ok w b ∧ (Value.slice a3 i c3').ownBlock ≠ some b) w2 v2 pk := by
        obtain ⟨vs', _, hown', _⟩ := HKO.out
        exact made_apart hbw.size hown' hT2
      obtain ⟨b3, rfl⟩ := hT2.ptr
      have HT3 : Hid (TT (fun b => orNew ok w b ∧ (Value.slice a3 i c3').ownBlock ≠ some b) w2 (.pointer (some ⟨b3, 0, none⟩)) pk) := hT3
      have HAll : Hid (∀ j, j < li.length → TT (fun b => orNew ok w b ∧ (Value.slice a3 i c3').ownBlock ≠ some b) w2 (vs.getD j .nilFunc) (li.getD j nothT)) := hall
      have HL : Hid (vs.length = li.length) := hl
      have hvs : vs.length ≤ 17592186000000 := by have := HLI.out; omega
      clear hT2 hT3 hall hl d4 hu'
      go_wp2_with (at_builtin; refine wpList_append_own_at _ rfl _ _ 46 rfl w.heap.size 22 i0 (.pointer none) 1 8 Tryz.underlying46 hi0 hz0 hz1 hz2 rfl (by decide) _ _ _ rfl (World.ownsRow.alloc hown _) ⟨w2.heap.size, 0, none⟩ 1 1 [.pointer (some ⟨b3, 0, none⟩)] rfl rfl ?c1 ?c2 ?c3 ?c4 ?c5 ?_)
      case c1 => exact cell_one_new w2 _ _
      case c2 => intro u hu; simp at hu; subst hu; rfl
      case c3 => unfold maxLen; omega
      case c4 => omega
      case c5 => simp; have := hbw2.size; omega
      intro v' w4 hown' hgrow _ hat
      have hb4 : Below w.heap.size w w4 := below_own (hbw2.trans ((below_alloc w2 _).mono hbw2.size)) (Nat.le_refl _) (fun k hk => (hlt3 k hk).1) hgrow
      have HKN : Hid (KO (orNew ok w) w4 w.heap.size v' (li ++ [pk])) := KO.snoc HL.out HAll.out HT3.out hown' hgrow (by simpa using hat)
      clear hown' hgrow hat hown hlt3
      go_wp2
      go_roundw
      case rel => exact ⟨i + 1, by omega, by go_num, by rw [HM.out]; exact HKN.out, hb4⟩
      case measure => simp [intOf]; omega
    · have hi2 : t.kids.take i = t.kids := List.take_of_length_le (by omega)
      rw [hi2] at hKO
      obtain ⟨hkids, hsum, hone, hrep⟩ := org_kids HO.out HW.out HSM.out
      have hnum := HSM.out.num
      have HKd : Hid (Kd (orNew ok w) wr u3 (t.kids.map plainS)) := hKO.kd fun b hb => .inr hb
      obtain ⟨a3, c3', rfl⟩ := hKO.slice
      have HNf : Hid (∀ x ∈ t.kids.map plainS, Nf x) := fun x hx => by obtain ⟨u, hu, rfl⟩ := List.mem_map.1 hx; exact nf_plain u (hkids u hu).1
      have HSm : Hid (∀ x ∈ t.kids.map plainS, Sml x) := fun x hx => by obtain ⟨u, hu, rfl⟩ := List.mem_map.1 hx; exact sml_plain u (hkids u hu).1 (hkids u hu).2.1 (hkids u hu).2.2
      have HGL : Hid (∀ k, (k = 3 ∨ k = 4) → t.kind = k → (gatA k [] (t.kids.map plainS)).length ≤ 17592186000000) := fun k hk e => gat_plain_len hk (fun x hx => (hkids x hx).1) (hsum (by omega))
      have hKl : (t.kids.map plainS).length = t.kids.length := by simp
      have HK1 : Hid ((t.kind = 5 ∨ t.kind = 6) → (t.kids.map plainS).length = 1) := fun h => by rw [hKl]; exact hone h
      have HREP : Hid (t.kind = 6 → 0 ≤ t.mn ∧ (t.mx = -1 ∨ t.mn ≤ t.mx)) := hrep
      have hKN : (t.kids.map plainS).length ≤ 17592186000000 := by rw [hKl]; exact hkl
      have HMk : Hid (∀ (tt : Tm) w1 e2 w2, Below wr.heap.size wr w1 → Makes (orNew ok w) w1 tt e2 w2 → Makes ok w tt e2 w2) := fun tt w1 e2 w2 hb1 h => h.step (hbw.trans (hb1.mono hbw.size))
      have HB : Hid (Below w.heap.size w wr) := hbw
      clear hi2 hKO hkids hsum hone hrep HO HW HU HP hKl
      generalize t.kids.map plainS = K at *
      by_cases k2 : t.kind = 2
      · have hr : res = K.foldr catS emptT := by rw [HE.out, if_pos k2]
        have HR : Hid (res = K.foldr catS emptT) := hr
        rw [k2] at d0
        have H1 : Hid (Calls Tryz.prog 63 #[] wr fun e w' => Makes (orNew ok w) wr emptT e w') := rempty_any _ wr
        clear hr HE HGL HK1 HREP d2 d3 k2 hnum HMk HSM HV
        go_wp2_with fail
        refine H1.out.mono ?_
        rintro e w5 ⟨v5, rfl, hT5, hb5⟩
        obtain ⟨b5, rfl⟩ := hT5.ptr
        have HT5 : Hid (TT (orNew ok w) w5 (.pointer (some ⟨b5, 0, none⟩)) emptT) := hT5.imp (orNew_trans HB.out.size)
        have HK5 : Hid (Kd (orNew ok w) w5 (.slice a3 K.length c3') K) := HKd.out.below hb5
        have HB5 : Hid (Below w.heap.size w w5) := HB.out.trans (hb5.mono HB.out.size)
        clear hT5 hb5 H1 d0 hbw
        go_wp2
        go_loopw [6, 7] (fun ov iv wx => ∃ m : Nat, m ≤ K.length ∧ iv = .int .i64 ((m : Int) - 1) ∧ TT (orNew ok w) wx ov ((K.drop m).foldr catS emptT) ∧ Kd (orNew ok w) wx (.slice a3 K.length c3') K ∧ Below w.heap.size w wx) (fun _ iv _ => (intOf iv + 1).toNat)
        case atStart => exact ⟨K.length, Nat.le_refl _, by go_num, by rw [List.drop_length]; exact HT5.out, HK5.out, HB5.out⟩
        case round =>
          obtain ⟨m, hm, rfl, hTx, hKx, hbx⟩ := hrel
          clear HT5 HK5 HB5
          rcases m with _ | m
          · have hTx' : TT (orNew ok w) wr u6 (K.foldr catS emptT) := by simpa using hTx
            have HTx : Hid (TT (orNew ok w) wr u6 (K.foldr catS emptT)) := hTx'
            have hBx : Hid (Below w.heap.size w wr) := hbx
            clear hTx hTx' hKx hbx
            go_wp2
            go_ret
            rw [HR.out]
            exact ⟨_, rfl, HTx.out, hBx.out⟩
          · have e1 : ((m + 1 : Nat) : Int) - 1 = (m : Int) := by omega
            rw [e1]
            have hlt3 : m < K.length := by omega
            obtain ⟨ka4, kc4, vs4, e4, hv4, hc4, ht4⟩ := hKx.vals
            injection e4 with e4 _ e5; subst e4 e5
            obtain ⟨g, off, rfl, hgg, _, hu⟩ := hc4 m hlt3
            obtain ⟨b1, hb1⟩ := (ht4 m hlt3).ptr
            have hT1 := ht4 m hlt3
            rw [hb1] at hu hT1
            obtain ⟨b6, rfl⟩ := hTx.ptr
            have HC : Hid (Calls Tryz.prog 64 #[.pointer (some ⟨b1, 0, none⟩), .pointer (some ⟨b6, 0, none⟩)] wr fun e w' => Makes (orNew ok w) wr ((K.drop m).foldr catS emptT) e w') := by
              rw [foldr_drop K m hlt3]
              exact rcat_any _ _ wr _ _ _ hT1 hTx (HNf.out _ (getD_mem K m hlt3)) (nf_row _ fun x hx => HNf.out x (List.mem_of_mem_drop hx))
            have HKx : Hid (Kd (orNew ok w) wr (.slice (some ⟨g, off, none⟩) K.length c3') K) := hKx
            clear hc4 ht4 hT1 hTx hb1 hKx
            go_wp2_with fail
            refine HC.out.mono ?_
            rintro e w6 ⟨v6, rfl, hT6, hb6⟩
            obtain ⟨b7, rfl⟩ := hT6.ptr
            have HT6 : Hid (TT (orNew ok w) w6 (.pointer (some ⟨b7, 0, none⟩)) ((K.drop m).foldr catS emptT)) := hT6.imp (orNew_trans hbx.size)
            clear hT6
            go_wp2
            go_roundw
            case rel => exact ⟨m, by omega, by go_num, HT6.out, HKx.out.below hb6, hbx.trans (hb6.mono hbx.size)⟩
            case measure => simp [intOf]
      · have q2 : (t.kind == 2) = false := by rw [beq_eq_false_iff_ne]; exact k2
        by_cases k34 : t.kind = 3 ∨ t.kind = 4
        · have hr : res = joinS t.kind K := by rw [HE.out, if_neg k2, if_pos k34]
          have HC : Hid (Calls Tryz.prog 65 #[.int .i64 t.kind, .slice a3 K.length c3'] wr fun e w' => Makes (orNew ok w) wr (joinS t.kind K) e w') := joined_any k34 HKd.out HNf.out HSm.out hKN (HGL.out _ k34 rfl)
          have HM := HMk.out (joinS t.kind K) wr
          rw [← hr] at HC HM
          have HMM : Hid (∀ e2 w2, Makes (orNew ok w) wr res e2 w2 → Makes ok w res e2 w2) := fun e2 w2 h => HM e2 w2 (Below.refl _ _) h
          clear hr HE HGL HK1 HREP d2 d3 k2 hnum HMk HM HSM HV HKd HNf HSm
          generalize t.kind = kk at *
          rcases k34 with rfl | rfl
          · go_wp2_with fail
            refine HC.out.mono ?_
            intro e w5 hM
            obtain ⟨v5, rfl, h5⟩ := HMM.out e w5 hM
            clear hM
            go_wp2
            go_ret
            exact ⟨_, rfl, h5⟩
          · go_wp2_with fail
            refine HC.out.mono ?_
            intro e w5 hM
            obtain ⟨v5, rfl, h5⟩ := HMM.out e w5 hM
            clear hM
            go_wp2
            go_ret
            exact ⟨_, rfl, h5⟩
        · have q3 : (t.kind == 3) = false := by rw [beq_eq_false_iff_ne]; omega
          have q4 : (t.kind == 4) = false := by rw [beq_eq_false_iff_ne]; omega
          by_cases k6 : t.kind = 6
          · have h1 := HK1.out (.inr k6)
            have hr : res = repS (K.headD nothT) t.mn t.mx := by rw [HE.out, if_neg k2, if_neg k34, if_pos k6]
            obtain ⟨x, rfl⟩ := List.length_eq_one_iff.1 h1
            obtain ⟨ka4, kc4, vs4, e4, hv4, hc4, ht4⟩ := HKd.out.vals
            injection e4 with e4 _ e5; subst e4 e5
            obtain ⟨g, off, rfl, hgg, _, hu⟩ := hc4 0 (by simp)
            obtain ⟨b1, hb1⟩ := (ht4 0 (by simp)).ptr
            have hT1 := ht4 0 (by simp)
            rw [hb1] at hu hT1
            have hT1' : TT (orNew ok w) wr (.pointer (some ⟨b1, 0, none⟩)) x := hT1
            have hu' : wr.cell? ⟨g, off, none⟩ = some (.pointer (some ⟨b1, 0, none⟩)) := by simpa using hu
            have hr' : res = repS x t.mn t.mx := hr
            have HM := HMk.out (repS x t.mn t.mx)
            have HC : Hid (∀ w1, Below wr.heap.size wr w1 → Calls Tryz.prog 66 #[.pointer (some ⟨b1, 0, none⟩), .int .i64 t.mn, .int .i64 t.mx] w1 fun e w' => Makes ok w (repS x t.mn t.mx) e w') := fun w1 hb1 => (rrepeated_any (hT1'.below hb1) t.mn t.mx).mono fun e w' h => HM w1 e w' hb1 h
            rw [← hr'] at HC
            rw [k6] at d0
            clear hr hr' HM hT1 hT1' hc4 ht4 hb1 hu HE HGL HK1 HREP HMk HSM HV HKd HNf HSm hnum k34 q2 q3 q4 h1 k2
            generalize t.mn = mn at *
            generalize t.mx = mx at *
            go_wp2
            go_region_with (go_at_call 66; refine (HC.out _ ?_).mono ?_; exact below_drew1 (Below.refl _ _); rintro e w5 ⟨v5, rfl, h5⟩)
            all_goals
              go_wp2
              go_ret
              exact ⟨_, rfl, h5⟩
          · have q6 : (t.kind == 6) = false := by rw [beq_eq_false_iff_ne]; exact k6
            by_cases k5 : t.kind = 5
            · have hr : res = ⟨5, [], 0, 0, K⟩ := by rw [HE.out, if_neg k2, if_neg k34, if_neg k6, if_pos k5]
              subst hr
              rw [k5] at d0
              clear HE HGL HK1 HREP HMk HSM HV HNf HSm hnum k34 k2 k6 q2 q3 q4 q6 d2 d3
              go_wp2
              go_ret
              exact ⟨_, rfl, TT.new (.inr hbw.size) HKd.out rfl, hbw.trans ((below_alloc wr _).mono hbw.size)⟩
            · have q5 : (t.kind == 5) = false := by rw [beq_eq_false_iff_ne]; exact k5
              have hr : res = t := by rw [HE.out, if_neg k2, if_neg k34, if_neg k6, if_neg k5]
              have HR : Hid (res = t) := hr
              clear hr HE HGL HK1 HREP HMk HSM HNf HSm hnum k34 k2 k6 d2 d3 k5
              generalize t.kind = kk at *
              go_wp2
              go_ret
              rw [HR.out]
              exact ⟨_, rfl, (HV.out.below hbw).imp orNew_l, hbw⟩

theorem plain_any : ∀ (t : Tm), Org t → wT t ≤ 24 → Sml t → PlainC t := by
  refine Tm.ind ?_
  intro t ih hO hw hs ok w v hv
  obtain ⟨b, sv, ka, kc, hN⟩ := hv.node
  have e := hN.v_eq; subst e
  have hk := (org_kids hO hw hs).1
  refine plain_raw hO hw hs hv hN.lt hN.c0 hN.c2 hN.c3 hN.c4 ?_ ?_
  · intro j hj
    obtain ⟨g, off, u, h1, h2, _, h3, h4⟩ := hN.kid j hj
    obtain ⟨b1, rfl⟩ := h4.ptr
    exact ⟨g, off, b1, h1, h2, h3, h4⟩
  · intro j hj
    have hm := getD_mem t.kids j hj
    exact ih _ hm (hk _ hm).1 (hk _ hm).2.2 (hk _ hm).2.1

end Go.Proofs.YtbjohedenfindaaGreatDoor
