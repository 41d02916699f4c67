/- Texts of the proof, put together: RTI, RTJ, RTK, RPts. -/
import Derived.Test.YtbjohedenfindaaGreatDoorMg44
import Derived.Test.YtbjohedenfindaaGreatDoorMg04
import Derived.Test.YtbjohedenfindaaGreatDoorMg08
import Derived.BigQuiet
import Derived.Deep.QuietTactic
namespace Go.Proofs.YtbjohedenfindaaGreatDoor
open Go.RowKit
set_option linter.unusedVariables false
set_option maxRecDepth 100000

def BehC (N N1 : Nat) (c : Int) (t : Tm) : Prop := ∀ (ok : Nat → Prop) (w : World) (v : Value), TT ok w v t → Nf t → Sml t → Fine N N1 c t → Calls Tryz.prog 38 #[v, .int .i64 c] w fun e w' => Makes ok w (dv c t) e w'

theorem gat4_len {k : Int} {N1 : Nat} : ∀ (l acc : List Tm), (∀ x ∈ l, (trm k x).length ≤ N1) → (gatA k acc l).length ≤ acc.length + l.length * N1
  | [], acc, _ => by simp [gatA]
  | t :: l, acc, h => by
    have h1 := gat4_len l ((trm k t).foldl insS acc) fun x hx => h x (by simp [hx])
    have h2 := (len_foldIns (trm k t) acc).2
    have h3 := h t (by simp)
    have e : gatA k acc (t :: l) = gatA k ((trm k t).foldl insS acc) l := rfl
    rw [e, List.length_cons, Nat.add_mul]; omega

set_option maxHeartbeats 2000000 in
theorem beh_set {ok : Nat → Prop} {w : World} {b : Nat} {c : Int} {s : List Rg} {sa : Option Addr} {n sc : Nat} (c0 : w.cell? ⟨b, 0, none⟩ = some (.int .i64 1)) (c1 : w.cell? ⟨b, 1, none⟩ = some (.slice sa n sc)) (HH : Hid (Calls Tryz.prog 67 #[.slice sa n sc, .int .i64 c] w fun e w' => e = .returned (.bool (hasB s c)) ∧ w' = w)) :
    Calls Tryz.prog 38 #[.pointer (some ⟨b, 0, none⟩), .int .i64 c] w fun e w' => Makes ok w (if hasB s c then emptT else nothT) e w' := by
  have H0 : Hid (Calls Tryz.prog 68 #[] w fun e w' => Makes ok w nothT e w') := rnothing_any ok w
  have H1 : Hid (Calls Tryz.prog 63 #[] w fun e w' => Makes ok w emptT e w') := rempty_any ok w
  cases hb : hasB s c
  · rw [hb] at HH
    rw [if_neg (by simp)]
    clear H1 hb
    go_enter Tryz.func38, Tryz.ntmps38
    go_wp2_with fail
    refine HH.out.mono ?_
    rintro e w1 ⟨rfl, rfl⟩
    go_wp2_with fail
    refine H0.out.mono ?_
    rintro e w1 ⟨v1, rfl, h1⟩
    go_wp2
    go_ret
    exact ⟨_, rfl, h1⟩
  · rw [hb] at HH
    rw [if_pos rfl]
    clear H0 hb
    go_enter Tryz.func38, Tryz.ntmps38
    go_wp2_with fail
    refine HH.out.mono ?_
    rintro e w1 ⟨rfl, rfl⟩
    go_wp2_with fail
    refine H1.out.mono ?_
    rintro e w1 ⟨v1, rfl, h1⟩
    go_wp2
    go_ret
    exact ⟨_, rfl, h1⟩
set_option maxHeartbeats 2000000 in
theorem beh_not {ok : Nat → Prop} {w : World} {b g off kc b1 : Nat} {c : Int} {d : Tm} (c0 : w.cell? ⟨b, 0, none⟩ = some (.int .i64 5)) (c4 : w.cell? ⟨b, 4, none⟩ = some (.slice (some ⟨g, off, none⟩) 1 kc)) (hu : w.cell? ⟨g, off, none⟩ = some (.pointer (some ⟨b1, 0, none⟩)))
    (HC : Hid (Calls Tryz.prog 38 #[.pointer (some ⟨b1, 0, none⟩), .int .i64 c] w fun e w' => Makes ok w d e w')) :
    Calls Tryz.prog 38 #[.pointer (some ⟨b, 0, none⟩), .int .i64 c] w fun e w' => Makes ok w (notT d) e w' := by
  go_enter Tryz.func38, Tryz.ntmps38
  go_wp2_with fail
  refine HC.out.mono ?_
  rintro e w1 ⟨v1, rfl, h1, hb1⟩
  obtain ⟨b2, rfl⟩ := h1.ptr
  have HT : Hid (TT (orNew ok w) w1 (.pointer (some ⟨b2, 0, none⟩)) d) := h1
  clear h1 c0 c4 hu
  go_wp2
  go_ret
  exact ⟨_, rfl, TT.new (.inr (by simp; have := hb1.size; omega)) (Kd.one (.inr hb1.size) HT.out) (by simp), hb1.trans (((below_alloc _ _).trans ((below_alloc _ _).mono (by simp))).mono hb1.size)⟩
set_option maxHeartbeats 4000000 in
theorem beh_rep {ok : Nat → Prop} {w : World} {b g off kc b1 : Nat} {c lo hi : Int} {x d : Tm} (hb : b < w.heap.size) (hg : g < w.heap.size) (hlo : 0 ≤ lo ∧ lo ≤ 50) (hhi : -1 ≤ hi ∧ hi ≤ 50) (nx : Nf x) (nd : Nf d) (hR : hi = -1 ∨ lo ≤ hi) (c0 : w.cell? ⟨b, 0, none⟩ = some (.int .i64 6)) (c2 : w.cell? ⟨b, 2, none⟩ = some (.int .i64 lo)) (c3 : w.cell? ⟨b, 3, none⟩ = some (.int .i64 hi)) (c4 : w.cell? ⟨b, 4, none⟩ = some (.slice (some ⟨g, off, none⟩) 1 kc)) (hu : w.cell? ⟨g, off, none⟩ = some (.pointer (some ⟨b1, 0, none⟩)))
    (HX : Hid (TT ok w (.pointer (some ⟨b1, 0, none⟩)) x))
    (HC : Hid (Calls Tryz.prog 38 #[.pointer (some ⟨b1, 0, none⟩), .int .i64 c] w fun e w' => Makes ok w d e w')) :
    Calls Tryz.prog 38 #[.pointer (some ⟨b, 0, none⟩), .int .i64 c] w fun e w' => Makes ok w (catS d (repS x (decI lo) (decI hi))) e w' := by
  have d0 : 0 ≤ decI lo := by unfold decI; split <;> omega
  have d1 : decI hi = -1 ∨ decI lo ≤ decI hi := by unfold decI; split <;> split <;> omega
  have nr := nf_repS nx d0 d1
  have HCell : Hid (∀ w', Below w.heap.size w w' → w'.cell? ⟨b, 4, none⟩ = some (.slice (some ⟨g, off, none⟩) 1 kc) ∧ w'.cell? ⟨g, off, none⟩ = some (.pointer (some ⟨b1, 0, none⟩))) := fun w' h => ⟨(h.cell (p := ⟨b, 4, none⟩) hb).trans c4, (h.cell (p := ⟨g, off, none⟩) hg).trans hu⟩
  have HRp : Hid (∀ w', Below w.heap.size w w' → Calls Tryz.prog 66 #[.pointer (some ⟨b1, 0, none⟩), .int .i64 (decI lo), .int .i64 (decI hi)] w' fun e w'' => Makes ok w' (repS x (decI lo) (decI hi)) e w'') := fun w' h => rrepeated_any (HX.out.below h) _ _
  have HCat : Hid (∀ w' va vb, TT (orNew ok w) w' va d → TT (orNew ok w) w' vb (repS x (decI lo) (decI hi)) → Calls Tryz.prog 64 #[va, vb] w' fun e w'' => Makes (orNew ok w) w' (catS d (repS x (decI lo) (decI hi))) e w'') := fun w' va vb h1 h2 => rcat_any d _ w' va vb _ h1 h2 nd nr
  generalize catS d (repS x (decI lo) (decI hi)) = res at *
  generalize repS x (decI lo) (decI hi) = rp at *
  clear d0 d1 nr nx nd hR
  by_cases l0 : 0 < lo
  · have l0' : decide (lo > 0) = true := by simpa using l0
    have e1 : decI lo = lo - 1 := by unfold decI; rw [if_pos l0]
    rw [e1] at HRp
    clear e1
    by_cases h0 : 0 < hi
    · have h0' : decide (hi > 0) = true := by simpa using h0
      have e1 : decI hi = hi - 1 := by unfold decI; rw [if_pos h0]
      rw [e1] at HRp
      clear e1
      go_enter Tryz.func38, Tryz.ntmps38
      go_wp2_with fail
      refine HC.out.mono ?_
      rintro e w1 ⟨v1, rfl, h1, hb1⟩
      obtain ⟨f4, f5⟩ := HCell.out w1 hb1
      have HRR := HRp.out w1 hb1
      obtain ⟨b2, rfl⟩ := h1.ptr
      have HT : Hid (TT (orNew ok w) w1 (.pointer (some ⟨b2, 0, none⟩)) d) := h1
      clear h1 c0 c2 c3 c4 hu
      go_wp2_with fail
      refine HRR.mono ?_
      rintro e w2 ⟨v2, rfl, h2, hb2⟩
      obtain ⟨b3, rfl⟩ := h2.ptr
      have HCC := HCat.out w2 (.pointer (some ⟨b2, 0, none⟩)) (.pointer (some ⟨b3, 0, none⟩)) (HT.out.below hb2) (h2.imp fun b hb => hb.elim .inl fun h => .inr (Nat.le_trans hb1.size h))
      have hb12 := hb1.trans (hb2.mono hb1.size)
      clear h2
      go_wp2_with fail
      refine HCC.mono ?_
      intro e w3 hM
      obtain ⟨v3, rfl, h3⟩ := hM.step hb12
      clear hM
      go_wp2
      go_ret
      exact ⟨_, rfl, h3⟩
    · have h0' : decide (hi > 0) = false := by simpa using h0
      have e1 : decI hi = hi := by unfold decI; rw [if_neg h0]
      rw [e1] at HRp
      clear e1
      go_enter Tryz.func38, Tryz.ntmps38
      go_wp2_with fail
      refine HC.out.mono ?_
      rintro e w1 ⟨v1, rfl, h1, hb1⟩
      obtain ⟨f4, f5⟩ := HCell.out w1 hb1
      have HRR := HRp.out w1 hb1
      obtain ⟨b2, rfl⟩ := h1.ptr
      have HT : Hid (TT (orNew ok w) w1 (.pointer (some ⟨b2, 0, none⟩)) d) := h1
      clear h1 c0 c2 c3 c4 hu
      go_wp2_with fail
      refine HRR.mono ?_
      rintro e w2 ⟨v2, rfl, h2, hb2⟩
      obtain ⟨b3, rfl⟩ := h2.ptr
      have HCC := HCat.out w2 (.pointer (some ⟨b2, 0, none⟩)) (.pointer (some ⟨b3, 0, none⟩)) (HT.out.below hb2) (h2.imp fun b hb => hb.elim .inl fun h => .inr (Nat.le_trans hb1.size h))
      have hb12 := hb1.trans (hb2.mono hb1.size)
      clear h2
      go_wp2_with fail
      refine HCC.mono ?_
      intro e w3 hM
      obtain ⟨v3, rfl, h3⟩ := hM.step hb12
      clear hM
      go_wp2
      go_ret
      exact ⟨_, rfl, h3⟩
  · have l0' : decide (lo > 0) = false := by simpa using l0
    have e1 : decI lo = lo := by unfold decI; rw [if_neg l0]
    rw [e1] at HRp
    clear e1
    by_cases h0 : 0 < hi
    · have h0' : decide (hi > 0) = true := by simpa using h0
      have e1 : decI hi = hi - 1 := by unfold decI; rw [if_pos h0]
      rw [e1] at HRp
      clear e1
      go_enter Tryz.func38, Tryz.ntmps38
      go_wp2_with fail
      refine HC.out.mono ?_
      rintro e w1 ⟨v1, rfl, h1, hb1⟩
      obtain ⟨f4, f5⟩ := HCell.out w1 hb1
      have HRR := HRp.out w1 hb1
      obtain ⟨b2, rfl⟩ := h1.ptr
      have HT : Hid (TT (orNew ok w) w1 (.pointer (some ⟨b2, 0, none⟩)) d) := h1
      clear h1 c0 c2 c3 c4 hu
      go_wp2_with fail
      refine HRR.mono ?_
      rintro e w2 ⟨v2, rfl, h2, hb2⟩
      obtain ⟨b3, rfl⟩ := h2.ptr
      have HCC := HCat.out w2 (.pointer (some ⟨b2, 0, none⟩)) (.pointer (some ⟨b3, 0, none⟩)) (HT.out.below hb2) (h2.imp fun b hb => hb.elim .inl fun h => .inr (Nat.le_trans hb1.size h))
      have hb12 := hb1.trans (hb2.mono hb1.size)
      clear h2
      go_wp2_with fail
      refine HCC.mono ?_
      intro e w3 hM
      obtain ⟨v3, rfl, h3⟩ := hM.step hb12
      clear hM
      go_wp2
      go_ret
      exact ⟨_, rfl, h3⟩
    · have h0' : decide (hi > 0) = false := by simpa using h0
      have e1 : decI hi = hi := by unfold decI; rw [if_neg h0]
      rw [e1] at HRp
      clear e1
      go_enter Tryz.func38, Tryz.ntmps38
      go_wp2_with fail
      refine HC.out.mono ?_
      rintro e w1 ⟨v1, rfl, h1, hb1⟩
      obtain ⟨f4, f5⟩ := HCell.out w1 hb1
      have HRR := HRp.out w1 hb1
      obtain ⟨b2, rfl⟩ := h1.ptr
      have HT : Hid (TT (orNew ok w) w1 (.pointer (some ⟨b2, 0, none⟩)) d) := h1
      clear h1 c0 c2 c3 c4 hu
      go_wp2_with fail
      refine HRR.mono ?_
      rintro e w2 ⟨v2, rfl, h2, hb2⟩
      obtain ⟨b3, rfl⟩ := h2.ptr
      have HCC := HCat.out w2 (.pointer (some ⟨b2, 0, none⟩)) (.pointer (some ⟨b3, 0, none⟩)) (HT.out.below hb2) (h2.imp fun b hb => hb.elim .inl fun h => .inr (Nat.le_trans hb1.size h))
      have hb12 := hb1.trans (hb2.mono hb1.size)
      clear h2
      go_wp2_with fail
      refine HCC.mono ?_
      intro e w3 hM
      obtain ⟨v3, rfl, h3⟩ := hM.step hb12
      clear hM
      go_wp2
      go_ret
      exact ⟨_, rfl, h3⟩

end Go.Proofs.YtbjohedenfindaaGreatDoor

namespace Go.Proofs.YtbjohedenfindaaGreatDoor
open Go.RowKit
set_option linter.unusedVariables false
set_option maxRecDepth 100000

set_option maxHeartbeats 8000000 in
theorem beh_sev {ok : Nat → Prop} {w : World} {b : Nat} {c k : Int} {ks : List Tm} {ka : Option Addr} {kc : Nat} (hk : k = 3 ∨ k = 4) (hks : ks.length ≤ 17592186000000) (hlt : b < w.heap.size) (c0 : w.cell? ⟨b, 0, none⟩ = some (.int .i64 k)) (c4 : w.cell? ⟨b, 4, none⟩ = some (.slice ka ks.length kc))
    (HNf : Hid (∀ x ∈ ks.map (dv c), Nf x)) (HSm : Hid (∀ x ∈ ks.map (dv c), Sml x)) (HGL : Hid ((gatA k [] (ks.map (dv c))).length ≤ 17592186000000))
    (HU : Hid (∀ j, j < ks.length → ∃ g off b1, ka = some ⟨g, off, none⟩ ∧ g < w.heap.size ∧ w.cell? ⟨g, off + j, none⟩ = some (.pointer (some ⟨b1, 0, none⟩)) ∧
      ∀ w', Below w.heap.size w w' → Calls Tryz.prog 38 #[.pointer (some ⟨b1, 0, none⟩), .int .i64 c] w' fun e w'' => Makes (fun b => ok b ∧ b < w.heap.size) w' (dv c (ks.getD j nothT)) e w'')) :
    Calls Tryz.prog 38 #[.pointer (some ⟨b, 0, none⟩), .int .i64 c] w fun e w' => Makes ok w (joinS k (ks.map (dv c))) e w' := by
  obtain ⟨i0, hi0, hz0, hz1, hz2⟩ := info_parts Tryz.infoPRe
  have q1 : (k == 1) = false := by rw [beq_eq_false_iff_ne]; omega
  have q2 : (k == 2) = false := by rw [beq_eq_false_iff_ne]; omega
  have q5 : (k == 5) = false := by rw [beq_eq_false_iff_ne]; omega
  have q6 : (k == 6) = false := by rw [beq_eq_false_iff_ne]; omega
  have HK : Hid (k = 3 ∨ k = 4) := hk
  generalize hres : joinS k (ks.map (dv c)) = res at *
  have HR : Hid (joinS k (ks.map (dv c)) = res) := hres
  clear hk hres
  go_enter Tryz.func38, Tryz.ntmps38
  go_wp2
  go_loopw [11, 12, 13] (fun lv iv kv wr => ∃ i : Nat, i ≤ ks.length ∧ iv = .int .i64 i ∧ KO (orNew ok w) wr w.heap.size lv ((ks.take i).map (dv c)) ∧ Below w.heap.size w wr) (fun _ iv _ _ => ks.length - (intOf iv).toNat)
  case atStart => exact ⟨0, Nat.zero_le _, rfl, KO.nil _ _ _, Below.refl _ _⟩
  case round =>
    obtain ⟨i, hi, rfl, hKO, hbw⟩ := hrel
    have d0 := (hbw.cell (p := ⟨b, 0, none⟩) hlt).trans c0
    have d4 := (hbw.cell (p := ⟨b, 4, none⟩) hlt).trans c4
    clear c0 c4
    by_cases hlt2 : i < ks.length
    · obtain ⟨g, off, b1, rfl, hgg, hu, hT⟩ := HU.out i hlt2
      have hu' := (hbw.cell (p := ⟨g, off + i, none⟩) hgg).trans hu
      have HC : Hid (Calls Tryz.prog 38 #[.pointer (some ⟨b1, 0, none⟩), .int .i64 c] wr fun e w'' => Makes (fun b => ok b ∧ b < w.heap.size) wr (dv c (ks.getD i nothT)) e w'') := hT wr hbw
      have HM : Hid ((ks.take (i + 1)).map (dv c) = (ks.take i).map (dv c) ++ [dv c (ks.getD i nothT)]) := map_take (dv c) ks i hlt2
      have hil : ((ks.take i).map (dv c)).length = i := by simp; omega
      obtain ⟨a3, c3', rfl⟩ := hKO.slice
      have HKO : Hid (KO (orNew ok w) wr w.heap.size (.slice a3 ((ks.take i).map (dv c)).length c3') ((ks.take i).map (dv c))) := hKO
      rw [hil] at HKO
      generalize hli : (ks.take i).map (dv c) = li at *
      have HLI : Hid (li.length = i) := hil
      generalize dv c (ks.getD i nothT) = pk at *
      rw [hil]
      clear hu hT hKO hli hil d0 HR HGL HSm HNf
      go_wp2_with fail
      refine HC.out.mono ?_
      rintro e w2 ⟨v2, rfl, hT2, hb2⟩
      have hbw2 := hbw.trans (hb2.mono hbw.size)
      obtain ⟨vs, hl, hown, hall⟩ := HKO.out.below hb2
      have hlt3 := hown.lt
      have hT3 : TT (fun b => orNew ok w b ∧ (Value.slice a3 i c3').ownBlock ≠ some b) w2 v2 pk := by
        obtain ⟨vs', _, hown', _⟩ := HKO.out
        exact made_apart hbw.size hown' hT2
      obtain ⟨b3, rfl⟩ := hT2.ptr
      have HT3 : Hid (TT (fun b => orNew ok w b ∧ (Value.slice a3 i c3').ownBlock ≠ some b) w2 (.pointer (some ⟨b3, 0, none⟩)) pk) := hT3
      have HAll : Hid (∀ j, j < li.length → TT (fun b => orNew ok w b ∧ (Value.slice a3 i c3').ownBlock ≠ some b) w2 (vs.getD j .nilFunc) (li.getD j nothT)) := hall
      have HL : Hid (vs.length = li.length) := hl
      have hvs : vs.length ≤ 17592186000000 := by have := HLI.out; omega
      clear hT2 hT3 hall hl d4 hu'
      go_wp2_with (at_builtin; refine wpList_append_own_at _ rfl _ _ 46 rfl w.heap.size 22 i0 (.pointer none) 1 8 Tryz.underlying46 hi0 hz0 hz1 hz2 rfl (by decide) _ _ _ rfl (World.ownsRow.alloc hown _) ⟨w2.heap.size, 0, none⟩ 1 1 [.pointer (some ⟨b3, 0, none⟩)] rfl rfl ?c1 ?c2 ?c3 ?c4 ?c5 ?_)
      case c1 => exact cell_one_new w2 _ _
      case c2 => intro u hu; simp at hu; subst hu; rfl
      case c3 => unfold maxLen; omega
      case c4 => omega
      case c5 => simp; have := hbw2.size; omega
      intro v' w4 hown' hgrow _ hat
      have hb4 : Below w.heap.size w w4 := below_own (hbw2.trans ((below_alloc w2 _).mono hbw2.size)) (Nat.le_refl _) (fun k hk => (hlt3 k hk).1) hgrow
      have HKN : Hid (KO (orNew ok w) w4 w.heap.size v' (li ++ [pk])) := KO.snoc HL.out HAll.out HT3.out hown' hgrow (by simpa using hat)
      clear hown' hgrow hat hown hlt3
      go_wp2
      go_roundw
      case rel => exact ⟨i + 1, by omega, by go_num, by rw [HM.out]; exact HKN.out, hb4⟩
      case measure => simp [intOf]; omega
    · have hi2 : ks.take i = ks := List.take_of_length_le (by omega)
      rw [hi2] at hKO
      have hKl : (ks.map (dv c)).length = ks.length := by simp
      have hKd : Kd (orNew ok w) wr u11 (ks.map (dv c)) := hKO.kd fun b hb => .inr hb
      obtain ⟨a3, c3', rfl⟩ := hKO.slice
      have HC : Hid (Calls Tryz.prog 65 #[.int .i64 k, .slice a3 (ks.map (dv c)).length c3'] wr fun e w' => Makes (orNew ok w) wr res e w') := by
        rw [← HR.out]
        exact joined_any HK.out hKd HNf.out HSm.out (by rw [hKl]; exact hks) HGL.out
      have HMM : Hid (∀ e2 w2, Makes (orNew ok w) wr res e2 w2 → Makes ok w res e2 w2) := fun e2 w2 h => h.step hbw
      clear hKO hKd hi2 HR HNf HSm HGL HU hKl
      generalize ks.map (dv c) = K at *
      go_wp2_with fail
      refine HC.out.mono ?_
      intro e w5 hM
      obtain ⟨v5, rfl, h5⟩ := HMM.out e w5 hM
      clear hM
      go_wp2
      go_ret
      exact ⟨_, rfl, h5⟩

set_option maxHeartbeats 1000000 in
theorem beh_row {ok : Nat → Prop} {w : World} {b : Nat} {c : Int} {d : Tm} (c0 : w.cell? ⟨b, 0, none⟩ = some (.int .i64 2)) (HC : Hid (Calls Tryz.prog 69 #[.pointer (some ⟨b, 0, none⟩), .int .i64 c] w fun e w' => Makes ok w d e w')) :
    Calls Tryz.prog 38 #[.pointer (some ⟨b, 0, none⟩), .int .i64 c] w fun e w' => Makes ok w d e w' := by
  go_enter Tryz.func38, Tryz.ntmps38
  go_wp2_with fail
  refine HC.out.mono ?_
  rintro e w1 ⟨v1, rfl, h1⟩
  go_wp2
  go_ret
  exact ⟨_, rfl, h1⟩
set_option maxHeartbeats 1000000 in
theorem brow_nil {ok : Nat → Prop} {w : World} {b kc : Nat} {c : Int} {ka : Option Addr} (c4 : w.cell? ⟨b, 4, none⟩ = some (.slice ka 0 kc)) :
    Calls Tryz.prog 69 #[.pointer (some ⟨b, 0, none⟩), .int .i64 c] w fun e w' => Makes ok w nothT e w' := by
  have H0 : Hid (Calls Tryz.prog 68 #[] w fun e w' => Makes ok w nothT e w') := rnothing_any ok w
  go_enter Tryz.func69, Tryz.ntmps69
  go_wp2_with fail
  refine H0.out.mono ?_
  rintro e w1 ⟨v1, rfl, h1⟩
  go_wp2
  go_ret
  exact ⟨_, rfl, h1⟩

end Go.Proofs.YtbjohedenfindaaGreatDoor

namespace Go.Proofs.YtbjohedenfindaaGreatDoor
open Go.RowKit
set_option linter.unusedVariables false
set_option maxRecDepth 100000

set_option maxHeartbeats 8000000 in
theorem brow_two {ok : Nat → Prop} {w : World} {b g off kc b0 b1 : Nat} {c : Int} {x y dx dy : Tm} (hb : b < w.heap.size) (hg : g < w.heap.size) (c4 : w.cell? ⟨b, 4, none⟩ = some (.slice (some ⟨g, off, none⟩) 2 kc)) (hu0 : w.cell? ⟨g, off, none⟩ = some (.pointer (some ⟨b0, 0, none⟩))) (hu1 : w.cell? ⟨g, off + 1, none⟩ = some (.pointer (some ⟨b1, 0, none⟩)))
    (nx : Nf x) (ny : Nf y) (ndx : Nf dx) (ndy : Nf dy) (HJ : Hid (nul x = true → ∀ w' va vb, TT (orNew ok w) w' va (catS dx y) → TT (orNew ok w) w' vb dy → ∀ (lv : Value), Kd (orNew ok w) w' lv [catS dx y, dy] → Calls Tryz.prog 65 #[.int .i64 3, lv] w' fun e w'' => Makes (orNew ok w) w' (joinS 3 [catS dx y, dy]) e w''))
    (HX : Hid (TT ok w (.pointer (some ⟨b0, 0, none⟩)) x)) (HY : Hid (TT ok w (.pointer (some ⟨b1, 0, none⟩)) y))
    (HCx : Hid (∀ w', Below w.heap.size w w' → Calls Tryz.prog 38 #[.pointer (some ⟨b0, 0, none⟩), .int .i64 c] w' fun e w'' => Makes (orNew ok w) w' dx e w''))
    (HCy : Hid (∀ w' v, TT (orNew ok w) w' v y → Calls Tryz.prog 38 #[v, .int .i64 c] w' fun e w'' => Makes (orNew ok w) w' dy e w''))
    (HN : Hid (∀ w', Below w.heap.size w w' → Calls Tryz.prog 39 #[.pointer (some ⟨b0, 0, none⟩)] w' fun e w'' => e = .returned (.bool (nul x)) ∧ Below w'.heap.size w' w'')) :
    Calls Tryz.prog 69 #[.pointer (some ⟨b, 0, none⟩), .int .i64 c] w fun e w' => Makes ok w (if nul x then joinS 3 [catS dx y, dy] else catS dx y) e w' := by
  have H1 : Hid (Calls Tryz.prog 63 #[] w fun e w' => Makes ok w emptT e w') := rempty_any ok w
  have HCell : Hid (∀ w', Below w.heap.size w w' → w'.cell? ⟨b, 4, none⟩ = some (.slice (some ⟨g, off, none⟩) 2 kc) ∧ w'.cell? ⟨g, off, none⟩ = some (.pointer (some ⟨b0, 0, none⟩)) ∧ w'.cell? ⟨g, off + 1, none⟩ = some (.pointer (some ⟨b1, 0, none⟩))) := fun w' h => ⟨(h.cell (p := ⟨b, 4, none⟩) hb).trans c4, (h.cell (p := ⟨g, off, none⟩) hg).trans hu0, (h.cell (p := ⟨g, off + 1, none⟩) hg).trans hu1⟩
  have HC1 : Hid (∀ w' va vb, TT (orNew ok w) w' va y → TT (orNew ok w) w' vb emptT → Calls Tryz.prog 64 #[va, vb] w' fun e w'' => Makes (orNew ok w) w' y e w'') := fun w' va vb h1 h2 => by
    have := rcat_any y _ w' va vb _ h1 h2 ny nf_empt
    rw [catS_em_r ny] at this; exact this
  have HC2 : Hid (∀ w' va vb, TT (orNew ok w) w' va dx → TT (orNew ok w) w' vb y → Calls Tryz.prog 64 #[va, vb] w' fun e w'' => Makes (orNew ok w) w' (catS dx y) e w'') := fun w' va vb h1 h2 => rcat_any dx _ w' va vb _ h1 h2 ndx ny
  have HLift : Hid (∀ w1 (tt : Tm) w2 v, Below w.heap.size w w1 → TT (orNew (orNew ok w) w1) w2 v tt → TT (orNew ok w) w2 v tt) := fun w1 tt w2 v hb h => h.imp (orNew_trans hb.size)
  generalize joinS 3 [catS dx y, dy] = jn at *
  generalize hcc : catS dx y = cc at *
  have HR0 : Hid (nul x = false → (if nul x then jn else cc) = cc) := fun h => by rw [h]; rfl
  have HR1 : Hid (nul x = true → (if nul x then jn else cc) = jn) := fun h => by rw [h]; rfl
  generalize (if nul x then jn else cc) = res at *
  clear hcc nx ny ndx ndy
  go_enter Tryz.func69, Tryz.ntmps69
  go_wp2_with fail
  refine H1.out.mono ?_
  rintro e w1 ⟨v1, rfl, h1, hb1⟩
  obtain ⟨f4, f0, f1⟩ := HCell.out w1 hb1
  obtain ⟨b2, rfl⟩ := h1.ptr
  have HCC := HC1.out w1 (.pointer (some ⟨b1, 0, none⟩)) (.pointer (some ⟨b2, 0, none⟩)) ((HY.out.below hb1).imp orNew_l) h1
  have HCC' : Hid (Calls Tryz.prog 64 #[.pointer (some ⟨b1, 0, none⟩), .pointer (some ⟨b2, 0, none⟩)] w1 fun e w'' => Makes (orNew ok w) w1 y e w'') := HCC
  clear h1 c4 hu0 hu1 HCC
  go_wp2
  go_loopw [5, 6] (fun rv iv wr => (iv = .int .i64 1 ∧ rv = .pointer (some ⟨b2, 0, none⟩) ∧ wr = w1) ∨ (iv = .int .i64 0 ∧ TT (orNew ok w) wr rv y ∧ Below w.heap.size w wr)) (fun _ iv _ => (intOf iv).toNat)
  case atStart => exact .inl ⟨rfl, rfl, rfl⟩
  case round =>
    rcases hrel with ⟨rfl, rfl, rfl⟩ | ⟨rfl, hTr, hbr⟩
    · go_wp2_with fail
      refine HCC'.out.mono ?_
      rintro e w2 ⟨v2, rfl, h2, hb2⟩
      have HT2 : Hid (TT (orNew ok w) w2 v2 y) := HLift.out _ _ _ _ hb1 h2
      have hb12 := hb1.trans (hb2.mono hb1.size)
      clear h2
      go_wp2
      go_roundw
      case rel => exact .inr ⟨rfl, HT2.out, hb12⟩
      case measure => simp [intOf]
    · have HTr : Hid (TT (orNew ok w) wr u5 y) := hTr
      obtain ⟨b3, rfl⟩ := hTr.ptr
      obtain ⟨g4, g0, g1⟩ := HCell.out wr hbr
      have HDX := HCx.out wr hbr
      clear hTr HCC' f4 f0 f1
      go_wp2_with fail
      refine HDX.mono ?_
      rintro e w3 ⟨v3, rfl, h3, hb3⟩
      have hT3 := HLift.out _ _ _ _ hbr h3
      have hbw3 := hbr.trans (hb3.mono hbr.size)
      obtain ⟨b4, rfl⟩ := h3.ptr
      have HC2' := HC2.out w3 (.pointer (some ⟨b4, 0, none⟩)) (.pointer (some ⟨b3, 0, none⟩)) hT3 (HTr.out.below hb3)
      have HTr3 : Hid (TT (orNew ok w) w3 (.pointer (some ⟨b3, 0, none⟩)) y) := HTr.out.below hb3
      clear h3 hT3 HTr HDX g4 g0 g1
      go_wp2_with fail
      refine HC2'.mono ?_
      rintro e w4 ⟨v4, rfl, h4, hb4⟩
      have HT4 : Hid (TT (orNew ok w) w4 v4 cc) := HLift.out _ _ _ _ hbw3 h4
      have hbw4 := hbw3.trans (hb4.mono hbw3.size)
      obtain ⟨b5, rfl⟩ := h4.ptr
      have HTr4 : Hid (TT (orNew ok w) w4 (.pointer (some ⟨b3, 0, none⟩)) y) := HTr3.out.below hb4
      have HNN := HN.out w4 hbw4
      obtain ⟨g4, g0, g1⟩ := HCell.out w4 hbw4
      clear h4 HTr3 HC2'
      cases hn : nul x
      · have hr := HR0.out hn
        subst hr
        rw [hn] at HNN
        clear hn
        go_wp2_with fail
        refine HNN.mono ?_
        rintro e w5 ⟨rfl, hb5⟩
        go_wp2
        go_ret
        exact ⟨_, rfl, HT4.out.below hb5, hbw4.trans (hb5.mono hbw4.size)⟩
      · have hr := HR1.out hn
        subst hr
        rw [hn] at HNN
        go_wp2_with fail
        refine HNN.mono ?_
        rintro e w5 ⟨rfl, hb5⟩
        have hbw5 := hbw4.trans (hb5.mono hbw4.size)
        have HDY := HCy.out w5 (.pointer (some ⟨b3, 0, none⟩)) (HTr4.out.below hb5)
        have HT5 : Hid (TT (orNew ok w) w5 (.pointer (some ⟨b5, 0, none⟩)) cc) := HT4.out.below hb5
        have HJn := HJ.out hn
        have HJN : Hid (∀ w' va vb, TT (orNew ok w) w' va cc → TT (orNew ok w) w' vb dy → ∀ (lv : Value), Kd (orNew ok w) w' lv [cc, dy] → Calls Tryz.prog 65 #[.int .i64 3, lv] w' fun e w'' => Makes (orNew ok w) w' res e w'') := HJn
        clear HJn
        clear HT4 HTr4 HNN g4 g0 g1 hn
        go_wp2_with fail
        refine HDY.mono ?_
        rintro e w6 ⟨v6, rfl, h6, hb6⟩
        have hT6 := HLift.out _ _ _ _ hbw5 h6
        have hbw6 := hbw5.trans (hb6.mono hbw5.size)
        obtain ⟨b6, rfl⟩ := h6.ptr
        have HJJ : Hid (Calls Tryz.prog 65 #[.int .i64 3, .slice (some ⟨w6.heap.size, 0, none⟩) 2 2] (w6.alloc (.cells #[.pointer (some ⟨b5, 0, none⟩), .pointer (some ⟨b6, 0, none⟩)] 22)) fun e w'' => Makes (orNew ok w) (w6.alloc (.cells #[.pointer (some ⟨b5, 0, none⟩), .pointer (some ⟨b6, 0, none⟩)] 22)) res e w'') :=
          HJN.out _ _ _ ((HT5.out.below hb6).below (below_alloc _ _)) (hT6.below (below_alloc _ _)) _ (Kd.two (.inr hbw6.size) (HT5.out.below hb6) hT6)
        have hbw7 : Below w.heap.size w (w6.alloc (.cells #[.pointer (some ⟨b5, 0, none⟩), .pointer (some ⟨b6, 0, none⟩)] 22)) := hbw6.trans ((below_alloc w6 _).mono hbw6.size)
        clear h6 hT6 HT5 HDY
        go_wp2_with fail
        refine HJJ.out.mono ?_
        intro e w7 hM
        obtain ⟨v7, rfl, h7⟩ := hM.step hbw7
        clear hM
        go_wp2
        go_ret
        exact ⟨_, rfl, h7⟩

theorem behind_any {N N1 : Nat} (hN : N ≤ 17592186000000) (hN1 : N1 ≤ 1000) (c : Int) : ∀ (t : Tm), BehC N N1 c t := by
  refine Tm.ind ?_
  intro t ih ok w v hv hnf hs hf
  obtain ⟨b, sv, ka, kc, hN'⟩ := hv.node
  have e := hN'.v_eq; subst e
  have hnode := (fine_iff.1 hf).1
  have hfk := (fine_iff.1 hf).2
  have hnum := hs.num
  clear hf
  revert ih hs hN' hnode hfk hnum
  refine nf_cases (P := fun t => (∀ k ∈ t.kids, BehC N N1 c k) → Sml t → Node ok w (.pointer (some ⟨b, 0, none⟩)) t b sv ka kc → NodeF N N1 c t → (∀ x ∈ t.kids, Fine N N1 c x) → NumOk t → Calls Tryz.prog 38 #[.pointer (some ⟨b, 0, none⟩), .int .i64 c] w fun e w' => Makes ok w (dv c t) e w') t hnf ?_ ?_ ?_ ?_ ?_ ?_
  · intro s _ hs hN' _ _ hnum
    obtain ⟨sa, sc, rfl⟩ := hN'.set.len
    rw [dv_set]
    exact beh_set hN'.c0 hN'.c1 (rhas_any _ c s w hnum.2.2.2.1 hN'.set.rngs)
  · intro _ _ hN' _ _ _
    rw [dv_empt]
    exact beh_row hN'.c0 (brow_nil hN'.c4)
  · intro x y hx hy k1 k2 k3 k4 ih hs hN' hnode hfk _
    rw [dv_cat]
    obtain ⟨g, off, u0, e0, hg, _, hu0, t0⟩ := hN'.kid 0 (by simp [catT])
    obtain ⟨g1, off1, u1, e1, hg1, _, hu1, t1⟩ := hN'.kid 1 (by simp [catT])
    rw [e0] at e1; injection e1 with e1; injection e1 with e1 e2 _; subst e1 e2
    subst e0
    have t0' : TT ok w u0 x := by simpa [catT] using t0
    have t1' : TT ok w u1 y := by simpa [catT] using t1
    obtain ⟨b0, rfl⟩ := t0'.ptr
    obtain ⟨b1, rfl⟩ := t1'.ptr
    have sx : Sml x := hs.kid (by simp [catT])
    have sy : Sml y := hs.kid (by simp [catT])
    have fx : Fine N N1 c x := hfk x (by simp [catT])
    have fy : Fine N N1 c y := hfk y (by simp [catT])
    have ndx := nf_dv c x hx
    have ndy := nf_dv c y hy
    have sdx := sml_dv hN (by omega) c x hx sx fx
    have sdy := sml_dv hN (by omega) c y hy sy fy
    refine beh_row hN'.c0 (brow_two hN'.lt hg hN'.c4 hu0 hu1 hx hy ndx ndy ?_ t0' t1' ?_ ?_ ?_)
    · intro hnul w' va vb _ _ lv hK
      · have hnfl : ∀ t ∈ [catS (dv c x) y, dv c y], Nf t := by
          intro t ht
          simp only [List.mem_cons, List.not_mem_nil, or_false] at ht
          rcases ht with rfl | rfl
          · exact nf_catS ndx hy
          · exact ndy
        refine joined_any (.inl rfl) hK hnfl ?_ (by simp) ?_
        · intro t ht
          simp only [List.mem_cons, List.not_mem_nil, or_false] at ht
          rcases ht with rfl | rfl
          · exact sml_catS _ _ ndx hy sdx sy
          · exact sdy
        · have h3 := hnode.2.2.1
          rw [dv_cat, if_pos hnul, trm_join3 hnfl] at h3
          omega
    · exact fun w' hb => ih x (by simp [catT]) _ w' _ ((t0'.below hb).imp orNew_l) hx sx fx
    · exact fun w' v hv => ih y (by simp [catT]) _ w' _ hv hy sy fy
    · exact fun w' hb => takesEmpty_any x ok w' _ (t0'.below hb) hx sx
  · intro k l hk _ _ _ h5 ih hs hN' hnode hfk hnum
    have hnfl : ∀ t ∈ l.map (dv c), Nf t := by
      intro t ht; obtain ⟨u, hu, rfl⟩ := List.mem_map.1 ht; exact nf_dv c u (h5 u hu)
    rw [dv_sev c k l hk]
    refine beh_sev hk hnum.2.2.2.2.2 hN'.lt hN'.c0 hN'.c4 hnfl ?_ ?_ ?_
    · intro t ht; obtain ⟨u, hu, rfl⟩ := List.mem_map.1 ht
      exact sml_dv hN (by omega) c u (h5 u hu) (hs.kid (by simpa [sevT] using hu)) (hfk u (by simpa [sevT] using hu))
    · rcases hk with rfl | rfl
      · have h3 := hnode.2.2.1
        rw [dv_sev c 3 l (.inl rfl), trm_join3 hnfl] at h3
        show _ ≤ _
        omega
      · have h4 := hnode.2.1 rfl
        have h5' := gat4_len (k := 4) (N1 := N1) (l.map (dv c)) [] (fun x hx => by
          obtain ⟨u, hu, rfl⟩ := List.mem_map.1 hx
          exact (fine_iff.1 (hfk u (by simpa [sevT] using hu))).1.2.2.2)
        have h6 : l.length ≤ N1 := h4
        have h7 : (l.map (dv c)).length * N1 ≤ 1000 * 1000 := Nat.mul_le_mul (by simp; omega) hN1
        show _ ≤ _
        simp only [List.length_nil] at h5'
        omega
    · intro j hj
      obtain ⟨g, off, u, h1, h2, _, h3, h4⟩ := hN'.kid j hj
      obtain ⟨b1, rfl⟩ := h4.ptr
      have hm := getD_mem (sevT k l).kids j hj
      exact ⟨g, off, b1, h1, h2, h3, fun w' hb => ih _ hm _ w' _ (h4.old hb) (h5 _ hm) (hs.kid hm) (hfk _ hm)⟩
  · intro x hx ih hs hN' _ hfk _
    obtain ⟨g, off, u0, rfl, hg, _, hu0, t0⟩ := hN'.kid 0 (by simp [notT])
    have t0' : TT ok w u0 x := by simpa [notT] using t0
    obtain ⟨b0, rfl⟩ := t0'.ptr
    rw [dv_not]
    exact beh_not hN'.c0 hN'.c4 hu0 (ih x (by simp [notT]) ok w _ t0' hx (hs.kid (by simp [notT])) (hfk x (by simp [notT])))
  · intro x lo hi hx h0 h1 k2 k3 ih hs hN' _ hfk hnum
    obtain ⟨g, off, u0, rfl, hg, _, hu0, t0⟩ := hN'.kid 0 (by simp [repT])
    have t0' : TT ok w u0 x := by simpa [repT] using t0
    obtain ⟨b0, rfl⟩ := t0'.ptr
    simp only [NumOk, repT] at hnum
    rw [dv_rep]
    exact beh_rep hN'.lt hg (by omega) (by omega) hx (nf_dv c x hx) (by omega) hN'.c0 hN'.c2 hN'.c3 hN'.c4 hu0 t0' (ih x (by simp [repT]) ok w _ t0' hx (hs.kid (by simp [repT])) (hfk x (by simp [repT])))

end Go.Proofs.YtbjohedenfindaaGreatDoor

namespace Go.Proofs.YtbjohedenfindaaGreatDoor
open Go.RowKit
set_option linter.unusedVariables false
set_option maxRecDepth 100000

set_option maxHeartbeats 1000000 in
theorem rpoints_any (s : ByteArray) (w : World) (hs : s.size ≤ 17592186044416) :
    Calls Tryz.prog 36 #[.string s] w fun e w' => ∃ v, e = .returned v ∧ w'.ownsRow w.heap.size 3 1 v (pts s).length ((pts s).map (Value.int .i64)) ∧ Below w.heap.size w w' := by
  obtain ⟨i0, hi, hz0, hz1, hz2⟩ := info_parts Tryz.infoInt
  go_enter Tryz.func36, Tryz.ntmps36
  go_wp2
  go_loopw [3, 4] (fun v i wr => ∃ (pos fuel : Nat) (acc : List Int), i = .int .i64 pos ∧ wr.ownsRow w.heap.size 3 1 v acc.length (acc.map (Value.int .i64)) ∧ Below w.heap.size w wr ∧ acc ++ ptsFrom s fuel pos = pts s ∧ s.size ≤ pos + fuel ∧ acc.length ≤ pos ∧ pos ≤ s.size) (fun _ i _ => s.size - (intOf i).toNat)
  case atStart =>
    refine ⟨0, s.size, [], rfl, World.ownsRow_nil _ _ _ _, Below.refl _ w, rfl, by omega, by simp, by omega⟩
  case round =>
    obtain ⟨pos, fuel, acc, rfl, hown, hbw, hacc0, hfu, hal, hpl⟩ := hrel
    have HA : Hid (acc ++ ptsFrom s fuel pos = pts s) := hacc0
    clear hacc0
    have hsz : w.heap.size ≤ wr.heap.size := hbw.size
    by_cases hp : pos < s.size
    · have hwd := dec_width s pos
      have hle := dec_le s pos hp
      have hr1 : ((Utf8.decode s pos).1 : Int) ≤ 1114111 := by have := dec_rune s pos; omega
      obtain ⟨f, rfl⟩ : ∃ f, fuel = f + 1 := ⟨fuel - 1, by omega⟩
      have HB : Hid ((acc ++ [((Utf8.decode s pos).1 : Int)]) ++ ptsFrom s f (pos + (Utf8.decode s pos).2) = pts s) := pp_step hp HA.out
      clear HA
      go_wp2_with (first | (go_at_call 62; refine (point_any s pos _ (by omega) hp).mono ?_; rintro e w' ⟨rfl, rfl⟩) | (at_builtin; refine wpList_append_own _ rfl _ _ 34 rfl w.heap.size 3 i0 (.int .i64 0) 1 8 Tryz.underlying34 hi hz0 hz1 hz2 rfl (by decide) _ _ _ rfl (hown.alloc _) ⟨_, 0, none⟩ 1 1 [.int .i64 (Utf8.decode s pos).1] rfl rfl ?c1 ?c2 ?c3 ?c4 ?c5 ?_))
      case c1 =>
        intro j u hj
        match j, hj with
        | 0, hj => simp at hj; subst hj; simp [Addr.add]
      case c2 => intro u hu; simp at hu; subst hu; rfl
      case c3 => unfold maxLen; omega
      case c4 => omega
      case c5 => simp; omega
      · intro v' w1 hown' hgrow _
        have hbw3 : Below w.heap.size w w1 := (hbw.alloc (by omega) _).grown hgrow (by simp; omega) (fun k hk => (hown.lt k hk).1)
        have hown3 := own_ints hown'
        clear hown' hgrow hbw hown
        go_wp2
        go_roundw
        case rel => exact ⟨pos + (Utf8.decode s pos).2, f, _, by go_num, hown3, hbw3, HB.out, by omega, by simp; omega, hle⟩
        case measure => simp [intOf]; omega
    · have HB : Hid (acc = pts s) := by
        have := HA.out; rw [ptsFrom_end s fuel pos hp, List.append_nil] at this; exact this
      clear HA
      go_wp2
      go_ret
      refine ⟨_, rfl, ?_, hbw⟩
      rw [← HB.out]
      exact hown


end Go.Proofs.YtbjohedenfindaaGreatDoor
