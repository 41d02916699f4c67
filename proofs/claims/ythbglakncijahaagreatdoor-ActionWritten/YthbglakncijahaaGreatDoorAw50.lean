/- Texts of the proof, put together: ALawB. -/
import Derived.Test.YthbglakncijahaaGreatDoorAw48
import Derived.Test.YthbglakncijahaaGreatDoorAw49
namespace Go.Proofs.YthbglakncijahaaGreatDoor
open Go.RowKit
set_option linter.unusedVariables false
set_option maxRecDepth 100000

def TmOk (ps : List TmP) : Prop := ∀ p ∈ ps, p.kids.length * 8 ≤ 140737488351232 ∧ p.text.size ≤ 140737488351232 ∧ (-9223372036854775808 ≤ p.num ∧ p.num ≤ 9223372036854775807)
def GdE (t : Ex) : Prop := TxA t ∧ NmA t
theorem gd_nil : GdE nilE := by
  refine ⟨fun n => ?_, fun n => ?_⟩
  · cases n with
    | zero => trivial
    | succ n => exact ⟨by simp [nilE], by simp [nilE], fun k hk => by simp [nilE] at hk⟩
  · cases n with
    | zero => trivial
    | succ n => exact ⟨by simp [nilE], by simp [nilE], fun k hk => by simp [nilE] at hk⟩
theorem gd_mk {acc : List Ex} {p : TmP} (hp : p.kids.length * 8 ≤ 140737488351232 ∧ p.text.size ≤ 140737488351232 ∧ (-9223372036854775808 ≤ p.num ∧ p.num ≤ 9223372036854775807)) (ha : ∀ x ∈ acc, GdE x) : GdE (mkE acc p) := by
  have hk : ∀ k ∈ (mkE acc p).kids, GdE k := fun k hk => by
    obtain ⟨z, hz, rfl⟩ := List.mem_map.1 (show k ∈ p.kids.map (kidE acc) from hk)
    unfold kidE
    split
    · exact gd_nil
    · exact ha _ (getD_mem (by omega))
  refine ⟨fun n => ?_, fun n => ?_⟩
  · cases n with
    | zero => trivial
    | succ n => exact ⟨hp.2.1, by show (p.kids.map (kidE acc)).length ≤ _; rw [List.length_map]; omega, fun k h => (hk k h).1 n⟩
  · cases n with
    | zero => trivial
    | succ n => exact ⟨hp.2.2.1, hp.2.2.2, fun k h => (hk k h).2 n⟩
theorem gd_fold : ∀ (ps : List TmP) (acc : List Ex), TmOk ps → (∀ x ∈ acc, GdE x) → ∀ x ∈ ps.foldl (fun acc p => acc ++ [mkE acc p]) acc, GdE x
  | [], acc, _, ha => ha
  | p :: ps, acc, hp, ha => by
    refine gd_fold ps _ (fun q hq => hp q (List.mem_cons_of_mem _ hq)) fun x hx => ?_
    rcases List.mem_append.1 hx with hx | hx
    · exact ha x hx
    · rw [List.mem_singleton.1 hx]; exact gd_mk (hp p (by simp)) ha
theorem gd_all {ps : List TmP} (hp : TmOk ps) : ∀ x ∈ allE ps, GdE x := gd_fold ps [] hp fun x hx => by simp at hx

set_option maxHeartbeats 1000000 in
theorem plexpr_none {w : World} {va : Option Addr} {c : Nat} : Calls Tryz.prog 7 #[.slice va 0 c] w fun e w' => e = .returned (.pointer none) ∧ Below w.heap.size w w' := by
  go_enter Tryz.func7, Tryz.ntmps7
  go_wp2
  refine wp_loop_rounds 1 ?_
  rw [rounds_succ]
  go_wp2
  go_ret
  exact ⟨rfl, Below.refl _ _⟩
set_option maxHeartbeats 1000000 in
theorem size_none {w : World} {va : Option Addr} {c : Nat} : Calls Tryz.prog 6 #[.slice va 0 c] w fun e w' => e = .returned (.int .i64 0) ∧ Below w.heap.size w w' := by
  go_enter Tryz.func6, Tryz.ntmps6
  go_wp2
  refine wp_loop_rounds 1 ?_
  rw [rounds_succ]
  go_wp2
  go_ret
  exact ⟨rfl, Below.refl _ _⟩

theorem law_written {w : World} {a : Nat → Addr} (A : LawA w a) {v : Value} {ps : List TmP} (hv : TmsR w v ps) (hn : ps.length ≤ 2600000000000) (hk : TmOk ps) :
    Calls Tryz.prog 3 #[v] w fun e w' => e = .returned (.bool true) ∧ Below w.heap.size w w' := by
  obtain ⟨va, c, rfl, hp⟩ := hv
  have hgm : ∀ j, j < ps.length → ps.getD j noTm ∈ ps := fun j hj => by rw [List.getD_eq_getElem?_getD, List.getElem?_eq_getElem hj]; exact List.getElem_mem hj
  by_cases hne : ps = []
  · subst hne
    have HS : Hid (Calls Tryz.prog 6 #[.slice va 0 c] w fun e w' => e = .returned (.int .i64 0) ∧ Below w.heap.size w w') := size_none
    refine law_nearA (t := nilE) A HS (by simp) (by omega) (fun w' hb => ?_) gd_nil.1 gd_nil.2
    refine plexpr_none.mono ?_
    rintro e w'' ⟨q1, q2⟩
    exact ⟨none, q1, hb.trans (q2.mono hb.size), 1, .inl ⟨rfl, rfl⟩⟩
  · rcases hp with h | ⟨b, off, rfl, hb, hc⟩
    · exact (hne h).elim
    · have hlen : 0 < ps.length := by
        rcases Nat.eq_zero_or_pos ps.length with h | h
        · exact (hne (List.eq_nil_of_length_eq_zero h)).elim
        · exact h
      have hsz : ∀ j, j < ps.length → (ps.getD j noTm).kids.length * 8 ≤ 140737488351232 := fun j hj => (hk _ (hgm j hj)).1
      have HS : Hid (Calls Tryz.prog 6 #[.slice (some ⟨b, off, none⟩) ps.length c] w fun e w' => e = .returned (.int .i64 ((hvAll ps).getD (ps.length - 1) 0)) ∧ Below w.heap.size w w') := size_row hb hn hne hsz hc
      by_cases hfar : 200 < ps.length ∨ 1000 ≤ (hvAll ps).getD (ps.length - 1) 0
      · exact law_farA HS hfar
      · have hG : GdE ((allE ps).getD (ps.length - 1) nilE) := gd_all hk _ (getD_mem (by rw [allTr_len]; omega))
        refine law_nearA (t := (allE ps).getD (ps.length - 1) nilE) A HS (by omega) (by omega) (fun w' hb2 => ?_) hG.1 hG.2
        refine (plexpr_row (Nat.lt_of_lt_of_le hb hb2.size) (by omega) hne hsz (fun j hj => ?_)).mono ?_
        · obtain ⟨kv, hR⟩ := hc j hj
          exact ⟨kv, hR.below hb hb2⟩
        · rintro e w'' ⟨q, q1, q2, q3⟩
          exact ⟨some ⟨q, 0, none⟩, q1, hb2.trans (q2.mono hb2.size), q3.imp fun _ _ _ => trivial⟩

end Go.Proofs.YthbglakncijahaaGreatDoor
