/- Texts of the proof, put together: WPutA, WWr, WSam. -/
import Derived.Test.YtbjohedenfindaaGreatDoorPw44
import Derived.Test.YtbjohedenfindaaGreatDoorPw37
import Derived.Test.YtbjohedenfindaaGreatDoorPw26
import Derived.Test.YtbjohedenfindaaGreatDoorPw07
namespace Go.Proofs.YtbjohedenfindaaGreatDoor
open Go.RowKit
open Go.Maps (Keyed)
set_option linter.unusedVariables false
set_option maxRecDepth 100000

variable {mk : List Rg → Bool → List Rg}

theorem few_kid {B : Nat} {t x : Tm} (h : FewT B (reOf t)) (hx : x ∈ t.kids) : FewT B (reOf x) := fun n => by
  have h1 := (h (n + 1)).2
  rw [reOf_eq] at h1
  exact h1 (some (reOf x)) (by simp only; exact List.mem_map.2 ⟨_, List.mem_map.2 ⟨x, hx, rfl⟩, rfl⟩) _ rfl

/-- pieces of a row of kids -/
def KidsAt (W0 : World) (m : Nat) (ok : Nat → Prop) (kv : Value) (ks : List Tm) : Prop :=
  (ks = [] ∧ ∃ a c, kv = .slice a 0 c) ∨ ∃ g off c, kv = .slice (some ⟨g, off, none⟩) ks.length c ∧ g < W0.heap.size ∧ ∀ j, (hj : j < ks.length) → ∃ u, W0.cell? ⟨g, off + j, none⟩ = some u ∧ IsRe ok m W0 u (reOf ks[j])
theorem kidsAt_of {W0 : World} {m : Nat} {ok : Nat → Prop} {kv : Value} {ks : List Tm} (h : KidsR (fun u o => match o with | none => u = .pointer none | some k => IsRe ok m W0 u k) ok W0 kv ((ks.map reOf).map some)) : KidsAt W0 m ok kv ks := by
  rcases h with ⟨h1, h2⟩ | ⟨g, off, c, h1, h2, _, h4⟩
  · exact .inl ⟨by simpa using h1, h2⟩
  · simp only [List.length_map] at h1 h4
    refine .inr ⟨g, off, c, h1, h2, fun j hj => ?_⟩
    obtain ⟨u, hu, hp⟩ := h4 j hj
    have e : ((ks.map reOf).map some).getD j none = some (reOf ks[j]) := by simp [hj]
    rw [e] at hp
    exact ⟨u, hu, hp⟩

theorem put_all (MK : MkOk mk) {W0 : World} {b M : Nat} {ok : Nat → Prop} : ∀ (m : Nat) (t : Tm) (v : Value) (place : Nat), IsRe ok m W0 v (reOf t) → GoodT (reOf t) → FewT 9000 (reOf t) → place ≤ 4 → KidC W0 b M v place (wrT mk t place)
  | 0, _, _, _, h, _, _, _ => h.elim
  | m + 1, t, v, place, h, hG, hF, hpl => by
    have er : reOf t = ⟨t.kind, t.set, t.mn, t.mx, (t.kids.map reOf).map some⟩ := reOf_eq t
    have hno : NodeOk (reOf t) := (hG 1).1
    have hfew : (reOf t).set.length ≤ 9000 := (hF 1).1
    have hkG : ∀ x ∈ t.kids, GoodT (reOf x) := fun x hx => good_kid hG hx
    have hkF : ∀ x ∈ t.kids, FewT 9000 (reOf x) := fun x hx => few_kid hF hx
    obtain ⟨q, sv, kv, rfl, hok, hnode, hset, hkids⟩ := h
    rw [er] at hno hfew hnode hset hkids
    simp only at hno hfew hnode hset hkids
    have hK := kidsAt_of hkids
    have hq : q < W0.heap.size := (Array.getElem?_eq_some_iff.1 hnode).1
    have hN : NodeC W0 q t.kind sv t.mn t.mx kv := ⟨hq, by simp [World.cell?, hnode], by simp [World.cell?, hnode], by simp [World.cell?, hnode], by simp [World.cell?, hnode], by simp [World.cell?, hnode]⟩
    have ih : ∀ pl, pl ≤ 4 → ∀ x ∈ t.kids, ∀ u, IsRe ok m W0 u (reOf x) → KidC W0 b M u pl (wrT mk x pl) := fun pl hp x hx u hu => put_all MK m x u pl hu (hkG x hx) (hkF x hx) hp
    clear hkids hkG hkF hG hF er hnode
    rw [wrT_eq]
    obtain ⟨k, s, a, c, ks⟩ := t
    simp only at *
    have kidC : ∀ pl, pl ≤ 4 → ∀ {g off cc : Nat}, (∀ j, (hj : j < ks.length) → ∃ u, W0.cell? ⟨g, off + j, none⟩ = some u ∧ IsRe ok m W0 u (reOf ks[j])) → ∀ j, j < (ks.map fun x => wrT mk x pl).length → ∃ u, W0.cell? ⟨g, off + j, none⟩ = some u ∧ KidC W0 b M u pl ((ks.map fun x => wrT mk x pl).getD j []) := fun pl hp g off cc hk j hj => by
      rw [List.length_map] at hj
      obtain ⟨u, hu, hr⟩ := hk j hj
      refine ⟨u, hu, ?_⟩
      have e : (ks.map fun x => wrT mk x pl).getD j [] = wrT mk ks[j] pl := by simp [hj]
      rw [e]
      exact ih pl hp _ (List.getElem_mem hj) u hr
    intro X w hP hX
    rcases hno with ⟨rfl, hk0, rfl, rfl, hcan, _⟩ | ⟨rfl, hk1, hk2, rfl, rfl, rfl⟩ | ⟨hk34, hk1, hk2, rfl, rfl, rfl⟩ | ⟨rfl, hk1, rfl, rfl, rfl⟩ | ⟨rfl, hk1, hmn, hmn2, hmx, rfl⟩
    · have e : wrapB (placeK 1) place (bodyB mk 1 s 0 0 (ks.map (wrT mk))) = setB mk s := by
        unfold wrapB bodyB
        rw [if_neg (by show ¬ 4 < place; omega), if_pos rfl]
      rw [e] at hX ⊢
      exact put_setN hP hN hpl hpl hX fun X' w' h' => (wset_any MK h'.env h'.bld.lt sv s hfew (hset.rngs.below h'.bel) (canon_ok hcan)).mono fun e w'' hh => ⟨hh.1, h'.below hh.2⟩
    · simp only [List.length_map] at hk1 hk2
      have e : bodyB mk 2 [] 0 0 (ks.map (wrT mk)) = if ks.length = 0 then [40, 41] else (ks.map fun x => wrT mk x 3).flatten := by
        unfold bodyB
        rw [if_neg (by decide), if_pos rfl, List.length_map, List.map_map]; rfl
      rw [e] at hX ⊢
      have HB : WrC W0 b M 58 #[.pointer (some ⟨b, 0, none⟩), kv] (.returned (.tuple #[])) (if ks.length = 0 then [40, 41] else (ks.map fun x => wrT mk x 3).flatten) := by
        intro X' w' h' hl'
        by_cases h0 : ks.length = 0
        · have : ks = [] := by simpa using h0
          subst this
          rw [if_pos h0] at hl' ⊢
          have hs : ∃ a c, kv = .slice a 0 c := by
            rcases hK with ⟨_, h⟩ | ⟨g, off, c, h, _⟩
            · exact h
            · exact ⟨_, _, h⟩
          obtain ⟨a, c, rfl⟩ := hs
          exact wrow_none h' (by omega) a c
        · rw [if_neg h0] at hl' ⊢
          rcases hK with ⟨h, _⟩ | ⟨g, off, c, rfl, hg, hk⟩
          · rw [h] at h0; simp at h0
          · have := wrow_some h' g off c (ks.map fun x => wrT mk x 3) (by rw [List.length_map]; omega) (by rw [List.length_map]; omega) hg (kidC 3 (by omega) (cc := c) hk) hl'
            rwa [List.length_map] at this
      unfold wrapB at hX ⊢
      by_cases hw : placeK 2 < place
      · rw [if_pos hw] at hX ⊢
        exact put_rowW hP hN hpl hw hX HB
      · rw [if_neg hw] at hX ⊢
        exact put_rowN hP hN hpl (Nat.le_of_not_lt hw) hX HB
    · simp only [List.length_map] at hk1 hk2
      rcases hK with ⟨h, _⟩ | ⟨g, off, c, rfl, hg, hk⟩
      · rw [h] at hk1; simp at hk1
      · rcases hk34 with rfl | rfl
        · have e : bodyB mk 3 [] 0 0 (ks.map (wrT mk)) = joinB 124 (ks.map fun x => wrT mk x 1) := by
            unfold bodyB
            rw [if_neg (by decide), if_neg (by decide), if_pos rfl, List.map_map]; rfl
          rw [e] at hX ⊢
          have HB : WrC W0 b M 59 #[.pointer (some ⟨b, 0, none⟩), .slice (some ⟨g, off, none⟩) ks.length c, .int .u8 124, .int .i64 1] (.returned (.tuple #[])) (joinB 124 (ks.map fun x => wrT mk x 1)) := by
            intro X' w' h' hl'
            have := wbetween_any h' g off c 124 1 (by omega) (by omega) (ks.map fun x => wrT mk x 1) (by rw [List.length_map]; omega) hg (kidC 1 (by omega) (cc := c) hk) hl'
            rwa [List.length_map] at this
          unfold wrapB at hX ⊢
          by_cases hw : placeK 3 < place
          · rw [if_pos hw] at hX ⊢
            exact put_orW hP hN hpl hw hX HB
          · rw [if_neg hw] at hX ⊢
            exact put_orN hP hN hpl (Nat.le_of_not_lt hw) hX HB
        · have e : bodyB mk 4 [] 0 0 (ks.map (wrT mk)) = joinB 38 (ks.map fun x => wrT mk x 2) := by
            unfold bodyB
            rw [if_neg (by decide), if_neg (by decide), if_neg (by decide), if_pos rfl, List.map_map]; rfl
          rw [e] at hX ⊢
          have HB : WrC W0 b M 59 #[.pointer (some ⟨b, 0, none⟩), .slice (some ⟨g, off, none⟩) ks.length c, .int .u8 38, .int .i64 2] (.returned (.tuple #[])) (joinB 38 (ks.map fun x => wrT mk x 2)) := by
            intro X' w' h' hl'
            have := wbetween_any h' g off c 38 2 (by omega) (by omega) (ks.map fun x => wrT mk x 2) (by rw [List.length_map]; omega) hg (kidC 2 (by omega) (cc := c) hk) hl'
            rwa [List.length_map] at this
          unfold wrapB at hX ⊢
          by_cases hw : placeK 4 < place
          · rw [if_pos hw] at hX ⊢
            exact put_andW hP hN hpl hw hX HB
          · rw [if_neg hw] at hX ⊢
            exact put_andN hP hN hpl (Nat.le_of_not_lt hw) hX HB
    · simp only [List.length_map] at hk1
      obtain ⟨x, rfl⟩ := List.length_eq_one_iff.1 hk1
      rcases hK with ⟨h, _⟩ | ⟨g, off, c, rfl, hg, hk⟩
      · cases h
      · obtain ⟨u, hu, hr⟩ := hk 0 (by simp)
        have hC := ih 4 (by omega) x (by simp) u hr
        have e : wrapB (placeK 5) place (bodyB mk 5 [] 0 0 ([x].map (wrT mk))) = 126 :: wrT mk x 4 := by
          unfold wrapB bodyB
          rw [if_neg (by show ¬ 4 < place; omega), if_neg (by decide), if_neg (by decide), if_neg (by decide), if_neg (by decide), if_pos rfl]; simp
        rw [e] at hX ⊢
        exact put_notN hP hN hpl hpl hX hC hg hu
    · simp only [List.length_map] at hk1
      obtain ⟨x, rfl⟩ := List.length_eq_one_iff.1 hk1
      rcases hK with ⟨h, _⟩ | ⟨g, off, c', rfl, hg, hk⟩
      · cases h
      · obtain ⟨u, hu, hr⟩ := hk 0 (by simp)
        have hC := ih 3 (by omega) x (by simp) u hr
        have hto : TimesOk a c := ⟨hmn, hmn2, by omega⟩
        have e : bodyB mk 6 [] a c ([x].map (wrT mk)) = wrT mk x 3 ++ timesB a c := by
          unfold bodyB
          rw [if_neg (by decide), if_neg (by decide), if_neg (by decide), if_neg (by decide), if_neg (by decide)]; simp
        rw [e] at hX ⊢
        unfold wrapB at hX ⊢
        by_cases hw : placeK 6 < place
        · rw [if_pos hw] at hX ⊢
          exact put_repW hP hN hpl hw hX hC hg hu hto
        · rw [if_neg hw] at hX ⊢
          exact put_repN hP hN hpl (Nat.le_of_not_lt hw) hX hC hg hu hto
end Go.Proofs.YtbjohedenfindaaGreatDoor

namespace Go.Proofs.YtbjohedenfindaaGreatDoor
open Go.RowKit
open Go.Maps (Keyed)
set_option linter.unusedVariables false
set_option maxRecDepth 100000

variable {mk : List Rg → Bool → List Rg}

set_option maxHeartbeats 4000000 in
theorem pwrite_any (MK : MkOk mk) {ok : Nat → Prop} {w : World} {v : Value} {t : Tm} (hT : Tree ok w v (reOf t)) (hG : GoodT (reOf t)) (hF : FewT 9000 (reOf t)) (hw : weighS 31 (reOf t) ≤ 60) (hlen : (wrT mk t 0).length ≤ 65536) (hdb : w.cell? ⟨13, 15, none⟩ = some (.int .u8 4)) (hbig : 16 ≤ w.heap.size) :
    Calls Tryz.prog 15 #[v] w fun e w' => e = .returned (.tuple #[.string (bytesB (wrT mk t 0)), .nilIface]) ∧ Below w.heap.size w w' := by
  have hok := pok_any hT (hG 31)
  rw [show decide (weighS 31 (reOf t) ≤ 60) = true by simp [hw]] at hok
  have HOk : Hid (Calls Tryz.prog 14 #[v] w fun e w' => e = .returned (.bool true) ∧ Below w.heap.size w w') := hok
  have HNew : Hid (∀ w', Calls Tryz.prog 28 #[] w' fun e w'' => e = .returned (.pointer (some ⟨w'.heap.size + 1, 0, none⟩)) ∧ w''.heap[w'.heap.size + 1]? = some (.cells #[.pointer none, .slice none 0 0, .map (some w'.heap.size)] 73 (0, 0)) ∧ SgnMap w'' w'.heap.size ∧ Below w'.heap.size w' w'') := newWriter_any
  have HP : Hid (∀ w1 w2, Below w.heap.size w w1 → w2.heap[w1.heap.size + 1]? = some (.cells #[.pointer none, .slice none 0 0, .map (some w1.heap.size)] 73 (0, 0)) → SgnMap w2 w1.heap.size → Below w1.heap.size w1 w2 → Calls Tryz.prog 29 #[.pointer (some ⟨w1.heap.size + 1, 0, none⟩), v, .int .i64 0] w2 fun e w3 => e = .returned (.tuple #[]) ∧ PW w1 (w1.heap.size + 1) w1.heap.size (wrT mk t 0) w3) := fun w1 w2 h1 h2 h3 h4 => by
    obtain ⟨m, hm⟩ := hT
    have hm1 : IsRe ok m w1 v (reOf t) := IsRe.moved h1.size (fun b hb hk => ⟨hk, h1.block b hb⟩) m hm
    have hPW : PW w1 (w1.heap.size + 1) w1.heap.size [] w2 := ⟨bld_new (by omega) tk_writer h2, h4, h3, by omega, (h1.cell (p := ⟨13, 15, none⟩) (by show 13 < _; omega)).trans hdb, Nat.le_trans hbig h1.size⟩
    exact put_all MK m t v 0 hm1 hG hF (by omega) [] w2 hPW (by simpa using hlen)
  obtain ⟨q, rfl, _⟩ := hT.ptr
  clear hok hT hdb
  generalize wrT mk t 0 = T at *
  go_enter Tryz.func15, Tryz.ntmps15
  go_wp2_with fail
  go_at_call 14
  refine HOk.out.mono ?_
  rintro e w1 ⟨rfl, hb1⟩
  go_wp2_with fail
  go_at_call 28
  refine (HNew.out _).mono ?_
  rintro e w2 ⟨rfl, h2, h3, h4⟩
  have HP1 := HP.out w1 w2 hb1 h2 h3 h4
  have HP2 : Hid (Calls Tryz.prog 29 #[.pointer (some ⟨w1.heap.size + 1, 0, none⟩), .pointer (some ⟨q, 0, none⟩), .int .i64 0] w2 fun e w3 => e = .returned (.tuple #[]) ∧ PW w1 (w1.heap.size + 1) w1.heap.size T w3) := HP1
  clear HP1 h2 h3 h4 HP HOk HNew
  go_wp2_with fail
  go_at_call 29
  refine HP2.out.mono ?_
  rintro e w3 ⟨rfl, hP3⟩
  have HP3 : Hid (PW w1 (w1.heap.size + 1) w1.heap.size T w3) := hP3
  have HS : Hid (Calls Tryz.prog 31 #[.pointer (some ⟨w1.heap.size + 1, 0, none⟩)] w3 fun e w' => e = .returned (.string (bytesB T)) ∧ Below w1.heap.size w3 w') := bstr_any _ hP3.bld hP3.bel.size
  have HL : Hid (Calls Tryz.prog 30 #[.pointer (some ⟨w1.heap.size + 1, 0, none⟩)] w3 fun e w' => e = .returned (.int .i64 T.length) ∧ w' = w3) := hP3.len
  clear hP3 HP2
  go_wp2_with fail
  go_at_call 30
  refine HL.out.mono ?_
  rintro e w4 ⟨rfl, rfl⟩
  go_wp2_with fail
  go_at_call 31
  refine HS.out.mono ?_
  rintro e w5 ⟨rfl, hb5⟩
  have hfin : Below w.heap.size w w5 := hb1.trans ((HP3.out.bel.trans hb5).mono hb1.size)
  clear HS HL HP3 hb5
  go_wp2
  go_ret2
  exact ⟨rfl, hfin⟩
end Go.Proofs.YtbjohedenfindaaGreatDoor

namespace Go.Proofs.YtbjohedenfindaaGreatDoor
open Go.RowKit
set_option linter.unusedVariables false
set_option maxRecDepth 100000

/-- two trees of one pattern, and what is known of the trees below them -/
def SamC (W0 : World) (v v' : Value) : Prop := ∀ w, Below W0.heap.size W0 w → Calls Tryz.prog 10 #[v, v'] w fun e w' => e = .returned (.bool true) ∧ Below W0.heap.size W0 w'

set_option maxHeartbeats 4000000 in
theorem same_node {W0 w : World} {q q' n : Nat} {k mn mx : Int} {sv sv' : Value} {ka ka' : Option Addr} {kc kc' : Nat} {s : List Rg} (hw : Below W0.heap.size W0 w) (hN : NodeC W0 q k sv mn mx (.slice ka n kc)) (hN' : NodeC W0 q' k sv' mn mx (.slice ka' n kc')) (hn : n ≤ 10000000) (hs : s.length ≤ 1000000) (h1 : Rngs W0 sv s) (h2 : Rngs W0 sv' s)
    (hk : ∀ j, j < n → ∃ g off g' off' u u', ka = some ⟨g, off, none⟩ ∧ ka' = some ⟨g', off', none⟩ ∧ g < W0.heap.size ∧ g' < W0.heap.size ∧ W0.cell? ⟨g, off + j, none⟩ = some u ∧ W0.cell? ⟨g', off' + j, none⟩ = some u' ∧ SamC W0 u u') :
    Calls Tryz.prog 10 #[.pointer (some ⟨q, 0, none⟩), .pointer (some ⟨q', 0, none⟩)] w fun e w' => e = .returned (.bool true) ∧ Below W0.heap.size W0 w' := by
  obtain ⟨sa, sc, rfl⟩ := rngs_slice h1
  obtain ⟨sa', sc', rfl⟩ := rngs_slice h2
  have HS : Hid (∀ w', Below W0.heap.size W0 w' → Calls Tryz.prog 24 #[.slice sa s.length sc, .slice sa' s.length sc'] w' fun e w'' => e = .returned (.bool true) ∧ Below W0.heap.size W0 w'') := fun w' h => by
    refine (sameset_any _ _ s w' hs (h1.below h) (h2.below h)).mono ?_
    rintro e w'' ⟨rfl, m, rfl⟩
    exact ⟨rfl, below_drew' h m⟩
  have HC : Hid (∀ w', Below W0.heap.size W0 w' → (w'.cell? ⟨q, 0, none⟩ = some (.int .i64 k) ∧ w'.cell? ⟨q, 1, none⟩ = some (.slice sa s.length sc) ∧ w'.cell? ⟨q, 2, none⟩ = some (.int .i64 mn) ∧ w'.cell? ⟨q, 3, none⟩ = some (.int .i64 mx) ∧ w'.cell? ⟨q, 4, none⟩ = some (.slice ka n kc)) ∧ (w'.cell? ⟨q', 0, none⟩ = some (.int .i64 k) ∧ w'.cell? ⟨q', 1, none⟩ = some (.slice sa' s.length sc') ∧ w'.cell? ⟨q', 2, none⟩ = some (.int .i64 mn) ∧ w'.cell? ⟨q', 3, none⟩ = some (.int .i64 mx) ∧ w'.cell? ⟨q', 4, none⟩ = some (.slice ka' n kc'))) := fun w' h => by
    obtain ⟨a0, a1, a2, a3, a4, a5⟩ := hN
    obtain ⟨b0, b1, b2, b3, b4, b5⟩ := hN'
    exact ⟨⟨(h.cell (p := ⟨q, 0, none⟩) a0).trans a1, (h.cell (p := ⟨q, 1, none⟩) a0).trans a2, (h.cell (p := ⟨q, 2, none⟩) a0).trans a3, (h.cell (p := ⟨q, 3, none⟩) a0).trans a4, (h.cell (p := ⟨q, 4, none⟩) a0).trans a5⟩, (h.cell (p := ⟨q', 0, none⟩) b0).trans b1, (h.cell (p := ⟨q', 1, none⟩) b0).trans b2, (h.cell (p := ⟨q', 2, none⟩) b0).trans b3, (h.cell (p := ⟨q', 3, none⟩) b0).trans b4, (h.cell (p := ⟨q', 4, none⟩) b0).trans b5⟩
  have HK : Hid (∀ j, j < n → ∃ g off g' off' u u', ka = some ⟨g, off, none⟩ ∧ ka' = some ⟨g', off', none⟩ ∧ g < W0.heap.size ∧ g' < W0.heap.size ∧ W0.cell? ⟨g, off + j, none⟩ = some u ∧ W0.cell? ⟨g', off' + j, none⟩ = some u' ∧ SamC W0 u u') := hk
  clear hN hN' h1 h2 hk hs
  obtain ⟨⟨c0, c1, c2, c3, c4⟩, d0, d1, d2, d3, d4⟩ := HC.out w hw
  generalize s.length = sn at *
  go_enter Tryz.func10, Tryz.ntmps10
  go_wp2_with fail
  go_region_held3 (fun w' => w'.cell? ⟨q, 1, none⟩ = some (.slice sa sn sc) ∧ w'.cell? ⟨q', 1, none⟩ = some (.slice sa' sn sc')) (go_keep) ((go_at_call 24; refine (HS.out _ ?_).mono ?_; exact below_drew1 hw; rintro e w1 ⟨rfl, hq1⟩; have f1 := HC.out w1 hq1; obtain ⟨⟨g0, g1, g2, g3, g4⟩, e0, e1, e2, e3, e4⟩ := f1))
  clear c0 c1 c2 c3 c4 d0 d1 d2 d3 d4 hw
  go_wp2_with fail
  go_region_held3 (fun w' => w'.cell? ⟨q, 0, none⟩ = some (.int .i64 k) ∧ w'.cell? ⟨q', 0, none⟩ = some (.int .i64 k) ∧ w'.cell? ⟨q, 2, none⟩ = some (.int .i64 mn) ∧ w'.cell? ⟨q', 2, none⟩ = some (.int .i64 mn) ∧ w'.cell? ⟨q, 3, none⟩ = some (.int .i64 mx) ∧ w'.cell? ⟨q', 3, none⟩ = some (.int .i64 mx) ∧ w'.cell? ⟨q, 4, none⟩ = some (.slice ka n kc) ∧ w'.cell? ⟨q', 4, none⟩ = some (.slice ka' n kc')) (go_keep) ((fail))
  have hq2 := below_drew1 hq1
  clear g0 g1 g2 g3 g4 e0 e1 e2 e3 e4 HS hq1
  generalize w1.drew = w2 at *
  go_wp2
  go_loopw [6] (fun jv wr => ∃ (j : Nat), j ≤ n ∧ jv = .int .i64 j ∧ Below W0.heap.size W0 wr) (fun jv _ => n - (intOf jv).toNat)
  case atStart => exact ⟨0, Nat.zero_le _, rfl, hq2⟩
  case round =>
    obtain ⟨j, hj, rfl, hbw⟩ := hrel
    obtain ⟨⟨_, _, _, _, c4⟩, _, _, _, _, d4⟩ := HC.out wr hbw
    by_cases hlt : j < n
    · obtain ⟨g, off, g', off', u, u', rfl, rfl, hg, hg', hu, hu', hS⟩ := HK.out j hlt
      have x1 := (hbw.cell (p := ⟨g, off + j, none⟩) hg).trans hu
      have x2 := (hbw.cell (p := ⟨g', off' + j, none⟩) hg').trans hu'
      have HSm : Hid (SamC W0 u u') := hS
      have HX : Hid (∀ w', Below W0.heap.size W0 w' → w'.cell? ⟨q, 4, none⟩ = some (.slice (some ⟨g, off, none⟩) n kc) ∧ w'.cell? ⟨q', 4, none⟩ = some (.slice (some ⟨g', off', none⟩) n kc') ∧ w'.cell? ⟨g, off + j, none⟩ = some u ∧ w'.cell? ⟨g', off' + j, none⟩ = some u') := fun w' h => ⟨(HC.out w' h).1.2.2.2.2, (HC.out w' h).2.2.2.2.2, (h.cell (p := ⟨g, off + j, none⟩) hg).trans hu, (h.cell (p := ⟨g', off' + j, none⟩) hg').trans hu'⟩
      clear hu hu' hS HK
      go_wp2_with fail
      go_region_held3 (fun w' => w'.cell? ⟨q, 4, none⟩ = some (.slice (some ⟨g, off, none⟩) n kc) ∧ w'.cell? ⟨q', 4, none⟩ = some (.slice (some ⟨g', off', none⟩) n kc') ∧ w'.cell? ⟨g, off + j, none⟩ = some u ∧ w'.cell? ⟨g', off' + j, none⟩ = some u') (go_keep) ((go_at_call 10; refine (HSm.out _ ?_).mono ?_; exact below_drew1 hbw; rintro e w4 ⟨rfl, hq4⟩; have y := HX.out w4 hq4; obtain ⟨y1, y2, y3, y4⟩ := y))
      all_goals
        clear c4 d4 x1 x2 y1 y2 y3 y4
        go_wp2
        go_roundw
        case rel => exact ⟨j + 1, by omega, by go_num, hq4⟩
        case measure => simp [intOf]; omega
    · go_wp2
      go_ret
      exact ⟨rfl, hbw⟩

theorem same_all {W0 : World} {ok ok' : Nat → Prop} : ∀ (m : Nat) (t : Tm) (v v' : Value), IsRe ok m W0 v (reOf t) → IsRe ok' m W0 v' (reOf t) → GoodT (reOf t) → SamC W0 v v'
  | 0, _, _, _, h, _, _ => h.elim
  | m + 1, t, v, v', h, h', hG => by
    have er : reOf t = ⟨t.kind, t.set, t.mn, t.mx, (t.kids.map reOf).map some⟩ := reOf_eq t
    have hno : NodeOk (reOf t) := (hG 1).1
    have hkG : ∀ x ∈ t.kids, GoodT (reOf x) := fun x hx => good_kid hG hx
    obtain ⟨q, sv, kv, rfl, hok, hnode, hset, hkids⟩ := h
    obtain ⟨q', sv', kv', rfl, hok', hnode', hset', hkids'⟩ := h'
    rw [er] at hno hnode hset hkids hnode' hset' hkids'
    simp only at hno hnode hset hkids hnode' hset' hkids'
    have hK := kidsAt_of hkids
    have hK' := kidsAt_of hkids'
    have hq : q < W0.heap.size := (Array.getElem?_eq_some_iff.1 hnode).1
    have hq' : q' < W0.heap.size := (Array.getElem?_eq_some_iff.1 hnode').1
    have hN : NodeC W0 q t.kind sv t.mn t.mx kv := ⟨hq, by simp [World.cell?, hnode], by simp [World.cell?, hnode], by simp [World.cell?, hnode], by simp [World.cell?, hnode], by simp [World.cell?, hnode]⟩
    have hN' : NodeC W0 q' t.kind sv' t.mn t.mx kv' := ⟨hq', by simp [World.cell?, hnode'], by simp [World.cell?, hnode'], by simp [World.cell?, hnode'], by simp [World.cell?, hnode'], by simp [World.cell?, hnode']⟩
    have hsl : t.set.length ≤ 1000000 := by
      unfold NodeOk at hno
      simp only at hno
      rcases hno with ⟨_, _, _, _, hc, _⟩ | ⟨_, _, _, _, _, h⟩ | ⟨_, _, _, _, _, h⟩ | ⟨_, _, _, _, h⟩ | ⟨_, _, _, _, _, h⟩
      · have := (canon_rng t.set 0 (by omega) hc).2; omega
      all_goals (rw [h]; simp)
    have hkl : t.kids.length ≤ 10000000 := by
      unfold NodeOk at hno
      simp only [List.length_map] at hno
      rcases hno with ⟨_, h, _⟩ | ⟨_, _, h, _⟩ | ⟨_, _, h, _⟩ | ⟨_, h, _⟩ | ⟨_, h, _⟩
      · have : t.kids = [] := by simpa using h
        rw [this]; simp
      all_goals omega
    have hs1 : ∃ a c, kv = .slice a t.kids.length c := by
      rcases hK with ⟨h, a, c, rfl⟩ | ⟨g, off, c, rfl, _⟩
      · exact ⟨a, c, by rw [h]; rfl⟩
      · exact ⟨_, c, rfl⟩
    have hs2 : ∃ a c, kv' = .slice a t.kids.length c := by
      rcases hK' with ⟨h, a, c, rfl⟩ | ⟨g, off, c, rfl, _⟩
      · exact ⟨a, c, by rw [h]; rfl⟩
      · exact ⟨_, c, rfl⟩
    obtain ⟨ka, kc, rfl⟩ := hs1
    obtain ⟨ka', kc', rfl⟩ := hs2
    intro w hw
    refine same_node hw hN hN' hkl hsl hset.rngs hset'.rngs fun j hj => ?_
    rcases hK with ⟨h, _⟩ | ⟨g, off, c, e1, hg, hk⟩
    · rw [h] at hj; simp at hj
    · rcases hK' with ⟨h, _⟩ | ⟨g', off', c', e2, hg', hk'⟩
      · rw [h] at hj; simp at hj
      · obtain ⟨u, hu, hr⟩ := hk j hj
        obtain ⟨u', hu', hr'⟩ := hk' j hj
        cases e1
        cases e2
        exact ⟨g, off, g', off', u, u', rfl, rfl, hg, hg', hu, hu', same_all m _ u u' hr hr' (hkG _ (List.getElem_mem hj))⟩
end Go.Proofs.YtbjohedenfindaaGreatDoor
