/- Texts of the proof, put together: VRefB, VRefC. -/
import Derived.Test.YtbjohedenfindaaGreatDoorPw29
namespace Go.Proofs.YtbjohedenfindaaGreatDoor
open Go.RowKit
set_option linter.unusedVariables false
set_option maxRecDepth 100000

set_option maxHeartbeats 4000000 in
theorem shaped_deepx {w : World} {p : Option Addr} (z : Int) (h : 30 < z) : Calls Tryz.prog 25 #[.pointer p, .int .i64 z] w fun e w' => e = .returned (.bool false) ∧ Below w.heap.size w w' := by
  cases p
  all_goals
    go_enter Tryz.func25, Tryz.ntmps25
    go_wp2
    go_ret
    exact ⟨rfl, Below.refl _ _⟩
set_option maxHeartbeats 4000000 in
theorem shaped_nil {w : World} (z : Int) : Calls Tryz.prog 25 #[.pointer none, .int .i64 z] w fun e w' => e = .returned (.bool false) ∧ Below w.heap.size w w' := by
  go_enter Tryz.func25, Tryz.ntmps25
  go_wp2
  go_ret
  exact ⟨rfl, Below.refl _ _⟩

/-- a bool that says whether -/
def BoolP (A : Prop) (w : World) (e : Ending) (w' : World) : Prop := ∃ bb : Bool, e = .returned (.bool bb) ∧ (bb = true ↔ A) ∧ Below w.heap.size w w'
set_option maxHeartbeats 8000000 in
theorem shaped_rawx {w : World} {b kc sc ns nc nk : Nat} {kind : Int} {ka sa : Option Addr} {ab tb sb : Bool} {kb : Nat → Bool} {S C : World → Option Addr → Nat → Prop} (z : Int) (hz0 : 0 ≤ z) (hz : z ≤ 30) (hlt : b < w.heap.size) (hnk : nk ≤ 17592186000000)
    (c0 : w.cell? ⟨b, 0, none⟩ = some (.int .i64 kind)) (c1 : w.cell? ⟨b, 1, none⟩ = some (.slice sa ns sc)) (c4 : w.cell? ⟨b, 4, none⟩ = some (.slice ka nk kc)) (hns : ns ≤ 1000000)
    (HKo : Hid (∀ w', Calls Tryz.prog 49 #[.int .i64 kind, .int .i64 (nk : Int)] w' fun e w'' => e = .returned (.bool ab) ∧ w'' = w'))
    (HTi : Hid (∀ w', Below w.heap.size w w' → Calls Tryz.prog 50 #[.pointer (some ⟨b, 0, none⟩)] w' fun e w'' => e = .returned (.bool tb) ∧ Below w'.heap.size w' w''))
    (HCa : Hid (∀ w', Below w.heap.size w w' → Calls Tryz.prog 51 #[.slice sa ns sc] w' fun e w'' => ∃ ua uc, e = .returned (.slice ua nc uc) ∧ C w'' ua uc ∧ Below w'.heap.size w' w''))
    (HSa : Hid (∀ (w' : World) (ua : Option Addr) (uc : Nat), Below w.heap.size w w' → C w' ua uc → Calls Tryz.prog 24 #[.slice ua nc uc, .slice sa ns sc] w' fun e w'' => e = .returned (.bool sb) ∧ ∃ n, w'' = w'.drewN n))
    (HK : Hid (∀ j, j < nk → ∃ g off p, ka = some ⟨g, off, none⟩ ∧ g < w.heap.size ∧ w.cell? ⟨g, off + j, none⟩ = some (.pointer p) ∧ ∀ w', Below w.heap.size w w' → Calls Tryz.prog 25 #[.pointer p, .int .i64 (z + 1)] w' fun e w'' => e = .returned (.bool (kb j)) ∧ Below w'.heap.size w' w'')) {A : Prop} (HAA : Hid (A ↔ (ab = true ∧ tb = true ∧ sb = true ∧ (kind = 1 ∨ ns = 0) ∧ ∀ j, j < nk → kb j = true))) :
    Calls Tryz.prog 25 #[.pointer (some ⟨b, 0, none⟩), .int .i64 z] w fun e w' => BoolP A w e w' := by
  have hzz : IntKind.i64.wrap (z + 1) = z + 1 := wrap_id _ (by omega) (by omega)
  have hz30 : ¬ 30 < z := by omega
  have HF : Hid (∀ w', Below w.heap.size w w' → w'.cell? ⟨b, 0, none⟩ = some (.int .i64 kind) ∧ w'.cell? ⟨b, 1, none⟩ = some (.slice sa ns sc) ∧ w'.cell? ⟨b, 4, none⟩ = some (.slice ka nk kc) ∧ b < w'.heap.size) := fun w' hb => ⟨(hb.cell (p := ⟨b, 0, none⟩) hlt).trans c0, (hb.cell (p := ⟨b, 1, none⟩) hlt).trans c1, (hb.cell (p := ⟨b, 4, none⟩) hlt).trans c4, Nat.lt_of_lt_of_le hlt hb.size⟩
  go_enter Tryz.func25, Tryz.ntmps25
  go_wp2
  go_quiet ((go_at_call 49; exact Calls.quiet_of_same (HKo.out _)))
  have hb1 : Below w.heap.size w (w.drewN nq) := ⟨rfl, rfl, rfl, Nat.le_refl _, fun _ _ => rfl⟩
  generalize w.drewN nq = w1 at *
  obtain ⟨d0, d1, d4, dl⟩ := HF.out w1 hb1
  clear c0 c1 c4
  go_wp2_with fail
  go_at_call 50
  refine (HTi.out w1 hb1).mono ?_
  rintro e w2 ⟨rfl, hbx⟩
  have hb2 := hb1.trans (hbx.mono hb1.size)
  obtain ⟨e0, e1, e4, el⟩ := HF.out w2 hb2
  clear d0 d1 d4 dl hbx hb1
  go_wp2_with fail
  go_at_call 51
  refine (HCa.out w2 hb2).mono ?_
  rintro e w3 ⟨ua, uc, rfl, hR, hbx⟩
  have HR : Hid (C w3 ua uc) := hR
  have hb3 := hb2.trans (hbx.mono hb2.size)
  obtain ⟨f0, f1, f4, fl⟩ := HF.out w3 hb3
  clear e0 e1 e4 el hbx hb2 hR
  go_wp2_with fail
  go_at_call 24
  refine (HSa.out w3 ua uc hb3 HR.out).mono ?_
  rintro e w4 ⟨rfl, n4, hw4⟩
  have hb4 : Below w.heap.size w w4 := by rw [hw4]; exact below_drewU hb3 n4
  obtain ⟨g0, g1, g4, gl⟩ := HF.out w4 hb4
  clear f0 f1 f4 fl hb3 hw4 HR
  have HL : Hid (∀ (wr : World) (j : Nat), Below w.heap.size w wr → j < nk → ∃ g off p, ka = some ⟨g, off, none⟩ ∧ wr.cell? ⟨g, off + j, none⟩ = some (.pointer p) ∧ Calls Tryz.prog 25 #[.pointer p, .int .i64 (z + 1)] wr fun e w'' => e = .returned (.bool (kb j)) ∧ Below w.heap.size w w'') := fun wr j hb hj => by
    obtain ⟨g, off, p, h1, h2, h3, h4⟩ := HK.out j hj
    refine ⟨g, off, p, h1, (hb.cell (p := ⟨g, off + j, none⟩) h2).trans h3, (h4 wr hb).mono ?_⟩
    rintro e w'' ⟨rfl, hbx⟩
    exact ⟨rfl, hb.trans (hbx.mono hb.size)⟩
  clear HK HTi HCa HSa HKo
  have hcs : ab = false ∨ (ab = true ∧ tb = false) ∨ (ab = true ∧ tb = true ∧ sb = false) ∨ (ab = true ∧ tb = true ∧ sb = true ∧ (kind != 1) = true ∧ 0 < (ns : Int)) ∨ (ab = true ∧ tb = true ∧ sb = true ∧ kind = 1) ∨ (ab = true ∧ tb = true ∧ sb = true ∧ (kind != 1) = true ∧ ns = 0) := by
    cases ab
    · exact .inl rfl
    · cases tb
      · exact .inr (.inl ⟨rfl, rfl⟩)
      · cases sb
        · exact .inr (.inr (.inl ⟨rfl, rfl, rfl⟩))
        · by_cases hk : kind = 1
          · exact .inr (.inr (.inr (.inr (.inl ⟨rfl, rfl, rfl, hk⟩))))
          · have hk' : (kind != 1) = true := by rw [bne_iff_ne]; exact hk
            by_cases hn : ns = 0
            · exact .inr (.inr (.inr (.inr (.inr ⟨rfl, rfl, rfl, hk', hn⟩))))
            · exact .inr (.inr (.inr (.inl ⟨rfl, rfl, rfl, hk', by omega⟩)))
  rcases hcs with rfl | ⟨rfl, rfl⟩ | ⟨rfl, rfl, rfl⟩ | ⟨rfl, rfl, rfl, hq, hp⟩ | ⟨rfl, rfl, rfl, rfl⟩ | ⟨rfl, rfl, rfl, hq, rfl⟩
  · go_wp2
    go_ret
    exact ⟨false, rfl, ⟨fun h => (by cases h), fun h => (HAA.out.1 h).1⟩, hb4⟩
  · go_wp2
    go_ret
    exact ⟨false, rfl, ⟨fun h => (by cases h), fun h => (HAA.out.1 h).2.1⟩, hb4⟩
  · go_wp2
    go_ret
    exact ⟨false, rfl, ⟨fun h => (by cases h), fun h => (HAA.out.1 h).2.2.1⟩, hb4⟩
  · have HNo : Hid (¬ (kind = 1 ∨ ns = 0)) := fun h => by
      rw [bne_iff_ne] at hq
      omega
    go_wp2
    go_ret
    exact ⟨false, rfl, ⟨fun h => (by cases h), fun h => (HNo.out (HAA.out.1 h).2.2.2.1).elim⟩, hb4⟩
  all_goals
    go_wp2
    go_loopw [9] (fun iv wr => ∃ i : Nat, i ≤ nk ∧ iv = .int .i64 i ∧ Below w.heap.size w wr ∧ Hid (∀ j, j < i → kb j = true)) (fun iv _ => nk - (intOf iv).toNat)
    case atStart => exact ⟨0, Nat.zero_le _, rfl, hb4, fun j hj => by omega⟩
    case round =>
      clear g0 g1 g4 gl hb4
      obtain ⟨i, hi, rfl, hbw, HA⟩ := hrel
      obtain ⟨g0, g1, g4, gl⟩ := HF.out wr hbw
      by_cases hlt2 : i < nk
      · obtain ⟨g, off, p, rfl, hu, hC⟩ := HL.out wr i hbw hlt2
        have HC : Hid (Calls Tryz.prog 25 #[.pointer p, .int .i64 (z + 1)] wr fun e w'' => e = .returned (.bool (kb i)) ∧ Below w.heap.size w w'') := hC
        have HKB : Hid (∀ q, kb i = q → (q = true → ∀ j, j < i + 1 → kb j = true) ∧ (q = false → ¬ ∀ j, j < nk → kb j = true)) := fun q hq => ⟨fun h j hj => by
            by_cases e : j = i
            · subst e; rw [hq, h]
            · exact HA.out j (by omega), fun h hall => by
            have := hall i hlt2
            rw [hq, h] at this
            cases this⟩
        clear hC
        go_wp2_with fail
        go_at_call 25
        refine HC.out.mono ?_
        rintro e w5 ⟨rfl, hb5⟩
        clear g0 g1 g4 gl hu HC
        cases hq : kb i
        · have HN := (HKB.out _ hq).2 rfl
          have HNo : Hid (¬ ∀ j, j < nk → kb j = true) := HN
          clear HN HKB HA hq
          go_wp2
          go_ret
          exact ⟨false, rfl, ⟨fun h => (by cases h), fun h => (HNo.out (HAA.out.1 h).2.2.2.2).elim⟩, hb5⟩
        · have HY := (HKB.out _ hq).1 rfl
          have HYes : Hid (∀ j, j < i + 1 → kb j = true) := HY
          clear HY HKB HA hq
          go_wp2
          go_roundw
          case rel => exact ⟨i + 1, by omega, by go_num, hb5, HYes⟩
          case measure => simp [intOf]; omega
      · have HAll : Hid (∀ j, j < nk → kb j = true) := fun j hj => HA.out j (by omega)
        clear HA
        go_wp2
        go_ret
        exact ⟨true, rfl, ⟨fun _ => HAA.out.2 (by simpa using HAll.out), fun _ => rfl⟩, hbw⟩

end Go.Proofs.YtbjohedenfindaaGreatDoor

namespace Go.Proofs.YtbjohedenfindaaGreatDoor
open Go.RowKit
set_option linter.unusedVariables false
set_option maxRecDepth 100000

theorem node_iff {t : Re} (hz : SzN t) : NodeOk t ↔ (KidN t.kind t.kids.length ∧ TimesP t.kind t.mn t.mx ∧ canonFrom 0 t.set = true ∧ (t.kind = 1 ∨ t.set.length = 0)) := by
  constructor
  · intro h
    refine ⟨kidN_of h, ?_, (node_set h).1, ?_⟩
    · unfold TimesP
      rcases h with ⟨h1, _, h2, h3, _⟩ | ⟨h1, _, _, h2, h3, _⟩ | ⟨h1, _, _, h2, h3, _⟩ | ⟨h1, _, h2, h3, _⟩ | ⟨h1, _, h2, h3, h4, _⟩
      · exact .inl ⟨by omega, h2, h3⟩
      · exact .inl ⟨by omega, h2, h3⟩
      · exact .inl ⟨by omega, h2, h3⟩
      · exact .inl ⟨by omega, h2, h3⟩
      · exact .inr ⟨h1, h2, h3, h4⟩
    · rcases (node_set h).2 with h | ⟨_, h⟩
      · exact .inl h
      · exact .inr (by rw [h]; rfl)
  · rintro ⟨h1, h2, h3, h4⟩
    have hs0 : t.set.length = 0 → t.set = [] := List.eq_nil_of_length_eq_zero
    have hk0 : t.kids.length = 0 → t.kids = [] := List.eq_nil_of_length_eq_zero
    unfold KidN at h1
    unfold TimesP at h2
    obtain ⟨z1, z2⟩ := hz
    unfold NodeOk
    rcases h1 with ⟨a, b⟩ | ⟨a, b⟩ | ⟨a, b⟩ | ⟨a, b⟩ | ⟨a, b⟩ | ⟨a, b⟩
    · exact .inl ⟨a, hk0 (by omega), by omega, by omega, h3, z1⟩
    · exact .inr (.inl ⟨a, by omega, z2, by omega, by omega, hs0 (by omega)⟩)
    · exact .inr (.inr (.inl ⟨.inl a, by omega, z2, by omega, by omega, hs0 (by omega)⟩))
    · exact .inr (.inr (.inl ⟨.inr a, by omega, z2, by omega, by omega, hs0 (by omega)⟩))
    · exact .inr (.inr (.inr (.inl ⟨a, by omega, by omega, by omega, hs0 (by omega)⟩)))
    · refine .inr (.inr (.inr (.inr ⟨a, by omega, by omega, by omega, ?_, hs0 (by omega)⟩)))
      omega

/-- sizes, smaller ones -/
def SzS : Nat → Re → Prop
  | 0, _ => True
  | n + 1, t => (t.set.length ≤ 600000 ∧ t.kids.length ≤ 10000000) ∧ ∀ k, some k ∈ t.kids → SzS n k
theorem SzS.szT : ∀ (n : Nat) {t : Re}, SzS n t → SzT n t
  | 0, _, _ => trivial
  | n + 1, t, ⟨h1, h2⟩ => ⟨⟨by omega, h1.2⟩, fun k hk => SzS.szT n (h2 k hk)⟩

theorem shaped_x {mk : List Rg → Bool → List Rg} (M : MkOk mk) : ∀ (n : Nat), n ≤ 31 → ∀ (ok : Nat → Prop) (m : Nat) (w : World) (v : Value) (t : Re) (z : Int), z = 31 - (n : Int) → IsRe ok m w v t → SzS n t → Calls Tryz.prog 25 #[v, .int .i64 z] w fun e w' => BoolP (Shaped n t) w e w'
  | 0, _, ok, m, w, v, t, z, hz, hT, _ => by
    obtain ⟨b, rfl, _⟩ := (show Tree ok w v t from ⟨m, hT⟩).ptr
    exact (shaped_deepx z (by omega)).mono fun e w' ⟨h1, h2⟩ => ⟨false, h1, ⟨fun h => (by cases h), fun h => h.elim⟩, h2⟩
  | n + 1, hn, ok, 0, w, v, t, z, hz, hT, hs => hT.elim
  | n + 1, hn, ok, m + 1, w, v, t, z, hz, ⟨b, sv, kv, hv, _, hb, hset, hkids⟩, hs => by
    classical
    subst hv
    have hNode : NodeAt w b t sv kv := hb
    have hlt := (Array.getElem?_eq_some_iff.1 hb).1
    obtain ⟨ka, kc, rfl⟩ : ∃ a c, kv = .slice a t.kids.length c := by
      rcases hkids with ⟨h, a, c, rfl⟩ | ⟨g, off, c, rfl, _⟩
      · exact ⟨a, c, by rw [h]; rfl⟩
      · exact ⟨_, _, rfl⟩
    obtain ⟨sa, sc, rfl⟩ := rngs_slice hset.rngs
    obtain ⟨c0, c1, c2, c3, c4⟩ := hNode.cells
    obtain ⟨⟨z1, z2⟩, z3⟩ := hs
    obtain ⟨tb, htb, _⟩ := timesok_x hlt c0 c2 c3
    have hset' := hset.rngs
    refine shaped_rawx (ab := decide (KidN t.kind t.kids.length)) (tb := tb) (sb := decide (mk t.set false = t.set)) (kb := fun j => decide (KidOk n (t.kids.getD j none))) (nc := (mk t.set false).length) (S := fun _ _ _ => True)
      (C := fun w' ua uc => Rngs w' (.slice ua (mk t.set false).length uc) (mk t.set false)) z (by omega) (by omega) hlt (by omega) c0 c1 c4 (by omega) ?_ ?_ ?_ ?_ ?_ ?_
    · intro w'
      by_cases h : KidN t.kind t.kids.length
      · rw [decide_eq_true h]; exact kidsok_yes h w'
      · rw [decide_eq_false h]; exact kidsok_no h (by omega) w'
    · intro w' hbw
      obtain ⟨tb', htb', hC⟩ := timesok_x (Nat.lt_of_lt_of_le hlt hbw.size) ((hbw.cell (p := ⟨b, 0, none⟩) hlt).trans c0) ((hbw.cell (p := ⟨b, 2, none⟩) hlt).trans c2) ((hbw.cell (p := ⟨b, 3, none⟩) hlt).trans c3)
      have : tb' = tb := by rw [Bool.eq_iff_iff, htb', htb]
      rw [← this]; exact hC
    · intro w' hbw
      refine (rcanon_mk M _ t.set w' z1 (hset'.below hbw)).mono ?_
      rintro e w'' ⟨u, rfl, h1, h2⟩
      obtain ⟨ua, uc, rfl⟩ := rngs_slice h1.rngs
      exact ⟨ua, uc, rfl, h1.rngs, h2⟩
    · intro w' ua uc hbw hC
      have hl := (M t.set false).2.2
      by_cases h : mk t.set false = t.set
      · rw [decide_eq_true h]
        have hC2 : Rngs w' (.slice ua (mk t.set false).length uc) t.set := by rw [h] at hC ⊢; exact hC
        exact sameset_any _ _ t.set w' (by omega) hC2 (hset'.below hbw)
      · rw [decide_eq_false h]
        exact sameset_no _ _ _ _ w' (by omega) hC (hset'.below hbw) h
    · intro j hj
      rcases hkids with ⟨h, _⟩ | ⟨g, off, c, e, hg, _, hc⟩
      · rw [h] at hj; simp at hj
      · cases e
        obtain ⟨u, hu, hp⟩ := hc j hj
        have hmem := getD_memO t.kids j hj
        show ∃ g' off' p, some (⟨g, off, none⟩ : Addr) = some ⟨g', off', none⟩ ∧ g' < w.heap.size ∧ w.cell? ⟨g', off' + j, none⟩ = some (.pointer p) ∧ _
        cases ho : t.kids.getD j none with
        | none =>
          rw [ho] at hp
          have e : u = .pointer none := hp
          subst e
          refine ⟨g, off, none, rfl, hg, hu, fun w' hbw => (shaped_nil _).mono fun e w'' ⟨h1, h2⟩ => ⟨?_, h2⟩⟩
          rw [h1, decide_eq_false]
          rintro ⟨k, e, _⟩
          cases e
        | some k =>
          rw [ho] at hp hmem
          have hIs : IsRe ok m w u k := hp
          obtain ⟨ub, rfl, _⟩ := (show Tree ok w u k from ⟨m, hIs⟩).ptr
          refine ⟨g, off, some ⟨ub, 0, none⟩, rfl, hg, hu, fun wr hbw => ?_⟩
          have hIs' : IsRe ok m wr (.pointer (some ⟨ub, 0, none⟩)) k := hIs.moved hbw.size fun b hb hok => ⟨hok, hbw.block b hb⟩
          refine (shaped_x M n (by omega) ok m wr _ k (z + 1) (by omega) hIs' (z3 k hmem)).mono ?_
          rintro e w'' ⟨bb, rfl, h1, h2⟩
          refine ⟨?_, h2⟩
          have : bb = decide (KidOk n (some k)) := by
            rw [Bool.eq_iff_iff, h1, decide_eq_true_iff]
            exact ⟨fun h => ⟨k, rfl, h⟩, fun ⟨k', e, h⟩ => by cases e; exact h⟩
          rw [this]
    · show Shaped (n + 1) t ↔ _
      have hcan : (decide (mk t.set false = t.set) = true) ↔ canonFrom 0 t.set = true := by
        rw [decide_eq_true_iff]
        exact ⟨fun h => by rw [← h]; exact (M t.set false).2.1, fun h => M.self h⟩
      rw [hcan, htb, decide_eq_true_iff]
      have hall : (∀ o, o ∈ t.kids → ∃ k, o = some k ∧ Shaped n k) ↔ ∀ j, j < t.kids.length → decide (KidOk n (t.kids.getD j none)) = true := by
        constructor
        · intro h j hj
          rw [decide_eq_true_iff]
          exact h _ (getD_memO t.kids j hj)
        · intro h o ho
          obtain ⟨j, hj, e⟩ := List.getElem_of_mem ho
          have := h j hj
          rw [decide_eq_true_iff, List.getD_eq_getElem?_getD, List.getElem?_eq_getElem hj, Option.getD_some, e] at this
          exact this
      have h0 := node_iff (t := t) ⟨by omega, z2⟩
      constructor
      · rintro ⟨a, b⟩
        obtain ⟨q1, q2, q3, q4⟩ := h0.1 a
        exact ⟨q1, q2, q3, q4, hall.1 b⟩
      · rintro ⟨q1, q2, q3, q4, q5⟩
        exact ⟨h0.2 ⟨q1, q2, q3, q4⟩, hall.2 q5⟩

theorem sum_min : ∀ (l : List Tm) (f : Tm → Int), (∀ x ∈ l, f x = min (wT x : Int) 61) → (sumW l ≤ 60 → (l.map f).sum = (sumW l : Int)) ∧ (60 < sumW l → 60 < (l.map f).sum) ∧ 0 ≤ (l.map f).sum
  | [], f, _ => by simp [sumW]
  | a :: l, f, h => by
    obtain ⟨h1, h2, h3⟩ := sum_min l f fun x hx => h x (List.mem_cons_of_mem _ hx)
    have ha := h a (by simp)
    have e : sumW (a :: l) = wT a + sumW l := by unfold sumW; simp
    rw [e, List.map_cons, List.sum_cons, ha]
    have := wT_pos a
    refine ⟨fun hs => ?_, fun hs => ?_, by omega⟩
    · have := h1 (by omega); omega
    · by_cases hl : 60 < sumW l
      · have := h2 hl; omega
      · have := h1 (by omega); omega
theorem weigh_min : ∀ (n : Nat) (t : Tm), Shaped n (reOf t) → weighS n (reOf t) = min (wT t : Int) 61
  | 0, t, h => h.elim
  | n + 1, t, ⟨hN, hK⟩ => by
    have hkids : (reOf t).kids = (t.kids.map reOf).map some := by rw [reOf_eq]
    have hkind : (reOf t).kind = t.kind := by rw [reOf_eq]
    have hmn : (reOf t).mn = t.mn := by rw [reOf_eq]
    have hmx : (reOf t).mx = t.mx := by rw [reOf_eq]
    have hsum : kidSum n (reOf t).kids = (t.kids.map fun x => weighS n (reOf x)).sum := by
      unfold kidSum
      rw [hkids, List.map_map, List.map_map]; rfl
    obtain ⟨s1, s2, s3⟩ := sum_min t.kids (fun x => weighS n (reOf x)) fun x hx => weigh_min n x (by
      have hm : some (reOf x) ∈ (reOf t).kids := by rw [hkids]; exact List.mem_map_of_mem (List.mem_map_of_mem hx)
      obtain ⟨k, e, hk⟩ := hK _ hm
      cases e
      exact hk)
    have s3' : 0 ≤ (t.kids.map fun x => weighS n (reOf x)).sum := s3
    have s1' : sumW t.kids ≤ 60 → (t.kids.map fun x => weighS n (reOf x)).sum = (sumW t.kids : Int) := s1
    have s2' : 60 < sumW t.kids → 60 < (t.kids.map fun x => weighS n (reOf x)).sum := s2
    rw [weighS_eq, hsum, hkind, hmn, hmx]
    by_cases hk : t.kind = 1
    · have hnil : t.kids = [] := by
        have : (reOf t).kids = [] := by
          rcases hN with ⟨_, h, _⟩ | ⟨h, _⟩ | ⟨h, _⟩ | ⟨h, _⟩ | ⟨h, _⟩
          · exact h
          all_goals rw [hkind] at h; omega
        rw [hkids] at this
        simpa using this
      rw [hnil, wT_eq, if_pos hk]
      simp [hk]
    · have hlt := wT_sum hk
      by_cases hs : sumW t.kids ≤ 60
      · rw [s1' hs, if_neg (by omega)]
        rw [wT_eq, if_neg hk]
        have e : (t.kids.map wT).sum = sumW t.kids := rfl
        rw [e]
        by_cases h6 : t.kind = 6
        · rw [if_pos h6, if_pos h6]
          have e1 : ((max (max t.mn t.mx).toNat 1 : Nat) : Int) = max (max t.mn t.mx) 1 := by omega
          push_cast
          rw [e1]
          omega
        · rw [if_neg h6, if_neg h6]
          push_cast
          omega
      · rw [if_pos (s2' (by omega))]
        omega

set_option maxHeartbeats 2000000 in
theorem patok_walk {w : World} {p : Option Addr} {sb wb : Bool} (HS : Hid (Calls Tryz.prog 25 #[.pointer p, .int .i64 0] w fun e w' => e = .returned (.bool sb) ∧ Below w.heap.size w w'))
    (HW : Hid (sb = true → ∀ w', Below w.heap.size w w' → Calls Tryz.prog 26 #[.pointer p] w' fun e w'' => ∃ z : Int, e = .returned (.int .i64 z) ∧ decide (z ≤ 60) = wb ∧ Below w'.heap.size w' w'')) :
    Calls Tryz.prog 13 #[.pointer p] w fun e w' => e = .returned (.bool (sb && wb)) ∧ Below w.heap.size w w' := by
  go_enter Tryz.func13, Tryz.ntmps13
  go_wp2_with fail
  go_at_call 25
  refine HS.out.mono ?_
  rintro e w1 ⟨rfl, hb1⟩
  cases sb
  · go_wp2
    go_ret
    exact ⟨rfl, hb1⟩
  · have HW2 : Hid (∀ w', Below w.heap.size w w' → Calls Tryz.prog 26 #[.pointer p] w' fun e w'' => ∃ z : Int, e = .returned (.int .i64 z) ∧ decide (z ≤ 60) = wb ∧ Below w'.heap.size w' w'') := HW.out rfl
    clear HW
    go_wp2_with fail
    go_at_call 26
    refine (HW2.out w1 hb1).mono ?_
    rintro e w2 ⟨z, rfl, hz, hb2⟩
    have hb3 := hb1.trans (hb2.mono hb1.size)
    have HZ : Hid (decide (z ≤ 60) = wb) := hz
    clear hz
    go_wp2
    go_ret
    exact ⟨by rw [← HZ.out]; rfl, hb3⟩

/-- PatternOk, of any pattern -/
theorem patok_x {mk : List Rg → Bool → List Rg} (M : MkOk mk) {ok : Nat → Prop} {w : World} {v : Value} {t : Re} (hT : Tree ok w v t) (hz : SzS 31 t) : ∃ b : Bool, (b = true ↔ ValT t) ∧ ∀ w', Below w.heap.size w w' → Calls Tryz.prog 13 #[v] w' fun e w'' => e = .returned (.bool b) ∧ Below w'.heap.size w' w'' := by
  classical
  refine ⟨decide (Shaped 31 t) && decide (weighS 31 t ≤ 60), ?_, fun w' hb => ?_⟩
  · rw [Bool.and_eq_true, decide_eq_true_iff, decide_eq_true_iff]
    exact Iff.rfl
  · have hT' : Tree ok w' v t := hT.moved hb.size fun b hb' hok => ⟨hok, hb.block b hb'⟩
    obtain ⟨b, rfl, _⟩ := hT'.ptr
    refine patok_walk ?_ ?_
    · obtain ⟨m, hm⟩ := hT'
      refine (shaped_x M 31 (by omega) ok m w' _ t 0 (by omega) hm hz).mono ?_
      rintro e w'' ⟨bb, rfl, h1, h2⟩
      refine ⟨?_, h2⟩
      have : bb = decide (Shaped 31 t) := by rw [Bool.eq_iff_iff, h1, decide_eq_true_iff]
      rw [this]
    · intro hs w2 hb2
      have hs' : Shaped 31 t := by simpa using hs
      obtain ⟨tm, rfl, hO, hS, _⟩ := good_tm t (hs'.all 31)
      have hT2 : TT ok w2 (.pointer (some ⟨b, 0, none⟩)) tm := hT'.moved hb2.size fun b hb' hok => ⟨hok, hb2.block b hb'⟩
      refine (weight_any tm ok w2 _ hT2 hS).mono ?_
      rintro e w3 ⟨z, rfl, ⟨h1, h2, h3⟩, h4⟩
      refine ⟨z, rfl, ?_, h4⟩
      have hm := weigh_min 31 tm hs'
      rw [Bool.eq_iff_iff, decide_eq_true_iff, decide_eq_true_iff, hm]
      rcases h1 with h1 | h1 <;> omega
theorem patok_nil {w : World} : Calls Tryz.prog 13 #[.pointer none] w fun e w' => e = .returned (.bool false) ∧ Below w.heap.size w w' :=
  patok_walk (sb := false) (wb := false) (shaped_nil 0) fun h => by cases h

end Go.Proofs.YtbjohedenfindaaGreatDoor
