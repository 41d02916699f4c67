/- Texts of the proof, put together: VShp, VRef. -/
import Derived.Test.YtbjohedenfindaaGreatDoorPw28
import Derived.Test.YtbjohedenfindaaGreatDoorPw26
import Derived.Test.YtbjohedenfindaaGreatDoorPw27
namespace Go.Proofs.YtbjohedenfindaaGreatDoor
open Go.RowKit
set_option linter.unusedVariables false
set_option maxRecDepth 100000

/-- each node is as its kind asks, none is nil, so many levels at most -/
def Shaped : Nat → Re → Prop
  | 0, _ => False
  | n + 1, t => NodeOk t ∧ ∀ o, o ∈ t.kids → ∃ k, o = some k ∧ Shaped n k
def KidOk (n : Nat) (o : Option Re) : Prop := ∃ k, o = some k ∧ Shaped n k
/-- sizes -/
def SzT : Nat → Re → Prop
  | 0, _ => True
  | n + 1, t => SzN t ∧ ∀ k, some k ∈ t.kids → SzT n k
theorem Shaped.all : ∀ (n : Nat) {t : Re}, Shaped n t → ∀ m, AllOk m t
  | 0, _, h, _ => h.elim
  | n + 1, t, h, 0 => trivial
  | n + 1, t, ⟨h1, h2⟩, m + 1 => ⟨h1, fun o ho => by
    obtain ⟨k, e, hk⟩ := h2 o ho
    exact ⟨k, e, Shaped.all n hk m⟩⟩

set_option maxHeartbeats 1000000 in
theorem weigh_nil (wi : Int) (w : World) : Calls Tryz.prog 27 #[.pointer none, .int .i64 wi] w fun e w' => e = .returned (.int .i64 61) ∧ Below w.heap.size w w' := by
  go_enter Tryz.func27, Tryz.ntmps27
  go_wp2
  go_ret
  exact ⟨rfl, Below.refl _ _⟩

set_option maxHeartbeats 2000000 in
theorem weigh_not {w : World} {b n : Nat} (hn : n ≤ 30) (HWM : Hid (Calls Tryz.prog 53 #[.pointer (some ⟨b, 0, none⟩)] w fun e w' => e = .returned (.bool false) ∧ Below w.heap.size w w')) :
    Calls Tryz.prog 27 #[.pointer (some ⟨b, 0, none⟩), .int .i64 (30 - (n : Int))] w fun e w' => e = .returned (.int .i64 61) ∧ Below w.heap.size w w' := by
  have h30 : ¬ (30 : Int) < 30 - (n : Int) := by omega
  go_enter Tryz.func27, Tryz.ntmps27
  go_wp2_with fail
  refine HWM.out.mono ?_
  rintro e w1 ⟨rfl, hb1⟩
  go_wp2
  go_ret
  exact ⟨rfl, hb1⟩

set_option maxHeartbeats 4000000 in
theorem weigh_kids {w : World} {b n nk kc : Nat} {ka : Option Addr} {G : Nat → Prop} (hn : n ≤ 30) (hnk : nk ≤ 10000000) (hb : b < w.heap.size) (c4 : w.cell? ⟨b, 4, none⟩ = some (.slice ka nk kc)) (HWM : Hid (Calls Tryz.prog 53 #[.pointer (some ⟨b, 0, none⟩)] w fun e w' => e = .returned (.bool true) ∧ Below w.heap.size w w'))
    (HK : Hid (∀ j, j < nk → ∃ g off p, ka = some ⟨g, off, none⟩ ∧ g < w.heap.size ∧ w.cell? ⟨g, off + j, none⟩ = some (.pointer p) ∧ ∀ wr, Below w.heap.size w wr → Calls Tryz.prog 27 #[.pointer p, .int .i64 (30 - (n : Int) + 1)] wr fun e w' => ∃ z : Int, e = .returned (.int .i64 z) ∧ 1 ≤ z ∧ z ≤ 61 ∧ (¬ G j → z = 61) ∧ Below wr.heap.size wr w'))
    (HNo : Hid (¬ ∀ j, j < nk → G j)) :
    Calls Tryz.prog 27 #[.pointer (some ⟨b, 0, none⟩), .int .i64 (30 - (n : Int))] w fun e w' => e = .returned (.int .i64 61) ∧ Below w.heap.size w w' := by
  have h30 : ¬ (30 : Int) < 30 - (n : Int) := by omega
  go_enter Tryz.func27, Tryz.ntmps27
  go_wp2_with fail
  refine HWM.out.mono ?_
  rintro e w1 ⟨rfl, hb1⟩
  have d4 := (hb1.cell (p := ⟨b, 4, none⟩) hb).trans c4
  go_wp2
  go_loopw [5, 24] (fun sv kv wr => ∃ (k : Nat) (s : Int), k ≤ nk ∧ kv = .int .i64 k ∧ sv = .int .i64 s ∧ 0 ≤ s ∧ s ≤ 60 ∧ Hid (∀ j, j < k → G j) ∧ Below w.heap.size w wr) (fun _ kv _ => nk - (intOf kv).toNat)
  case atStart => exact ⟨0, 0, Nat.zero_le _, rfl, rfl, by omega, by omega, fun j hj => by omega, hb1⟩
  case round =>
    obtain ⟨k, s, hk, rfl, rfl, hs0, hs60, HG, hbw⟩ := hrel
    clear d4
    by_cases hlt : k < nk
    · obtain ⟨g, off, p, rfl, hg, hu, hC⟩ := HK.out k hlt
      have hu' := (hbw.cell (p := ⟨g, off + k, none⟩) hg).trans hu
      have HC : Hid (Calls Tryz.prog 27 #[.pointer p, .int .i64 (30 - (n : Int) + 1)] wr fun e w' => ∃ z : Int, e = .returned (.int .i64 z) ∧ 1 ≤ z ∧ z ≤ 61 ∧ (¬ G k → z = 61) ∧ Below wr.heap.size wr w') := hC wr hbw
      clear hC hu
      go_wp2_with fail
      go_at_call 27
      refine HC.out.mono ?_
      rintro e w2 ⟨z, rfl, hz1, hz2, hz3, hb2⟩
      have hbw2 := hbw.trans (hb2.mono hbw.size)
      by_cases hbig : 60 < s + z
      · clear hz3
        go_wp2
        go_ret
        exact ⟨rfl, hbw2⟩
      · have HG2 : Hid (∀ j, j < k + 1 → G j) := fun j hj => by
          by_cases e : j = k
          · subst e
            by_cases hg : G j
            · exact hg
            · have := hz3 hg; omega
          · exact HG.out j (by omega)
        clear hz3
        go_wp2
        go_roundw
        case rel => exact ⟨k + 1, s + z, by omega, by go_num, rfl, by omega, by omega, HG2, hbw2⟩
        case measure => simp [intOf]; omega
    · exact (HNo.out fun j hj => HG.out j (by omega)).elim

theorem node_kids {t : Re} (h : NodeOk t) : t.kids.length ≤ 10000000 := by
  rcases h with ⟨_, h, _⟩ | ⟨_, _, h, _⟩ | ⟨_, _, h, _⟩ | ⟨_, h, _⟩ | ⟨_, h, _⟩
  · rw [h]; simp
  · exact h
  · exact h
  · omega
  · omega
theorem getD_memO (l : List (Option Re)) (j : Nat) (h : j < l.length) : l.getD j none ∈ l := by
  rw [List.getD_eq_getElem?_getD, List.getElem?_eq_getElem h]; exact List.getElem_mem h

/-- what is not shaped weighs 61 -/
theorem weigh_bad : ∀ (n : Nat), n ≤ 31 → ∀ (ok : Nat → Prop) (m : Nat) (w : World) (v : Value) (t : Re) (wi : Int), wi = 31 - (n : Int) → IsRe ok m w v t → SzT n t → ¬ Shaped n t → Calls Tryz.prog 27 #[v, .int .i64 wi] w fun e w' => e = .returned (.int .i64 61) ∧ Below w.heap.size w w'
  | 0, _, ok, m, w, v, t, wi, hwi, hT, _, _ => weigh_zero ok m w v t wi hwi hT trivial
  | n + 1, hn, ok, 0, w, v, t, wi, hwi, hT, hz, hs => hT.elim
  | n + 1, hn, ok, m + 1, w, v, t, wi, hwi, ⟨b, sv, kv, hv, _, hb, hset, hkids⟩, hz, hs => by
    subst hv
    have hwi' : wi = 30 - (n : Int) := by omega
    subst hwi'
    have hNode : NodeAt w b t sv kv := hb
    have hlt := (Array.getElem?_eq_some_iff.1 hb).1
    obtain ⟨ka, kc, rfl⟩ : ∃ a c, kv = .slice a t.kids.length c := by
      rcases hkids with ⟨h, a, c, rfl⟩ | ⟨g, off, c, rfl, _⟩
      · exact ⟨a, c, by rw [h]; rfl⟩
      · exact ⟨_, _, rfl⟩
    by_cases hok : NodeOk t
    · have hno : ¬ ∀ j, j < t.kids.length → KidOk n (t.kids.getD j none) := fun h => by
        refine hs ⟨hok, fun o ho => ?_⟩
        obtain ⟨j, hj, e⟩ := List.getElem_of_mem ho
        have := h j hj
        rw [List.getD_eq_getElem?_getD, List.getElem?_eq_getElem hj, Option.getD_some, e] at this
        exact this
      refine weigh_kids (by omega) (node_kids hok) hlt hNode.cells.2.2.2.2 (wellMade_any hNode hset.rngs hok) ?_ hno
      intro j hj
      rcases hkids with ⟨h, _⟩ | ⟨g, off, c, e, hg, _, hc⟩
      · rw [h] at hj; simp at hj
      · cases e
        obtain ⟨u, hu, hp⟩ := hc j hj
        have hmem := getD_memO t.kids j hj
        cases ho : t.kids.getD j none with
        | none =>
          rw [ho] at hp
          have e : u = .pointer none := hp
          subst e
          exact ⟨g, off, none, rfl, hg, hu, fun wr hbw => (weigh_nil _ wr).mono fun e w' ⟨h1, h2⟩ => ⟨61, h1, by omega, by omega, fun _ => rfl, h2⟩⟩
        | some k =>
          rw [ho] at hp hmem
          have hIs : IsRe ok m w u k := hp
          obtain ⟨ub, rfl, _⟩ := (show Tree ok w u k from ⟨m, hIs⟩).ptr
          refine ⟨g, off, some ⟨ub, 0, none⟩, rfl, hg, hu, fun wr hbw => ?_⟩
          have hIs' : IsRe ok m wr (.pointer (some ⟨ub, 0, none⟩)) k := hIs.moved hbw.size fun b hb hok => ⟨hok, hbw.block b hb⟩
          by_cases hk : Shaped n k
          · refine (weigh_all n (by omega) ok m wr _ k _ (by omega) hIs' (hk.all n n)).mono fun e w' ⟨h1, h2⟩ => ⟨_, h1, (weighS_bd n k).1, (weighS_bd n k).2, fun h => ?_, h2⟩
            exact (h ⟨k, rfl, hk⟩).elim
          · exact (weigh_bad n (by omega) ok m wr _ k _ (by omega) hIs' (hz.2 k hmem) hk).mono fun e w' ⟨h1, h2⟩ => ⟨61, h1, by omega, by omega, fun _ => rfl, h2⟩
    · exact weigh_not (by omega) (wellMade_no hz.1 hNode hset.rngs hok)

set_option maxHeartbeats 1000000 in
theorem pok_no {w : World} {p : Option Addr} (HC : Hid (Calls Tryz.prog 27 #[.pointer p, .int .i64 0] w fun e w' => e = .returned (.int .i64 61) ∧ Below w.heap.size w w')) :
    Calls Tryz.prog 14 #[.pointer p] w fun e w' => e = .returned (.bool false) ∧ Below w.heap.size w w' := by
  go_enter Tryz.func14, Tryz.ntmps14
  go_wp2_with fail
  refine HC.out.mono ?_
  rintro e w1 ⟨rfl, hb⟩
  go_wp2
  go_ret
  exact ⟨rfl, hb⟩

/-- valid -/
def ValT (t : Re) : Prop := Shaped 31 t ∧ weighS 31 t ≤ 60
/-- Ok, of any pattern -/
theorem pok_x {ok : Nat → Prop} {w : World} {v : Value} {t : Re} (hT : Tree ok w v t) (hz : SzT 31 t) : ∃ b : Bool, (b = true ↔ ValT t) ∧ Calls Tryz.prog 14 #[v] w fun e w' => e = .returned (.bool b) ∧ Below w.heap.size w w' := by
  by_cases hs : Shaped 31 t
  · refine ⟨decide (weighS 31 t ≤ 60), ?_, pok_any hT (hs.all 31 31)⟩
    rw [decide_eq_true_iff]
    exact ⟨fun h => ⟨hs, h⟩, fun h => h.2⟩
  · refine ⟨false, ⟨fun h => (by cases h), fun h => (hs h.1).elim⟩, ?_⟩
    obtain ⟨m, hm⟩ := hT
    obtain ⟨b, rfl, _⟩ := (show Tree ok w v t from ⟨m, hm⟩).ptr
    exact pok_no (weigh_bad 31 (by omega) ok m w _ t 0 (by omega) hm hz hs)
theorem pok_nil (w : World) : Calls Tryz.prog 14 #[.pointer none] w fun e w' => e = .returned (.bool false) ∧ Below w.heap.size w w' := pok_no (weigh_nil 0 w)

end Go.Proofs.YtbjohedenfindaaGreatDoor

namespace Go.Proofs.YtbjohedenfindaaGreatDoor
open Go.RowKit
set_option linter.unusedVariables false
set_option maxRecDepth 100000

set_option maxHeartbeats 400000 in
theorem sameset_len (a a' : Option Addr) (n n' c c' : Nat) (w : World) (h : ((n : Int) != (n' : Int)) = true) :
    Calls Tryz.prog 24 #[.slice a n c, .slice a' n' c'] w fun e w' => e = .returned (.bool false) ∧ ∃ n, w' = w.drewN n := by
  go_enter Tryz.func24, Tryz.ntmps24
  go_wp2
  go_ret
  exact ⟨rfl, 0, rfl⟩

set_option maxHeartbeats 2000000 in
theorem sameset_rowsx (b off c b' off' c' n : Nat) (l l' : List Rg) (w : World) (hz : n ≤ 1000000) (hc : ∀ j, j < n → w.cell? ⟨b, off + j * 2, none⟩ = some (.int .i64 (l.getD j (0, 0)).1) ∧ w.cell? ⟨b, off + j * 2 + 1, none⟩ = some (.int .i64 (l.getD j (0, 0)).2))
    (hc' : ∀ j, j < n → w.cell? ⟨b', off' + j * 2, none⟩ = some (.int .i64 (l'.getD j (0, 0)).1) ∧ w.cell? ⟨b', off' + j * 2 + 1, none⟩ = some (.int .i64 (l'.getD j (0, 0)).2)) (hne : ¬ ∀ j, j < n → l.getD j (0, 0) = l'.getD j (0, 0)) :
    Calls Tryz.prog 24 #[.slice (some ⟨b, off, none⟩) n c, .slice (some ⟨b', off', none⟩) n c'] w fun e w' => e = .returned (.bool false) ∧ ∃ n, w' = w.drewN n := by
  have HNE : Hid (¬ ∀ j, j < n → l.getD j (0, 0) = l'.getD j (0, 0)) := hne
  clear hne
  go_enter Tryz.func24, Tryz.ntmps24
  go_wp2
  go_loopw [5] (fun i wr => ∃ k nq : Nat, k ≤ n ∧ i = .int .i64 k ∧ wr = w.drewN nq ∧ Hid (∀ j, j < k → l.getD j (0, 0) = l'.getD j (0, 0))) (fun i _ => n - (intOf i).toNat)
  case atStart => exact ⟨0, 0, Nat.zero_le _, rfl, rfl, fun j hj => by omega⟩
  case round =>
    obtain ⟨k, nq, hk, rfl, rfl, HA⟩ := hrel
    by_cases hlt : k < n
    · obtain ⟨h1, h2⟩ := hc k hlt
      obtain ⟨h3, h4⟩ := hc' k hlt
      clear hc hc'
      by_cases hr : l.getD k (0, 0) = l'.getD k (0, 0)
      · have HA2 : Hid (∀ j, j < k + 1 → l.getD j (0, 0) = l'.getD j (0, 0)) := fun j hj => by
          by_cases e : j = k
          · subst e; exact hr
          · exact HA.out j (by omega)
        rw [← hr] at h3 h4
        clear hr
        generalize l.getD k (0, 0) = r at h1 h2 h3 h4
        go_wp2
        go_quiet (fail)
        go_wp2
        go_roundw
        case rel => exact ⟨k + 1, _, by omega, by go_num, rfl, HA2⟩
        case measure => simp [intOf]; omega
      · have hcs : ((l.getD k (0, 0)).1 == (l'.getD k (0, 0)).1) = false ∨ ((l.getD k (0, 0)).1 = (l'.getD k (0, 0)).1 ∧ ((l.getD k (0, 0)).2 == (l'.getD k (0, 0)).2) = false) := by
          by_cases e : (l.getD k (0, 0)).1 = (l'.getD k (0, 0)).1
          · refine .inr ⟨e, ?_⟩
            rw [beq_eq_false_iff_ne]
            intro e2
            exact hr (Prod.ext e e2)
          · exact .inl (by rw [beq_eq_false_iff_ne]; exact e)
        clear hr HA HNE
        generalize (l.getD k (0, 0)).1 = r1 at *
        generalize (l.getD k (0, 0)).2 = r2 at *
        generalize (l'.getD k (0, 0)).1 = q1 at *
        generalize (l'.getD k (0, 0)).2 = q2 at *
        rcases hcs with g | ⟨rfl, g⟩
        all_goals
          go_wp2
          go_quiet (fail)
          go_wp2
          go_ret
          exact ⟨rfl, _, by rw [World.drewN_drewN]⟩
    · exact (HNE.out fun j hj => HA.out j (by omega)).elim

theorem sameset_no (v v' : Value) (l l' : List Rg) (w : World) (hz : l.length ≤ 1000000) (hv : Rngs w v l) (hv' : Rngs w v' l') (hne : l ≠ l') :
    Calls Tryz.prog 24 #[v, v'] w fun e w' => e = .returned (.bool false) ∧ ∃ n, w' = w.drewN n := by
  obtain ⟨a, c, rfl⟩ := rngs_slice hv
  obtain ⟨a', c', rfl⟩ := rngs_slice hv'
  by_cases hl : l.length = l'.length
  · rcases hv with ⟨h, _⟩ | ⟨b, off, c1, e1, hb, hc⟩
    · rw [h] at hl
      have : l' = [] := List.eq_nil_of_length_eq_zero hl.symm
      exact (hne (by rw [h, this])).elim
    · rcases hv' with ⟨h, _⟩ | ⟨b', off', c1', e1', hb', hc'⟩
      · rw [h] at hl
        have : l = [] := List.eq_nil_of_length_eq_zero hl
        exact (hne (by rw [h, this])).elim
      · cases e1
        cases e1'
        rw [← hl]
        refine sameset_rowsx b off c b' off' c' l.length l l' w hz hc (fun j hj => hc' j (by omega)) fun h => hne ?_
        refine List.ext_getElem hl fun j h1 h2 => ?_
        have := h j h1
        simpa [h1, h2] using this
  · exact sameset_len a a' _ _ c c' w (by rw [bne_iff_ne]; omega)

set_option maxHeartbeats 2000000 in
theorem kidsok_no {k n : Int} (h : ¬ KidN k n) (hn : 0 ≤ n) (w : World) : Calls Tryz.prog 49 #[.int .i64 k, .int .i64 n] w fun e w' => e = .returned (.bool false) ∧ w' = w := by
  have hcs : (k = 1 ∧ (n == 0) = false) ∨ (k = 2 ∧ n = 1) ∨ (k = 3 ∧ ¬ 1 < n) ∨ (k = 4 ∧ ¬ 1 < n) ∨ (k = 5 ∧ (n == 1) = false) ∨ (k = 6 ∧ (n == 1) = false) ∨ ((k == 1) = false ∧ (k == 2) = false ∧ (k == 3) = false ∧ (k == 4) = false ∧ (k == 5) = false ∧ (k == 6) = false) := by
    simp only [beq_eq_false_iff_ne, ne_eq]
    unfold KidN at h
    omega
  clear h
  rcases hcs with ⟨rfl, h⟩ | ⟨rfl, rfl⟩ | ⟨rfl, h⟩ | ⟨rfl, h⟩ | ⟨rfl, h⟩ | ⟨rfl, h⟩ | ⟨h1, h2, h3, h4, h5, h6⟩
  all_goals
    go_enter Tryz.func49, Tryz.ntmps49
    go_wp2
    go_ret
    exact ⟨by first | rfl | simp_all, rfl⟩

/-- the counts as the kind asks -/
def TimesP (kind mn mx : Int) : Prop := (kind ≠ 6 ∧ mn = 0 ∧ mx = 0) ∨ (kind = 6 ∧ 0 ≤ mn ∧ mn ≤ 50 ∧ (mx = -1 ∨ (mn ≤ mx ∧ 1 ≤ mx ∧ mx ≤ 50)))
set_option maxHeartbeats 4000000 in
theorem timesok_x {w : World} {b : Nat} {k mn mx : Int} (hb : b < w.heap.size) (c0 : w.cell? ⟨b, 0, none⟩ = some (.int .i64 k)) (c2 : w.cell? ⟨b, 2, none⟩ = some (.int .i64 mn)) (c3 : w.cell? ⟨b, 3, none⟩ = some (.int .i64 mx)) :
    ∃ bb : Bool, (bb = true ↔ TimesP k mn mx) ∧ Calls Tryz.prog 50 #[.pointer (some ⟨b, 0, none⟩)] w fun e w' => e = .returned (.bool bb) ∧ Below w.heap.size w w' := by
  unfold TimesP
  by_cases hk : k = 6
  · subst hk
    by_cases h1 : mn < 0
    · refine ⟨false, ⟨fun h => (by cases h), fun h => by omega⟩, ?_⟩
      go_enter Tryz.func50, Tryz.ntmps50
      go_wp2
      go_ret
      exact ⟨rfl, Below.refl _ _⟩
    · by_cases h2 : mn > 50
      · refine ⟨false, ⟨fun h => (by cases h), fun h => by omega⟩, ?_⟩
        go_enter Tryz.func50, Tryz.ntmps50
        go_wp2
        go_ret
        exact ⟨rfl, Below.refl _ _⟩
      · by_cases a0 : mx = -1
        · subst a0
          refine ⟨true, ⟨fun _ => .inr ⟨rfl, by omega, by omega, .inl rfl⟩, fun _ => rfl⟩, ?_⟩
          go_enter Tryz.func50, Tryz.ntmps50
          go_wp2
          go_quiet (fail)
          go_wp2
          go_ret
          exact ⟨rfl, below_drewU (Below.refl _ _) nq⟩
        · have a1 : (mx == -1) = false := by rw [beq_eq_false_iff_ne]; exact a0
          by_cases a2 : mx ≥ mn
          · have d2 : decide (mx ≥ mn) = true := by simp; omega
            by_cases a3 : mx ≥ 1
            · have d3 : decide (mx ≥ 1) = true := by simp; omega
              refine ⟨decide (mx ≤ 50), ⟨fun h => .inr ⟨rfl, by omega, by omega, .inr ⟨by omega, by omega, by simpa using h⟩⟩, fun h => by simp; omega⟩, ?_⟩
              clear a0 a2 a3
              go_enter Tryz.func50, Tryz.ntmps50
              go_wp2
              go_quiet (fail)
              go_wp2
              go_ret
              exact ⟨rfl, below_drewU (Below.refl _ _) nq⟩
            · have d3 : decide (mx ≥ 1) = false := by simp; omega
              refine ⟨false, ⟨fun h => (by cases h), fun h => by omega⟩, ?_⟩
              clear a0 a2 a3
              go_enter Tryz.func50, Tryz.ntmps50
              go_wp2
              go_quiet (fail)
              go_wp2
              go_ret
              exact ⟨rfl, below_drewU (Below.refl _ _) nq⟩
          · have d2 : decide (mx ≥ mn) = false := by simp; omega
            refine ⟨false, ⟨fun h => (by cases h), fun h => by omega⟩, ?_⟩
            clear a0 a2
            go_enter Tryz.func50, Tryz.ntmps50
            go_wp2
            go_quiet (fail)
            go_wp2
            go_ret
            exact ⟨rfl, below_drewU (Below.refl _ _) nq⟩
  · have hq : (k != 6) = true := by rw [bne_iff_ne]; exact hk
    by_cases h0 : mn = 0
    · subst h0
      refine ⟨mx == 0, ⟨fun h => .inl ⟨hk, rfl, by simpa using h⟩, fun h => by simp; omega⟩, ?_⟩
      clear hk
      go_enter Tryz.func50, Tryz.ntmps50
      go_wp2
      go_ret
      exact ⟨rfl, Below.refl _ _⟩
    · have hq2 : (mn == 0) = false := by rw [beq_eq_false_iff_ne]; exact h0
      refine ⟨false, ⟨fun h => (by cases h), fun h => by omega⟩, ?_⟩
      clear hk h0
      go_enter Tryz.func50, Tryz.ntmps50
      go_wp2
      go_ret
      exact ⟨rfl, Below.refl _ _⟩

end Go.Proofs.YtbjohedenfindaaGreatDoor
