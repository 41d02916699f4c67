/- Texts of the proof, put together: PRead, PatG. -/
import Derived.Test.YtbjohedenfindaaGreatDoorPb23
import Derived.Test.YtbjohedenfindaaGreatDoorPb24
namespace Go.Proofs.YtbjohedenfindaaGreatDoor
open Go.RowKit
set_option linter.unusedVariables false
set_option maxRecDepth 100000

theorem weigh_all : ∀ n, n ≤ 31 → WeighC n
  | 0, _ => weigh_zero
  | n + 1, hn => by
    intro ok m w v t wi hwi hT hall
    cases m with
    | zero => exact hT.elim
    | succ m =>
      obtain ⟨b, sv, kv, rfl, hb, hN, hset, hkids⟩ := hT
      have e : wi = 30 - (n : Int) := by omega
      subst e
      exact weigh_node n (by omega) (weigh_all n (by omega)) hN hset.rngs hkids hall.1 hall.2

set_option maxHeartbeats 1000000 in
theorem pok_any {ok : Nat → Prop} {w : World} {v : Value} {t : Re} (hT : Tree ok w v t) (hall : AllOk 31 t) :
    Calls Tryz.prog 14 #[v] w fun e w' => e = .returned (.bool (decide (weighS 31 t ≤ 60))) ∧ Below w.heap.size w w' := by
  obtain ⟨m, hm⟩ := hT
  have HC : Hid (Calls Tryz.prog 27 #[v, .int .i64 0] w fun e w' => e = .returned (.int .i64 (weighS 31 t)) ∧ Below w.heap.size w w') := weigh_all 31 (by omega) ok m w v t 0 (by omega) hm hall
  obtain ⟨b, rfl, _⟩ := (show Tree ok w v t from ⟨m, hm⟩).ptr
  generalize weighS 31 t = y at *
  clear hm hall
  by_cases h : y ≤ 60
  · have hd : decide (y ≤ 60) = true := by simp [h]
    rw [hd]
    clear hd
    go_enter Tryz.func14, Tryz.ntmps14
    go_wp2_with fail
    refine HC.out.mono ?_
    rintro e w1 ⟨rfl, hb⟩
    go_wp2
    go_ret
    exact ⟨by simp, hb⟩
  · have hd : decide (y ≤ 60) = false := by simp; omega
    rw [hd]
    go_enter Tryz.func14, Tryz.ntmps14
    go_wp2_with fail
    refine HC.out.mono ?_
    rintro e w1 ⟨rfl, hb⟩
    go_wp2
    go_ret
    exact ⟨by simp, hb⟩

/-- the pattern of a text, if it has one that is not too heavy -/
def readS (s : ByteArray) (mk : List Rg → Bool → List Rg) : Option Re :=
  match wholeS s mk with
  | none => none
  | some t => if weighS 31 t ≤ 60 then some t else none

set_option maxHeartbeats 2000000 in
theorem readWhole_any {W0 w : World} (L : LibC W0) (hE : Env W0 w) {mk : List Rg → Bool → List Rg} (C : SetC mk) {s : ByteArray} (hsz : s.size ≤ 60000) (hgood : ∀ t, wholeS s mk = some t → AllOk 31 t) :
    Calls Tryz.prog 20 #[.string s] w fun e w' => Below w.heap.size w w' ∧ ((readS s mk = none ∧ Thrown e) ∨ ∃ t v, readS s mk = some t ∧ e = .returned v ∧ Tree (fun b => w.heap.size ≤ b) w' v t) := by
  have hbig : ¬ (65536 : Int) < (s.size : Int) := by omega
  have HG : Hid (∀ t, wholeS s mk = some t → AllOk 31 t) := hgood
  have HR : Hid (readS s mk = match wholeS s mk with
    | none => none
    | some t => if weighS 31 t ≤ 60 then some t else none) := rfl
  have HW : Hid (wholeS s mk = match patS s (fun j => unitS s mk 100 j) 0 with
    | none => none
    | some (p, j) => if cpAt s j = -1 then some p else none) := rfl
  generalize readS s mk = res at *
  generalize wholeS s mk = wh at *
  clear hgood
  go_enter Tryz.func20, Tryz.ntmps20
  go_wp2_with fail
  refine (escapes_any w).mono ?_
  rintro e w1 ⟨rfl, hEsc, hb1⟩
  have hE1 : Env W0 w1 := ⟨Nat.le_trans hE.1 hb1.size, fun k hk => (hb1.block k (Nat.lt_of_lt_of_le hk hE.1)).trans (hE.2 k hk)⟩
  have hM : w.heap.size < w1.heap.size := by
    obtain ⟨n, D, _, ⟨es, cl, h, _⟩, _⟩ := hEsc
    exact (Array.getElem?_eq_some_iff.1 h).1
  have h16 := hE.1
  have hS2 : St W0 (w1.alloc (.cells #[.string s, .int .i64 0, .int .i64 0, .map (some w.heap.size)] 91)) w1.heap.size s 0 0 w.heap.size :=
    ⟨hE1.grown (R := w1.heap.size) (World.grownBy_alloc w1 _ _) (by omega), heap_alloc_new w1 _, hEsc.grown (R := w1.heap.size) (World.grownBy_alloc w1 _ _) (by omega), by omega, by omega, by omega, by omega⟩
  have hb2 : Below w.heap.size w (w1.alloc (.cells #[.string s, .int .i64 0, .int .i64 0, .map (some w.heap.size)] 91)) := hb1.alloc hb1.size _
  have hU := unit_any L C hsz w.heap.size w1.heap.size 100 (by omega)
  have HP : Hid (Calls Tryz.prog 42 #[.pointer (some ⟨w1.heap.size, 0, none⟩)] (w1.alloc (.cells #[.string s, .int .i64 0, .int .i64 0, .map (some w.heap.size)] 91)) (Got W0 (w1.alloc (.cells #[.string s, .int .i64 0, .int .i64 0, .map (some w.heap.size)] 91)) w1.heap.size s 0 w.heap.size (patS s (fun j => unitS s mk 100 j) 0) (TreeV (w1.alloc (.cells #[.string s, .int .i64 0, .int .i64 0, .map (some w.heap.size)] 91)).heap.size))) := ppattern_any L hU (unitS_goes 100) hS2
  generalize patS s (fun j => unitS s mk 100 j) 0 = pr at *
  clear hU hS2 hEsc
  go_wp2_with fail
  refine HP.out.mono ?_
  intro e w3 hG
  obtain ⟨hg3, ⟨hx, f, rfl⟩ | ⟨⟨t, j⟩, v, hx, rfl, hv, hS3⟩⟩ := hG.both
  · have hb3 : Below w.heap.size w w3 := hb2.grown hg3 (by have := hb1.size; simp; omega) (fun k hk => by cases hk; omega)
    refine ⟨rfl, hb3, Or.inl ⟨?_, f, rfl⟩⟩
    have : wh = none := by rw [HW.out, hx]
    rw [HR.out, this]
  · have hb3 : Below w.heap.size w w3 := hb2.grown hg3 (by have := hb1.size; simp; omega) (fun k hk => by cases hk; omega)
    have hv' : Tree (fun b => (w1.alloc (.cells #[.string s, .int .i64 0, .int .i64 0, .map (some w.heap.size)] 91)).heap.size ≤ b) w3 v t := hv
    have hT3 : Tree (fun b => w1.heap.size + 1 ≤ b) w3 v t := hv'.imp fun b _ hb => by simpa using hb
    obtain ⟨vb, rfl, _⟩ := hT3.ptr
    have HT3 : Hid (Tree (fun b => w1.heap.size + 1 ≤ b) w3 (.pointer (some ⟨vb, 0, none⟩)) t) := hT3
    have HS3 : Hid (St W0 w3 w1.heap.size s j 0 w.heap.size) := hS3
    have HX : Hid (wh = if cpAt s j = -1 then some t else none) := by show _ = _; rw [HW.out, hx]
    clear hx hG hv hv' hT3 hS3 HW HP
    by_cases hend : cpAt s j = -1
    · have HX2 : Hid (wh = some t) := by show _ = _; rw [HX.out, if_pos hend]
      have HWt : Hid (Calls Tryz.prog 43 #[.pointer (some ⟨w1.heap.size, 0, none⟩), .int .i32 (-1)] w3 fun e w' => e = .returned (.tuple #[]) ∧ w3.grownBy w' (some w1.heap.size) ∧ St W0 w' w1.heap.size s (j + szAt s j) 0 w.heap.size) := want_yes L HS3.out (-1) hend
      clear hend HX
      go_wp2_with fail
      refine HWt.out.mono ?_
      rintro e w4 ⟨rfl, hg4, hS4⟩
      have hb4 : Below w.heap.size w w4 := hb3.grown hg4 (by have := hb3.size; omega) (fun k hk => by cases hk; omega)
      have hT4 : Tree (fun b => w1.heap.size + 1 ≤ b) w4 (.pointer (some ⟨vb, 0, none⟩)) t := HT3.out.grown hg4 fun b hb e => by have := Option.some.inj e; omega
      have hE4 := hS4.env
      have HOk : Hid (Calls Tryz.prog 14 #[.pointer (some ⟨vb, 0, none⟩)] w4 fun e w' => e = .returned (.bool (decide (weighS 31 t ≤ 60))) ∧ Below w4.heap.size w4 w') := pok_any hT4 (HG.out t HX2.out)
      have HT4 : Hid (Tree (fun b => w1.heap.size + 1 ≤ b) w4 (.pointer (some ⟨vb, 0, none⟩)) t) := hT4
      have HRes : Hid (res = if weighS 31 t ≤ 60 then some t else none) := by show _ = _; rw [HR.out, HX2.out]
      generalize weighS 31 t = y at *
      clear hS4 hT4 HR HX2 HG
      by_cases hy : y ≤ 60
      · have hd : decide (y ≤ 60) = true := by simp [hy]
        rw [hd] at HOk
        clear hd
        go_wp2_with fail
        refine HOk.out.mono ?_
        rintro e w5 ⟨rfl, hb5⟩
        have hb05 := hb4.trans (hb5.mono hb4.size)
        have HT5 : Hid (Tree (fun b => w.heap.size ≤ b) w5 (.pointer (some ⟨vb, 0, none⟩)) t) := (HT4.out.moved hb5.size fun b hb hok => ⟨hok, hb5.block b hb⟩).imp fun b _ hb => by omega
        go_wp2
        go_ret
        exact ⟨hb05, Or.inr ⟨t, _, by rw [HRes.out, if_pos hy], rfl, HT5.out⟩⟩
      · have hd : decide (y ≤ 60) = false := by simp; omega
        rw [hd] at HOk
        clear hd
        go_wp2_with fail
        refine HOk.out.mono ?_
        rintro e w5 ⟨rfl, hb5⟩
        have hb05 := hb4.trans (hb5.mono hb4.size)
        have hE5 : Env W0 w5 := ⟨Nat.le_trans hE4.1 hb5.size, fun k hk => (hb5.block k (Nat.lt_of_lt_of_le hk hE4.1)).trans (hE4.2 k hk)⟩
        obtain ⟨te, pe, d⟩ := L.bndAt hE5
        go_wp2_with fail
        refine (throw_any _ _ _ _).mono ?_
        rintro e w6 ⟨⟨f, rfl⟩, hg6⟩
        refine ⟨rfl, hb05.grown (hg6 none) hb05.size (by simp), Or.inl ⟨by rw [HRes.out, if_neg (by omega)], f, rfl⟩⟩
    · have HX2 : Hid (wh = none) := by show _ = _; rw [HX.out, if_neg hend]
      have HWt : Hid (Calls Tryz.prog 43 #[.pointer (some ⟨w1.heap.size, 0, none⟩), .int .i32 (-1)] w3 fun e w' => Thrown e ∧ w3.grownBy w' (some w1.heap.size)) := want_no L HS3.out (-1) hend
      clear hend HX
      go_wp2_with fail
      refine HWt.out.mono ?_
      rintro e w4 ⟨⟨f, rfl⟩, hg4⟩
      refine ⟨rfl, hb3.grown hg4 (by have := hb3.size; omega) (fun k hk => by cases hk; omega), Or.inl ⟨?_, f, rfl⟩⟩
      rw [HR.out, HX2.out]

end Go.Proofs.YtbjohedenfindaaGreatDoor

namespace Go.Proofs.YtbjohedenfindaaGreatDoor
set_option linter.unusedVariables false

def GoodT (t : Re) : Prop := ∀ n, AllOk n t
theorem good_set {l : List Rg} (h : canonFrom 0 l = true) (hl : l.length ≤ 10000000) : GoodT (setRe l)
  | 0 => trivial
  | n + 1 => ⟨Or.inl ⟨rfl, rfl, rfl, rfl, h, hl⟩, fun o ho => by simp [setRe] at ho⟩
theorem good_point {p : Int} (h0 : 0 ≤ p) (h1 : p ≤ 1114111) : GoodT (setRe [(p, p)]) := by
  refine good_set ?_ (by simp)
  simp [canonFrom]; omega
theorem good_not {t : Re} (h : GoodT t) : GoodT (notRe t)
  | 0 => trivial
  | n + 1 => ⟨Or.inr (Or.inr (Or.inr (Or.inl ⟨rfl, rfl, rfl, rfl, rfl⟩))), fun o ho => by simp [notRe] at ho; exact ⟨t, ho, h n⟩⟩
theorem good_rep {t : Re} {a b : Int} (h : GoodT t) (h0 : 0 ≤ a) (h1 : a ≤ 50) (h2 : b = -1 ∨ (a ≤ b ∧ 1 ≤ b ∧ b ≤ 50)) : GoodT (repRe a b t)
  | 0 => trivial
  | n + 1 => ⟨Or.inr (Or.inr (Or.inr (Or.inr ⟨rfl, rfl, h0, h1, h2, rfl⟩))), fun o ho => by simp [repRe] at ho; exact ⟨t, ho, h n⟩⟩
theorem good_gather {kind : Int} {l : List Re} (hk : kind = 2 ∨ ((kind = 3 ∨ kind = 4) ∧ l ≠ [])) (hl : l.length ≤ 10000000) (h : ∀ t ∈ l, GoodT t) : GoodT (gatherS kind l) := by
  by_cases h1 : l.length = 1
  · obtain ⟨t, rfl⟩ := List.length_eq_one_iff.1 h1
    exact h t (by simp)
  · have e : gatherS kind l = ⟨kind, [], 0, 0, l.map some⟩ := by
      match l, h1 with
      | [], _ => rfl
      | [p], h => simp at h
      | p :: q :: r, _ => rfl
    rw [e]
    intro n
    cases n with
    | zero => trivial
    | succ n =>
      refine ⟨?_, fun o ho => ?_⟩
      · rcases hk with rfl | ⟨hk, hne⟩
        · exact Or.inr (Or.inl ⟨rfl, by simpa using h1, by simpa using hl, rfl, rfl, rfl⟩)
        · have : 1 ≤ l.length := List.length_pos_iff.2 hne
          exact Or.inr (Or.inr (Or.inl ⟨hk, by simp; omega, by simpa using hl, rfl, rfl, rfl⟩))
      · obtain ⟨t, ht, rfl⟩ := List.mem_map.1 ho
        exact ⟨t, rfl, h t ht n⟩

theorem timesS_rng {s : ByteArray} {i j : Nat} {a b : Int} (hi : i ≤ s.size) (h : timesS s i = some ((a, b), j)) : 0 ≤ a ∧ a ≤ 50 ∧ (b = -1 ∨ (a ≤ b ∧ 1 ≤ b ∧ b ≤ 50)) := by
  unfold timesS at h
  split at h
  · simp at h
  · rename_i x k hk
    have h0 := countS_pos hk
    obtain ⟨h1, h2, h3⟩ := countS_some hi hk
    split at h
    · rename_i e
      have h4 := cp_eq_size e (by omega) (by omega)
      split at h
      · simp at h
        omega
      · split at h
        · simp at h
        · rename_i y m hm
          obtain ⟨h5, h6, h7⟩ := countS_some (by omega) hm
          split at h
          · simp at h
          · rename_i e3
            simp at h
            have g1 : ¬ y < x := fun hh => e3 (Or.inl hh)
            have g2 : ¬ y < 1 := fun hh => e3 (Or.inr (Or.inl hh))
            omega
    · split at h
      · simp at h
      · rename_i e3
        simp at h
        have g1 : ¬ x < 1 := fun hh => e3 (Or.inr hh)
        omega
theorem partS_good {s : ByteArray} : ∀ (f : Nat) {p q : Re} {i j : Nat}, i ≤ s.size → GoodT p → partS s f p i = some (q, j) → GoodT q
  | 0, _, _, _, _, _, _, h => by simp [partS] at h
  | f + 1, p, q, i, j, hi, hp, h => by
    rw [partS_eq] at h
    split at h
    · rename_i e
      have := cp_eq_size e (by omega) (by omega)
      exact partS_good f (by omega) (good_rep hp (by omega) (by omega) (Or.inl rfl)) h
    · split at h
      · rename_i e
        have := cp_eq_size e (by omega) (by omega)
        exact partS_good f (by omega) (good_rep hp (by omega) (by omega) (Or.inl rfl)) h
      · split at h
        · rename_i e
          have := cp_eq_size e (by omega) (by omega)
          exact partS_good f (by omega) (good_rep hp (by omega) (by omega) (Or.inr (by omega))) h
        · split at h
          · rename_i e
            have := cp_eq_size e (by omega) (by omega)
            split at h
            · simp at h
            · rename_i a b k hk
              have h1 := timesS_some (by omega) hk
              obtain ⟨h2, h3, h4⟩ := timesS_rng (by omega) hk
              exact partS_good f (by omega) (good_rep hp h2 h3 h4) h
          · simp at h; rw [← h.1]; exact hp

def GoodU (s : ByteArray) (u : Nat → Option (Re × Nat)) : Prop := ∀ i t j, i ≤ s.size → u i = some (t, j) → GoodT t
theorem rowS_good {s : ByteArray} {u : Nat → Option (Re × Nat)} (hu : Goes s u) (hg : GoodU s u) : ∀ (f : Nat) {acc out : List Re} {i j : Nat}, i ≤ s.size → acc.length ≤ i → (∀ t ∈ acc, GoodT t) → rowS s u f acc i = some (out, j) → out.length ≤ j ∧ ∀ t ∈ out, GoodT t
  | 0, _, _, _, _, _, _, _, h => by simp [rowS] at h
  | f + 1, acc, out, i, j, hi, hl, hacc, h => by
    rw [rowS_eq] at h
    split at h
    · simp at h; obtain ⟨rfl, rfl⟩ := h; exact ⟨hl, hacc⟩
    · split at h
      · simp at h
      · rename_i p k hk
        cases hu1 : u i with
        | none => rw [hu1] at hk; simp at hk
        | some x =>
          obtain ⟨q, m⟩ := x
          rw [hu1] at hk
          simp at hk
          have h1 := hu i q m hi hu1
          have h2 := partS_some _ (by omega) hk
          have h3 := partS_good _ (by omega) (hg i q m hi hu1) hk
          refine rowS_good hu hg f (by omega) (by simp; omega) (fun t ht => ?_) h
          rcases List.mem_append.1 ht with ht | ht
          · exact hacc t ht
          · rw [List.mem_singleton.1 ht]; exact h3
theorem sevS_good {s : ByteArray} {c : Int} (hc : 0 ≤ c ∧ c < 128) {r : Nat → Option (Re × Nat)} (hr : Stays s r) (hg : GoodU s r) : ∀ (f : Nat) {acc out : List Re} {i j : Nat}, i ≤ s.size → acc.length ≤ i + 1 → acc ≠ [] → (∀ t ∈ acc, GoodT t) → sevS s c r f acc i = some (out, j) → out.length ≤ j + 1 ∧ out ≠ [] ∧ ∀ t ∈ out, GoodT t
  | 0, _, _, _, _, _, _, _, _, h => by simp [sevS] at h
  | f + 1, acc, out, i, j, hi, hl, hne, hacc, h => by
    rw [sevS_eq] at h
    split at h
    · rename_i e
      have h0 := cp_eq_size e hc.1 hc.2
      split at h
      · simp at h
      · rename_i p k hk
        have h1 := hr _ _ _ (by omega) hk
        refine sevS_good hc hr hg f (by omega) (by simp; omega) (by simp) (fun t ht => ?_) h
        rcases List.mem_append.1 ht with ht | ht
        · exact hacc t ht
        · rw [List.mem_singleton.1 ht]; exact hg _ _ _ (by omega) hk
    · simp at h; obtain ⟨rfl, rfl⟩ := h; exact ⟨hl, hne, hacc⟩
theorem severalS_good {s : ByteArray} (hs : s.size ≤ 1000000) {k c : Int} (hk : k = 3 ∨ k = 4) (hc : 0 ≤ c ∧ c < 128) {r : Nat → Option (Re × Nat)} (hr : Stays s r) (hg : GoodU s r) : GoodU s (severalS s k c r) := by
  intro i t j hi h
  unfold severalS at h
  split at h
  · simp at h
  · rename_i p m hm
    have h1 := hr _ _ _ hi hm
    simp at h
    obtain ⟨a, h2, h3⟩ := h
    obtain ⟨g1, g2, g3⟩ := sevS_good hc hr hg _ (by omega) (by simp) (by simp) (fun t ht => by rw [List.mem_singleton.1 ht]; exact hg _ _ _ hi hm) h2
    have := sevS_some hc hr _ (by omega) h2
    rw [← h3]
    exact good_gather (Or.inr ⟨hk, g2⟩) (by omega) g3
theorem rowReS_good {s : ByteArray} (hs : s.size ≤ 1000000) {u : Nat → Option (Re × Nat)} (hu : Goes s u) (hg : GoodU s u) : GoodU s (rowReS s u) := by
  intro i t j hi h
  unfold rowReS at h
  simp at h
  obtain ⟨a, h2, h3⟩ := h
  obtain ⟨g1, g2⟩ := rowS_good hu hg _ hi (by simp) (by simp) h2
  have := rowS_some hu _ hi h2
  rw [← h3]
  exact good_gather (Or.inl rfl) (by omega) g2
theorem patS_good {s : ByteArray} (hs : s.size ≤ 1000000) {u : Nat → Option (Re × Nat)} (hu : Goes s u) (hg : GoodU s u) : GoodU s (patS s u) :=
  severalS_good hs (Or.inl rfl) (by omega) (bothS_stays hu) (severalS_good hs (Or.inr rfl) (by omega) (rowReS_stays hu) (rowReS_good hs hu hg))
theorem unitS_good {s : ByteArray} (hs : s.size ≤ 1000000) {mk : List Rg → Bool → List Rg} (hmk : ∀ a b, a.length ≤ 1000001 → canonFrom 0 (mk a b) = true ∧ (mk a b).length ≤ 10000000) : ∀ n, GoodU s (unitS s mk n) := by
  have items_len : ∀ (f : Nat) {acc out : List Rg} {i j : Nat}, i ≤ s.size → acc.length ≤ i → itemsS s f acc i = some (out, j) → out.length ≤ j ∧ j ≤ s.size := by
    intro f
    induction f with
    | zero => intro acc out i j hi hl h; simp [itemsS] at h
    | succ f ih =>
      intro acc out i j hi hl h
      unfold itemsS at h
      split at h
      · rename_i e
        have := cp_eq_size e (by omega) (by omega)
        simp at h
        obtain ⟨rfl, rfl⟩ := h
        omega
      · split at h
        · simp at h
        · rename_i r k hk
          have h1 := itemS_some hi hk
          exact ih (by omega) (by simp; omega) h
  have leaf : GoodU s (leafS s mk) := by
    intro i t j hi h
    unfold leafS at h
    split at h
    · simp at h
      rw [← h.1]
      obtain ⟨h1, h2⟩ := hmk [(10, 10)] true (by simp)
      exact good_set h1 h2
    · cases h2 : pointS s outerS i with
      | none => rw [h2] at h; simp at h
      | some x =>
        obtain ⟨a, b⟩ := x
        rw [h2] at h
        simp at h
        have := pointS_some hi h2
        rw [← h.1]
        exact good_point (by omega) (by omega)
  have brack : GoodU s (brackS s mk) := by
    intro i t j hi h
    unfold brackS at h
    split at h
    · rename_i e
      have h0 := cp_eq_size e (by omega) (by omega)
      simp at h
      obtain ⟨a, h2, h3⟩ := h
      have := items_len _ (by omega) (by simp) h2
      rw [← h3]
      obtain ⟨g1, g2⟩ := hmk a true (by omega)
      exact good_set g1 g2
    · simp at h
      obtain ⟨a, h2, h3⟩ := h
      have := items_len _ hi (by simp) h2
      rw [← h3]
      obtain ⟨g1, g2⟩ := hmk a false (by omega)
      exact good_set g1 g2
  intro n
  induction n with
  | zero => exact leaf
  | succ n ih =>
    intro i t j hi h
    rw [unitS] at h
    split at h
    · rename_i e
      have := cp_eq_size e (by omega) (by omega)
      simp at h
      obtain ⟨a, h2, h3⟩ := h
      rw [← h3]
      exact good_not (ih _ _ _ (by omega) h2)
    · split at h
      · rename_i e
        have := cp_eq_size e (by omega) (by omega)
        split at h
        · simp at h
        · rename_i p k hk
          split at h
          · simp at h
            rw [← h.1]
            exact patS_good hs (unitS_goes n) ih _ _ _ (by omega) hk
          · simp at h
      · split at h
        · rename_i e
          have := cp_eq_size e (by omega) (by omega)
          exact brack _ _ _ (by omega) h
        · exact leaf _ _ _ hi h
theorem wholeS_good {s : ByteArray} (hs : s.size ≤ 1000000) {mk : List Rg → Bool → List Rg} (hmk : ∀ a b, a.length ≤ 1000001 → canonFrom 0 (mk a b) = true ∧ (mk a b).length ≤ 10000000) {t : Re} (h : wholeS s mk = some t) : GoodT t := by
  unfold wholeS at h
  split at h
  · simp at h
  · rename_i p j hp
    split at h
    · simp at h
      rw [← h]
      exact patS_good hs (unitS_goes 100) (unitS_good hs hmk 100) _ _ _ (by omega) hp
    · simp at h

end Go.Proofs.YtbjohedenfindaaGreatDoor
