/- Texts of the proof, put together: WByt, VLaw, VLawB. -/
import Derived.Test.YtbjohedenfindaaGreatDoorPw45
import Derived.Test.YtbjohedenfindaaGreatDoorPw30
import Derived.Test.YtbjohedenfindaaGreatDoorPw33
import Derived.Test.YtbjohedenfindaaGreatDoorPw34
namespace Go.Proofs.YtbjohedenfindaaGreatDoor
set_option linter.unusedVariables false
set_option linter.unusedSimpArgs false

variable {mk : List Rg → Bool → List Rg}
def Byt (l : List Nat) : Prop := ∀ x ∈ l, x < 256
theorem Byt.app {a b : List Nat} (ha : Byt a) (hb : Byt b) : Byt (a ++ b) := fun x hx => by
  rcases List.mem_append.1 hx with h | h
  · exact ha x h
  · exact hb x h
theorem Byt.cons {a : Nat} {l : List Nat} (ha : a < 256) (hl : Byt l) : Byt (a :: l) := fun x hx => by
  rcases List.mem_cons.1 hx with rfl | h
  · exact ha
  · exact hl x h
theorem Byt.nil : Byt [] := fun x hx => by simp at hx
theorem Byt.flat {ls : List (List Nat)} (h : ∀ l ∈ ls, Byt l) : Byt ls.flatten := fun x hx => by
  obtain ⟨l, hl, hx⟩ := List.mem_flatten.1 hx
  exact h l hl x hx
theorem pt_bytes (sg : Int → Bool) (c : Nat) : Byt (ptB sg c) := by
  unfold ptB
  split
  · rename_i h1
    simp only [Bool.and_eq_true, decide_eq_true_eq, Bool.not_eq_true'] at h1
    have h2 := h1.1.1
    simp only [plainB, Bool.or_eq_true, Bool.and_eq_true, decide_eq_true_eq] at h2
    unfold encB
    split
    · exact Byt.cons (by omega) Byt.nil
    · exact Byt.cons (by omega) (Byt.cons (by omega) Byt.nil)
  · cases hs : signOf c with
    | some b => exact Byt.cons (by omega) (Byt.cons (by have := (sign_esc hs).2; omega) Byt.nil)
    | none => exact Byt.app (Byt.app (Byt.cons (by omega) (Byt.cons (by omega) (Byt.cons (by omega) Byt.nil))) (fun x hx => by have := hexB_lt _ _ x hx; omega)) (Byt.cons (by omega) Byt.nil)
theorem items_bytes (l : List Rg) : Byt (itemsB l) := by
  unfold itemsB
  rw [List.flatMap_def]
  refine Byt.flat fun x hx => ?_
  obtain ⟨r, _, rfl⟩ := List.mem_map.1 hx
  unfold itemB
  refine Byt.app (pt_bytes _ _) (Byt.app ?_ ?_)
  · split
    · exact Byt.cons (by omega) Byt.nil
    · exact Byt.nil
  · split
    · exact pt_bytes _ _
    · exact Byt.nil
theorem set_bytes (l : List Rg) : Byt (setB mk l) := by
  unfold setB
  split
  · exact pt_bytes _ _
  · split
    · exact Byt.cons (by omega) Byt.nil
    · split
      · exact Byt.cons (by omega) (Byt.cons (by omega) (Byt.app (items_bytes _) (Byt.cons (by omega) Byt.nil)))
      · exact Byt.cons (by omega) (Byt.app (items_bytes _) (Byt.cons (by omega) Byt.nil))
theorem dec_bytes (n : Nat) (h : n ≤ 50) : Byt (decB n) := by
  unfold decB
  split
  · exact Byt.cons (by omega) Byt.nil
  · exact Byt.cons (by omega) (Byt.cons (by omega) Byt.nil)
theorem times_bytes (a b : Int) (ha : a ≤ 50) (hb : b ≤ 50) : Byt (timesB a b) := by
  have d1 := dec_bytes a.toNat (by omega)
  have d2 := dec_bytes b.toNat (by omega)
  unfold timesB
  split
  · exact Byt.cons (by omega) Byt.nil
  · split
    · exact Byt.cons (by omega) Byt.nil
    · split
      · exact Byt.cons (by omega) Byt.nil
      · split
        · exact Byt.cons (by omega) (Byt.app d1 (Byt.cons (by omega) (Byt.cons (by omega) Byt.nil)))
        · split
          · exact Byt.cons (by omega) (Byt.app d1 (Byt.cons (by omega) Byt.nil))
          · exact Byt.cons (by omega) (Byt.app d1 (Byt.cons (by omega) (Byt.app d2 (Byt.cons (by omega) Byt.nil))))
theorem join_bytes (c : Nat) (hc : c < 256) (ts : List (List Nat)) (h : ∀ l ∈ ts, Byt l) : Byt (joinB c ts) := by
  cases ts with
  | nil => exact Byt.nil
  | cons x t =>
    refine Byt.app (h x (by simp)) (Byt.flat fun l hl => ?_)
    obtain ⟨y, hy, rfl⟩ := List.mem_map.1 hl
    exact Byt.cons hc (h y (by simp [hy]))
theorem wrap_bytes (o p : Nat) {l : List Nat} (h : Byt l) : Byt (wrapB o p l) := by
  unfold wrapB
  split
  · exact Byt.cons (by omega) (Byt.app h (Byt.cons (by omega) Byt.nil))
  · exact h
theorem wr_bytes : ∀ (n : Nat) (t : Tm), hT t ≤ n → GoodT (reOf t) → ∀ pl, Byt (wrT mk t pl)
  | 0, t, h, _, _ => by rw [hT_eq] at h; omega
  | n + 1, t, h, hG, pl => by
    have hno : NodeOk (reOf t) := (hG 1).1
    rw [reOf_eq] at hno
    have ih : ∀ x ∈ t.kids, ∀ pl, Byt (wrT mk x pl) := fun x hx pl => wr_bytes n x (by have := hT_kid hx; omega) (good_kid hG hx) pl
    have ihl : ∀ pl, ∀ l ∈ ((t.kids.map (wrT mk)).map fun w => w pl), Byt l := fun pl l hl => by
      rw [List.map_map] at hl
      obtain ⟨x, hx, rfl⟩ := List.mem_map.1 hl
      exact ih x hx pl
    rw [wrT_eq]
    refine wrap_bytes _ _ ?_
    unfold bodyB
    split
    · exact set_bytes _
    · split
      · split
        · exact Byt.cons (by omega) (Byt.cons (by omega) Byt.nil)
        · exact Byt.flat (ihl 3)
      · split
        · exact join_bytes _ (by omega) _ (ihl 1)
        · split
          · exact join_bytes _ (by omega) _ (ihl 2)
          · split
            · exact Byt.cons (by omega) (Byt.flat (ihl 4))
            · refine Byt.app (Byt.flat (ihl 3)) (times_bytes _ _ ?_ ?_)
              all_goals (unfold NodeOk at hno; simp only at hno; omega)
end Go.Proofs.YtbjohedenfindaaGreatDoor

namespace Go.Proofs.YtbjohedenfindaaGreatDoor
open Go.RowKit
set_option linter.unusedVariables false
set_option maxRecDepth 100000

variable {mk : List Rg → Bool → List Rg}

/-- how long the texts of sets are that have few ranges -/
theorem setB_few {l : List Rg} (hc : canonFrom 0 l = true) (h12 : l.length ≤ 12) : (setB mk l).length ≤ 254 := by
  have hok := canon_ok hc
  have hit := itemsB_len l hok
  unfold setB
  split
  · rename_i h
    have hx : RngOk (l.getD 0 (0, 0)) := hok _ (by rw [List.getD_eq_getElem?_getD, List.getElem?_eq_getElem (by omega)]; exact List.getElem_mem _)
    have := pt_len (c := (l.getD 0 (0, 0)).1.toNat) (sg := outerS) (by have := hx.2.1; have := hx.2.2; omega)
    omega
  · split
    · simp
    · split
      · simp only [List.length_cons, List.length_append, List.length_nil]; omega
      · simp only [List.length_cons, List.length_append, List.length_nil]; omega
theorem sum_le_weigh (n : Nat) : ∀ (ks : List Tm), (∀ x ∈ ks, (sN mk n (reOf x) : Int) ≤ 254 * weighS n (reOf x)) → (((ks.map fun x => sN mk n (reOf x)).sum : Nat) : Int) ≤ 254 * (ks.map fun x => weighS n (reOf x)).sum
  | [], _ => by simp
  | x :: ks, h => by
    have h1 := h x (by simp)
    have h2 := sum_le_weigh n ks fun y hy => h y (by simp [hy])
    simp only [List.map_cons, List.sum_cons]
    push_cast
    omega
theorem sN_few : ∀ (n : Nat) (t : Tm), GoodT (reOf t) → Few 12 n (reOf t) → weighS n (reOf t) ≤ 60 → (sN mk n (reOf t) : Int) ≤ 254 * weighS n (reOf t)
  | 0, t, _, _, h => by simp [weighS] at h
  | n + 1, t, hG, hF, h => by
    obtain ⟨hw, hk60⟩ := weigh_parts h
    have hno : NodeOk (reOf t) := (hG 1).1
    have er : reOf t = ⟨t.kind, t.set, t.mn, t.mx, (t.kids.map reOf).map some⟩ := reOf_eq t
    have hs : sN mk (n + 1) (reOf t) = (if t.kind = 1 then (setB mk t.set).length else 0) + (t.kids.map fun x => sN mk n (reOf x)).sum := by
      rw [er]; simp only [sN, List.map_map, Function.comp_def]
    have hset : (reOf t).set = t.set := by rw [er]
    have hkids : (reOf t).kids = (t.kids.map reOf).map some := by rw [er]
    have hsum := sum_le_weigh (mk := mk) n t.kids fun x hx => sN_few n x (good_kid hG hx) (hF.2 (some (reOf x)) (by rw [hkids]; exact List.mem_map_of_mem (List.mem_map_of_mem hx)) (reOf x) rfl) (hk60 x hx)
    have hpos : 0 ≤ (t.kids.map fun x => weighS n (reOf x)).sum := by
      have : ∀ ks : List Tm, 0 ≤ (ks.map fun x => weighS n (reOf x)).sum := by
        intro ks
        induction ks with
        | nil => simp
        | cons x ks ih => have := (weighS_bd n (reOf x)).1; simp only [List.map_cons, List.sum_cons]; omega
      exact this _
    rw [hs]
    split
    · have h1 := setB_few (mk := mk) (node_set hno).1 hF.1
      rw [hset] at h1
      push_cast
      omega
    · push_cast
      omega

/-- sizes of what is made of a list -/
def Mod (t : Re) : Prop := ∀ n, SzS n t ∧ Few 12 n t
theorem mkRe_mod {acc : List Re} (h : ∀ t ∈ acc, Mod t) {p : PartP} (hp : p.set.length ≤ 12 ∧ p.kids.length ≤ 1048576) : Mod (mkRe acc p) := by
  have hk : ∀ k, some k ∈ (mkRe acc p).kids → Mod k := fun k hk => by
    have hk' : some k ∈ p.kids.map (kidO acc) := hk
    obtain ⟨z, _, hz⟩ := List.mem_map.1 hk'
    unfold kidO at hz
    split at hz
    · cases hz
    · exact h k (List.mem_of_getElem? hz)
  intro n
  cases n with
  | zero => exact ⟨trivial, trivial⟩
  | succ n =>
    have hs : (mkRe acc p).set = p.set := rfl
    have hl : (mkRe acc p).kids.length = p.kids.length := by show (p.kids.map _).length = _; simp
    exact ⟨⟨⟨by rw [hs]; omega, by rw [hl]; omega⟩, fun k hk' => (hk k hk' n).1⟩, by rw [hs]; exact hp.1, fun o ho k e => by subst e; exact (hk k ho n).2⟩
theorem foldl_mod : ∀ (ps : List PartP) (acc : List Re), (∀ p ∈ ps, p.set.length ≤ 12 ∧ p.kids.length ≤ 1048576) → (∀ t ∈ acc, Mod t) → ∀ t ∈ ps.foldl (fun acc p => acc ++ [mkRe acc p]) acc, Mod t
  | [], acc, _, h => h
  | p :: ps, acc, hp, h => by
    rw [List.foldl_cons]
    refine foldl_mod ps _ (fun q hq => hp q (by simp [hq])) fun t ht => ?_
    rcases List.mem_append.1 ht with ht | ht
    · exact h t ht
    · simp at ht
      subst ht
      exact mkRe_mod h (hp p (by simp))

set_option maxHeartbeats 2000000 in
theorem told_syn {w : World} {a : Nat → Addr} (h : Errs w a) : Calls Tryz.prog 9 #[.iface 259 (.pointer (some (a 0))), .iface 259 (.pointer (some (a 0))), .int .i64 (-1)] w fun e w' => e = .returned (.bool true) ∧ Below w.heap.size w w' := by
  have HC : Hid (∀ w', Below w.heap.size w w' → Calls Tryz.prog 23 #[.iface 259 (.pointer (some (a 0)))] w' fun e w'' => e = .returned (.tuple #[.int .i64 1, .int .i64 (-1)]) ∧ Below w.heap.size w w'') := fun w' hb => (code_err w' a (h.below hb (Nat.le_refl _)) 0 (by omega)).mono fun e w'' ⟨h1, h2⟩ => ⟨h1, hb.trans (h2.mono hb.size)⟩
  clear h
  go_enter Tryz.func9, Tryz.ntmps9
  go_wp2_with fail
  go_at_call 23
  refine (HC.out w (Below.refl _ _)).mono ?_
  rintro e w1 ⟨rfl, hb1⟩
  go_wp2_with fail
  go_at_call 23
  refine (HC.out w1 hb1).mono ?_
  rintro e w2 ⟨rfl, hb2⟩
  clear HC
  go_wp2
  go_ret
  exact ⟨rfl, hb2⟩

set_option maxHeartbeats 2000000 in
theorem pwrite_no {w : World} {p : Option Addr} {te : TypeId} {pe : Value} (HOk : Hid (Calls Tryz.prog 14 #[.pointer p] w fun e w' => e = .returned (.bool false) ∧ Below w.heap.size w w' ∧ w'.cell? ⟨0, 0, none⟩ = some (.iface te pe))) :
    Calls Tryz.prog 15 #[.pointer p] w fun e w' => (∃ S, e = .returned (.tuple #[.string S, .iface te pe])) ∧ Below w.heap.size w w' := by
  go_enter Tryz.func15, Tryz.ntmps15
  go_wp2_with fail
  go_at_call 14
  refine HOk.out.mono ?_
  rintro e w1 ⟨rfl, hb1, c1⟩
  clear HOk
  go_wp2
  go_quiet (fail)
  go_wp2
  go_ret2
  exact ⟨⟨_, rfl⟩, below_drewU hb1 nq⟩

end Go.Proofs.YtbjohedenfindaaGreatDoor

namespace Go.Proofs.YtbjohedenfindaaGreatDoor
open Go.RowKit
set_option linter.unusedVariables false
set_option maxRecDepth 100000

theorem few_moreV {B C : Nat} (h : B ≤ C) : ∀ (n : Nat) {t : Re}, Few B n t → Few C n t
  | 0, _, _ => trivial
  | n + 1, t, ⟨h1, h2⟩ => ⟨Nat.le_trans h1 h, fun o ho k hk => few_moreV h n (h2 o ho k hk)⟩

/-- what comes behind the pattern was made: by calls, in whatever world behind w1 -/
structure TailW (w1 : World) (v : Value) (p : Option Addr) (bv : Bool) (T : ByteArray) (a0 : Addr) : Prop where
  sm : ∀ w', Below w1.heap.size w1 w' → Calls Tryz.prog 12 #[v] w' fun e w'' => (∃ bb : Bool, e = .returned (.bool bb)) ∧ Below w1.heap.size w1 w''
  po : ∀ w', Below w1.heap.size w1 w' → Calls Tryz.prog 13 #[.pointer p] w' fun e w'' => e = .returned (.bool bv) ∧ Below w1.heap.size w1 w''
  ok : ∀ w', Below w1.heap.size w1 w' → Calls Tryz.prog 14 #[.pointer p] w' fun e w'' => e = .returned (.bool bv) ∧ Below w1.heap.size w1 w''
  no : bv = false → ∀ w', Below w1.heap.size w1 w' → Calls Tryz.prog 15 #[.pointer p] w' fun e w'' => (∃ S, e = .returned (.tuple #[.string S, .iface 259 (.pointer (some a0))])) ∧ w''.cell? ⟨0, 0, none⟩ = some (.iface 259 (.pointer (some a0))) ∧ Hid (Calls Tryz.prog 9 #[.iface 259 (.pointer (some a0)), .iface 259 (.pointer (some a0)), .int .i64 (-1)] w'' fun e w3 => e = .returned (.bool true) ∧ Below w1.heap.size w1 w3)
  yes : bv = true → ∀ w', Below w1.heap.size w1 w' → Calls Tryz.prog 15 #[.pointer p] w' fun e w'' => e = .returned (.tuple #[.string T, .nilIface]) ∧ Hid (Calls Tryz.prog 8 #[.string T] w'' fun e w3 => ∃ q, e = .returned (.tuple #[.pointer (some ⟨q, 0, none⟩), .nilIface, .int .i64 0]) ∧ Hid (∀ w4, Below w3.heap.size w3 w4 → Calls Tryz.prog 10 #[.pointer p, .pointer (some ⟨q, 0, none⟩)] w4 fun e w5 => e = .returned (.bool true) ∧ Below w1.heap.size w1 w5))

/-- a list that is handed in, as the law's loop looks at it -/
structure SetsA (w : World) (b off : Nat) (ls : List Nat) : Prop where
  lt : b < w.heap.size
  at_ : ∀ j, j < ls.length → ∃ sa sc, w.cell? ⟨b, off + j * 5 + 3, none⟩ = some (.slice sa (ls.getD j 0) sc)

set_option maxHeartbeats 8000000 in
theorem written_walk {w : World} {n c : Nat} {va : Option Addr} {ls : List Nat} {a0 : Addr} (hn : n ≤ 2000) (hls : ls.length = n) (hbd : ∀ x ∈ ls, x ≤ 140737488355328) (hva : n = 0 ∨ ∃ b off, va = some ⟨b, off, none⟩ ∧ SetsA w b off ls)
    (HPat : Hid ((∀ x ∈ ls, x ≤ 12) → Calls Tryz.prog 11 #[.slice va n c] w fun e w1 => ∃ p, e = .returned (.pointer p) ∧ Below w.heap.size w w1 ∧ ∃ bv T, TailW w1 (.slice va n c) p bv T a0)) :
    Calls Tryz.prog 4 #[.slice va n c] w fun e w' => e = .returned (.bool true) ∧ Below w.heap.size w w' := by
  have k1 : ¬ (2000 : Int) < (n : Int) := by omega
  have HS : Hid (n = 0 ∨ ∃ b off, va = some ⟨b, off, none⟩ ∧ SetsA w b off ls) := hva
  have HB : Hid (∀ x ∈ ls, x ≤ 140737488355328) := hbd
  clear hva hbd
  go_enter Tryz.func4, Tryz.ntmps4
  go_wp2
  go_loopw [3] (fun iv wr => ∃ i : Nat, i ≤ n ∧ iv = .int .i64 i ∧ wr = w ∧ Hid (∀ j, j < i → ls.getD j 0 ≤ 12)) (fun iv _ => n - (intOf iv).toNat)
  case atStart => exact ⟨0, Nat.zero_le _, rfl, rfl, fun j hj => by omega⟩
  case round =>
    obtain ⟨i, hi, rfl, hwe, HA⟩ := hrel
    subst hwe
    by_cases hlt : i < n
    · obtain ⟨b, off, rfl, hSA⟩ : ∃ b off, va = some ⟨b, off, none⟩ ∧ SetsA wr b off ls := by
        rcases HS.out with h | h
        · omega
        · exact h
      obtain ⟨sa, sc, cs⟩ := hSA.at_ i (by omega)
      have hxb : ls.getD i 0 ≤ 140737488355328 := HB.out _ (by rw [List.getD_eq_getElem?_getD, List.getElem?_eq_getElem (by omega)]; exact List.getElem_mem _)
      have hbl := hSA.lt
      have HA2 : Hid (ls.getD i 0 ≤ 12 → ∀ j, j < i + 1 → ls.getD j 0 ≤ 12) := fun h j hj => by
        by_cases e : j = i
        · subst e; exact h
        · exact HA.out j (by omega)
      generalize ls.getD i 0 = x at *
      clear hSA
      by_cases h12 : x ≤ 12
      · have g : ¬ (12 : Int) < (x : Int) := by omega
        have HA3 : Hid (∀ j, j < i + 1 → ls.getD j 0 ≤ 12) := HA2.out h12
        clear HA2
        go_wp2
        go_roundw
        case rel => exact ⟨i + 1, by omega, by go_num, by first | rfl | trivial, HA3⟩
        case measure => simp [intOf]; omega
      · have g : (12 : Int) < (x : Int) := by omega
        go_wp2
        go_ret
        exact ⟨rfl, Below.refl _ _⟩
    · obtain rfl : i = n := by omega
      have HP := HPat.out fun x hx => by
        obtain ⟨j, hj, e⟩ := List.getElem_of_mem hx
        have := HA.out j (by omega)
        rw [List.getD_eq_getElem?_getD, List.getElem?_eq_getElem hj, Option.getD_some, e] at this
        exact this
      have HPP : Hid (Calls Tryz.prog 11 #[.slice va i c] wr fun e w1 => ∃ p, e = .returned (.pointer p) ∧ Below wr.heap.size wr w1 ∧ ∃ bv T, TailW w1 (.slice va i c) p bv T a0) := HP
      clear HP HPat HA HS HB
      go_wp2_with fail
      go_at_call 11
      refine HPP.out.mono ?_
      rintro e w1 ⟨p, rfl, hb1, bv, T, hT⟩
      have HT : Hid (TailW w1 (.slice va i c) p bv T a0) := hT
      have HEnd : Hid (∀ w', Below w1.heap.size w1 w' → Below wr.heap.size wr w') := fun w' h => hb1.trans (h.mono hb1.size)
      clear hT HPP hb1
      go_wp2_with fail
      go_at_call 12
      refine (HT.out.sm w1 (Below.refl _ _)).mono ?_
      rintro e w2 ⟨⟨few, rfl⟩, hb2⟩
      cases few
      · go_wp2
        go_ret
        exact ⟨rfl, HEnd.out _ hb2⟩
      · go_wp2_with fail
        go_at_call 13
        refine (HT.out.po w2 hb2).mono ?_
        rintro e w3 ⟨rfl, hb3⟩
        clear hb2
        go_wp2_with fail
        go_at_call 14
        refine (HT.out.ok w3 hb3).mono ?_
        rintro e w4 ⟨rfl, hb4⟩
        clear hb3
        cases bv
        · go_wp2_with fail
          go_at_call 15
          refine (HT.out.no rfl w4 hb4).mono ?_
          rintro e w5 ⟨⟨S, rfl⟩, c5, HTo⟩
          clear hb4 HT
          go_wp2_with fail
          go_at_call 9
          refine HTo.out.mono ?_
          rintro e w6 ⟨rfl, hb6⟩
          go_wp2
          go_ret
          exact ⟨rfl, HEnd.out _ hb6⟩
        · go_wp2_with fail
          go_at_call 15
          refine (HT.out.yes rfl w4 hb4).mono ?_
          rintro e w5 ⟨rfl, HRd⟩
          clear hb4 HT
          go_wp2_with fail
          go_at_call 8
          refine HRd.out.mono ?_
          rintro e w6 ⟨q, rfl, HSm⟩
          clear HRd
          go_wp2_with fail
          go_at_call 10
          refine (HSm.out w6 (Below.refl _ _)).mono ?_
          rintro e w7 ⟨rfl, hb7⟩
          go_wp2
          go_ret
          exact ⟨by simp, HEnd.out _ hb7⟩

theorem SamC.tail {W0 w1 : World} {v v' : Value} (h : SamC W0 v v') (hb : Below w1.heap.size w1 W0) : ∀ w4, Below W0.heap.size W0 w4 → Calls Tryz.prog 10 #[v, v'] w4 fun e w5 => e = .returned (.bool true) ∧ Below w1.heap.size w1 w5 :=
  fun w4 h4 => (h w4 h4).mono fun e w5 ⟨q1, q2⟩ => ⟨q1, hb.trans (q2.mono hb.size)⟩
theorem tree_bothV {ok ok' : Nat → Prop} {w : World} {v v' : Value} {t : Tm} (h : Tree ok w v (reOf t)) (h' : Tree ok' w v' (reOf t)) (hG : GoodT (reOf t)) : SamC w v v' := by
  obtain ⟨m, hm⟩ := h
  obtain ⟨m', hm'⟩ := h'
  exact same_all (max m m') t v v' (IsRe.more _ _ (Nat.le_max_left _ _) hm) (IsRe.more _ _ (Nat.le_max_right _ _) hm') hG

/-- what is asked of the world in which the law is called -/
structure LawW (W0 w : World) (a : Nat → Addr) : Prop where
  lib : LibR W0
  env : Env W0 w
  err : Errs w a
  db : w.cell? ⟨13, 15, none⟩ = some (.int .u8 4)
  big : 16 ≤ w.heap.size
theorem LawW.below {W0 w w' : World} {a : Nat → Addr} (h : LawW W0 w a) (hb : Below w.heap.size w w') : LawW W0 w' a :=
  ⟨h.lib, ⟨Nat.le_trans h.env.1 hb.size, fun k hk => (hb.block k (by have := h.env.1; omega)).trans (h.env.2 k hk)⟩, h.err.below hb (Nat.le_refl _), (hb.cell (p := ⟨13, 15, none⟩) (by show 13 < _; have := h.big; omega)).trans h.db, Nat.le_trans h.big hb.size⟩

theorem tail_no {W0 w1 : World} {a : Nat → Addr} {v : Value} {p : Option Addr} (H : LawW W0 w1 a) (hsm : ∀ w', Below w1.heap.size w1 w' → Calls Tryz.prog 12 #[v] w' fun e w'' => (∃ bb : Bool, e = .returned (.bool bb)) ∧ Below w1.heap.size w1 w'')
    (hpo : ∀ w', Below w1.heap.size w1 w' → Calls Tryz.prog 13 #[.pointer p] w' fun e w'' => e = .returned (.bool false) ∧ Below w'.heap.size w' w'') (hok : ∀ w', Below w1.heap.size w1 w' → Calls Tryz.prog 14 #[.pointer p] w' fun e w'' => e = .returned (.bool false) ∧ Below w'.heap.size w' w'') : TailW w1 v p false ⟨#[]⟩ (a 0) where
  sm := hsm
  po := fun w' hb => (hpo w' hb).mono fun e w'' ⟨h1, h2⟩ => ⟨h1, hb.trans (h2.mono hb.size)⟩
  ok := fun w' hb => (hok w' hb).mono fun e w'' ⟨h1, h2⟩ => ⟨h1, hb.trans (h2.mono hb.size)⟩
  no := fun _ w' hb => by
    refine (pwrite_no (te := 259) (pe := .pointer (some (a 0))) ((hok w' hb).mono fun e w'' ⟨h1, h2⟩ => ⟨h1, h2, (H.below (hb.trans (h2.mono hb.size))).err.cell 0 (by omega)⟩)).mono ?_
    rintro e w'' ⟨h1, h2⟩
    have hb2 := hb.trans (h2.mono hb.size)
    have H2 := H.below hb2
    exact ⟨h1, H2.err.cell 0 (by omega), (told_syn H2.err).mono fun e w3 ⟨q1, q2⟩ => ⟨q1, hb2.trans (q2.mono hb2.size)⟩⟩
  yes := fun h => by cases h

theorem tail_tree {W0 w1 : World} {a : Nat → Addr} {v : Value} {q : Nat} {ok : Nat → Prop} {t : Re} {mk : List Rg → Bool → List Rg} (M : MkOk mk) (H : LawW W0 w1 a) (hT : Tree ok w1 (.pointer (some ⟨q, 0, none⟩)) t) (hM : Mod t) (hsm : ∀ w', Below w1.heap.size w1 w' → Calls Tryz.prog 12 #[v] w' fun e w'' => (∃ bb : Bool, e = .returned (.bool bb)) ∧ Below w1.heap.size w1 w'') : ∃ bv T, TailW w1 v (some ⟨q, 0, none⟩) bv T (a 0) := by
  have hz := (hM 31).1
  obtain ⟨bv, hbv, hpo⟩ := patok_x M hT hz
  have hmv : ∀ {w'}, Below w1.heap.size w1 w' → Tree ok w' (.pointer (some ⟨q, 0, none⟩)) t := fun hb => hT.moved hb.size fun b hb' hok => ⟨hok, hb.block b hb'⟩
  have hok : ∀ w', Below w1.heap.size w1 w' → Calls Tryz.prog 14 #[.pointer (some ⟨q, 0, none⟩)] w' fun e w'' => e = .returned (.bool bv) ∧ Below w'.heap.size w' w'' := fun w' hb => by
    obtain ⟨b2, hb2, hC⟩ := pok_x (hmv hb) (SzS.szT 31 hz)
    have : b2 = bv := by rw [Bool.eq_iff_iff, hb2, hbv]
    rw [← this]; exact hC
  cases hq : bv
  · rw [hq] at hpo hok
    exact ⟨false, _, tail_no H hsm hpo hok⟩
  · rw [hq] at hpo hok hbv
    have hval : ValT t := hbv.1 rfl
    obtain ⟨hs, h60⟩ := hval
    have hG : GoodT t := hs.all 31
    obtain ⟨tm, rfl, _, _, _⟩ := good_tm t hG
    have hF9 : FewT 9000 (reOf tm) := fun n => few_moreV (by omega) n (hM n).2
    have hlen : (wrT mk tm 0).length ≤ 50000 := by
      have h1 := wr_len (mk := mk) 31 tm hG h60 0
      have h2 := sN_few (mk := mk) 31 tm hG (hM 31).2 h60
      omega
    have hby := wr_bytes (mk := mk) (Go.Proofs.YtbjohedenfindaaGreatDoor.hT tm) tm (Nat.le_refl _) hG 0
    have hread := written_read M hG h60 hby
    have hwh : wholeS (bytesB (wrT mk tm 0)) mk = some (reOf tm) := by
      unfold readS at hread
      split at hread
      · cases hread
      · rename_i t' h'
        split at hread
        · cases hread; exact h'
        · cases hread
    refine ⟨true, bytesB (wrT mk tm 0), hsm, fun w' hb => (hpo w' hb).mono fun e w'' ⟨h1, h2⟩ => ⟨h1, hb.trans (h2.mono hb.size)⟩, fun w' hb => (hok w' hb).mono fun e w'' ⟨h1, h2⟩ => ⟨h1, hb.trans (h2.mono hb.size)⟩, (fun h => by cases h), fun _ w' hb => ?_⟩
    have Hw := H.below hb
    refine (pwrite_any M (hmv hb) hG hF9 h60 (by omega) Hw.db Hw.big).mono ?_
    rintro e w'' ⟨h1, h2⟩
    have hb2 := hb.trans (h2.mono hb.size)
    have H2 := H.below hb2
    refine ⟨h1, (rread_good H2.lib H2.env (setd_of M) M.dot (by rw [bytesB_size]; omega) hwh (fun B w v' hTv => ?_)).mono ?_⟩
    · obtain ⟨b3, hb3, hC3⟩ := patok_x M hTv hz
      have : b3 = true := hb3.2 ⟨hs, h60⟩
      rw [this] at hC3
      exact hC3 w (Below.refl _ _)
    · rintro e w3 ⟨q3, rfl, hb3, hT3⟩
      have hb13 := hb2.trans (hb3.mono hb2.size)
      exact ⟨q3, rfl, (tree_bothV (hmv hb13) hT3 hG).tail hb13⟩

end Go.Proofs.YtbjohedenfindaaGreatDoor
