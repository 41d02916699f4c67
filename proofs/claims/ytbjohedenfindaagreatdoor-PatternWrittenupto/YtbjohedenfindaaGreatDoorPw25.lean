/- Texts of the proof, put together: PWgh. -/
import Derived.Test.YtbjohedenfindaaGreatDoorPw18
namespace Go.Proofs.YtbjohedenfindaaGreatDoor
open Go.RowKit
set_option linter.unusedVariables false
set_option maxRecDepth 100000

/-- is a list of ranges canonical, from a point on? -/
def canonFrom : Int → List Rg → Bool
  | _, [] => true
  | least, r :: t => if r.1 < least ∨ r.2 < r.1 ∨ 1114111 < r.2 then false else canonFrom (r.2 + 2) t

set_option maxHeartbeats 1000000 in
theorem canonical_row (b off c : Nat) (l : List Rg) (w : World) (hl : l.length ≤ 10000000) (hb : b < w.heap.size) (hcan : canonFrom 0 l = true) (hc : ∀ j, j < l.length → w.cell? ⟨b, off + j * 2, none⟩ = some (.int .i64 (l.getD j (0, 0)).1) ∧ w.cell? ⟨b, off + j * 2 + 1, none⟩ = some (.int .i64 (l.getD j (0, 0)).2)) :
    Calls Tryz.prog 83 #[.slice (some ⟨b, off, none⟩) l.length c] w fun e w' => e = .returned (.bool true) ∧ Below w.heap.size w w' := by
  have HC : Hid (∀ j, j < l.length → w.cell? ⟨b, off + j * 2, none⟩ = some (.int .i64 (l.getD j (0, 0)).1) ∧ w.cell? ⟨b, off + j * 2 + 1, none⟩ = some (.int .i64 (l.getD j (0, 0)).2)) := hc
  have HK : Hid (canonFrom 0 l = true) := hcan
  clear hc hcan
  go_enter Tryz.func83, Tryz.ntmps83
  go_wp2
  go_loopw [3, 8] (fun lv kv wr => ∃ (k : Nat) (least : Int), k ≤ l.length ∧ kv = .int .i64 k ∧ lv = .int .i64 least ∧ 0 ≤ least ∧ least ≤ 1114113 ∧ canonFrom least (l.drop k) = true ∧ Below w.heap.size w wr) (fun _ kv _ => l.length - (intOf kv).toNat)
  case atStart => exact ⟨0, 0, Nat.zero_le _, rfl, rfl, by omega, by omega, HK.out, Below.refl _ _⟩
  case round =>
    obtain ⟨k, least, hk, rfl, rfl, hl0, hl1, hcan, hbw⟩ := hrel
    have HKr : Hid (canonFrom least (l.drop k) = true) := hcan
    clear hcan
    by_cases hlt : k < l.length
    · obtain ⟨h1, h2⟩ := HC.out k hlt
      have h1' := (hbw.cell (p := ⟨b, off + k * 2, none⟩) hb).trans h1
      have h2' := (hbw.cell (p := ⟨b, off + k * 2 + 1, none⟩) hb).trans h2
      have hd : l.drop k = l.getD k (0, 0) :: l.drop (k + 1) := by
        rw [List.drop_eq_getElem_cons hlt]
        simp [hlt]
      have hk2 := HKr.out
      rw [hd] at hk2
      generalize l.getD k (0, 0) = r at *
      unfold canonFrom at hk2
      split at hk2
      · simp at hk2
      · rename_i hno
        have g1 : ¬ r.1 < least := fun h => hno (Or.inl h)
        have g2 : ¬ r.2 < r.1 := fun h => hno (Or.inr (Or.inl h))
        have g3 : ¬ 1114111 < r.2 := fun h => hno (Or.inr (Or.inr h))
        have HK2 : Hid (canonFrom (r.2 + 2) (l.drop (k + 1)) = true) := hk2
        have hsz := hbw.size
        clear hno hk2 hd h1 h2
        go_wp2
        go_roundw
        case rel => exact ⟨k + 1, r.2 + 2, by omega, by go_num, rfl, by omega, by omega, HK2.out, hbw.alloc hsz _⟩
        case measure => simp [intOf]; omega
    · go_wp2
      go_ret
      exact ⟨rfl, hbw⟩

set_option maxHeartbeats 400000 in
theorem canonical_empty (a : Option Addr) (c : Nat) (w : World) : Calls Tryz.prog 83 #[.slice a 0 c] w fun e w' => e = .returned (.bool true) ∧ Below w.heap.size w w' := by
  go_enter Tryz.func83, Tryz.ntmps83
  go_wp2
  refine wp_loop_rounds 1 ?_
  rw [rounds_succ]
  go_wp2
  go_ret
  exact ⟨rfl, Below.refl _ _⟩

theorem canonical_any (v : Value) (l : List Rg) (w : World) (hl : l.length ≤ 10000000) (hv : Rngs w v l) (hcan : canonFrom 0 l = true) :
    Calls Tryz.prog 83 #[v] w fun e w' => e = .returned (.bool true) ∧ Below w.heap.size w w' := by
  rcases hv with ⟨rfl, a, c, rfl⟩ | ⟨b, off, c, rfl, hb, hc⟩
  · exact canonical_empty a c w
  · exact canonical_row b off c l w hl hb hcan hc

set_option maxHeartbeats 1000000 in
theorem wellCounted_any (a b : Int) (w : World) (h0 : 0 ≤ a) (h1 : a ≤ 50) (h2 : b = -1 ∨ (a ≤ b ∧ 1 ≤ b ∧ b ≤ 50)) :
    Calls Tryz.prog 84 #[.int .i64 a, .int .i64 b] w fun e w' => e = .returned (.bool true) ∧ w' = w := by
  rcases h2 with rfl | ⟨h3, h4, h5⟩
  · go_enter Tryz.func84, Tryz.ntmps84
    go_wp2
    go_ret
    exact ⟨rfl, rfl⟩
  · have hb : (b == -1) = false := by rw [beq_eq_false_iff_ne]; omega
    by_cases ha : a < 1
    · have ha0 : a = 0 := by omega
      subst ha0
      go_enter Tryz.func84, Tryz.ntmps84
      go_wp2
      go_ret
      exact ⟨rfl, rfl⟩
    · have ha1 : (1 : Int) ≤ a := by omega
      clear ha
      go_enter Tryz.func84, Tryz.ntmps84
      go_wp2
      go_ret
      exact ⟨rfl, rfl⟩

/-- a node as its kind asks -/
def NodeOk (t : Re) : Prop :=
  (t.kind = 1 ∧ t.kids = [] ∧ t.mn = 0 ∧ t.mx = 0 ∧ canonFrom 0 t.set = true ∧ t.set.length ≤ 10000000) ∨ (t.kind = 2 ∧ t.kids.length ≠ 1 ∧ t.kids.length ≤ 10000000 ∧ t.mn = 0 ∧ t.mx = 0 ∧ t.set = []) ∨ ((t.kind = 3 ∨ t.kind = 4) ∧ 2 ≤ t.kids.length ∧ t.kids.length ≤ 10000000 ∧ t.mn = 0 ∧ t.mx = 0 ∧ t.set = []) ∨
  (t.kind = 5 ∧ t.kids.length = 1 ∧ t.mn = 0 ∧ t.mx = 0 ∧ t.set = []) ∨ (t.kind = 6 ∧ t.kids.length = 1 ∧ 0 ≤ t.mn ∧ t.mn ≤ 50 ∧ (t.mx = -1 ∨ (t.mn ≤ t.mx ∧ 1 ≤ t.mx ∧ t.mx ≤ 50)) ∧ t.set = [])

/-- the cells of a node -/
def NodeAt (w : World) (b : Nat) (t : Re) (sv kv : Value) : Prop := w.heap[b]? = some (.cells #[.int .i64 t.kind, sv, .int .i64 t.mn, .int .i64 t.mx, kv] 48 (0, 0))
theorem NodeAt.cells {w : World} {b : Nat} {t : Re} {sv kv : Value} (h : NodeAt w b t sv kv) : w.cell? ⟨b, 0, none⟩ = some (.int .i64 t.kind) ∧ w.cell? ⟨b, 1, none⟩ = some sv ∧ w.cell? ⟨b, 2, none⟩ = some (.int .i64 t.mn) ∧ w.cell? ⟨b, 3, none⟩ = some (.int .i64 t.mx) ∧ w.cell? ⟨b, 4, none⟩ = some kv := by
  have h0 : w.heap[b]? = some (.cells #[.int .i64 t.kind, sv, .int .i64 t.mn, .int .i64 t.mx, kv] 48 (0, 0)) := h
  refine ⟨?_, ?_, ?_, ?_, ?_⟩ <;> simp [World.cell?, h0]

set_option maxHeartbeats 2000000 in
theorem wm_rep {w : World} {b : Nat} (mn mx : Int) (sa ka : Option Addr) (sc kc : Nat) (c0 : w.cell? ⟨b, 0, none⟩ = some (.int .i64 6)) (c1 : w.cell? ⟨b, 1, none⟩ = some (.slice sa 0 sc)) (c2 : w.cell? ⟨b, 2, none⟩ = some (.int .i64 mn)) (c3 : w.cell? ⟨b, 3, none⟩ = some (.int .i64 mx)) (c4 : w.cell? ⟨b, 4, none⟩ = some (.slice ka 1 kc))
    (HW : Hid (∀ w, Calls Tryz.prog 84 #[.int .i64 mn, .int .i64 mx] w fun e w' => e = .returned (.bool true) ∧ w' = w)) :
    Calls Tryz.prog 53 #[.pointer (some ⟨b, 0, none⟩)] w fun e w' => e = .returned (.bool true) ∧ Below w.heap.size w w' := by
  by_cases h0 : mn = 0
  · subst h0
    generalize hx : (mx == 0) = x
    have hx2 : Hid ((mx == 0) = x) := hx
    cases x
    all_goals
      go_enter Tryz.func53, Tryz.ntmps53
      go_wp2
      go_quiet ((go_at_call 84; exact Calls.quiet_of_same (HW.out _)))
      go_wp2
      go_ret
      exact ⟨rfl, ⟨rfl, rfl, rfl, Nat.le_refl _, fun _ _ => rfl⟩⟩
  · have h1 : (mn == 0) = false := by rw [beq_eq_false_iff_ne]; exact h0
    clear h0
    go_enter Tryz.func53, Tryz.ntmps53
    go_wp2
    go_quiet ((go_at_call 84; exact Calls.quiet_of_same (HW.out _)))
    go_wp2
    go_ret
    exact ⟨rfl, ⟨rfl, rfl, rfl, Nat.le_refl _, fun _ _ => rfl⟩⟩

set_option maxHeartbeats 2000000 in
theorem wellMade_any {w : World} {b : Nat} {t : Re} {sv : Value} {ka : Option Addr} {kc : Nat} (hn : NodeAt w b t sv (.slice ka t.kids.length kc)) (hset : Rngs w sv t.set) (hok : NodeOk t) :
    Calls Tryz.prog 53 #[.pointer (some ⟨b, 0, none⟩)] w fun e w' => e = .returned (.bool true) ∧ Below w.heap.size w w' := by
  obtain ⟨c0, c1, c2, c3, c4⟩ := hn.cells
  have HS : Hid (Rngs w sv t.set) := hset
  obtain ⟨sa, sc, rfl⟩ : ∃ a c, sv = .slice a t.set.length c := by
    rcases hset with ⟨h, a, c, rfl⟩ | ⟨b, off, c, rfl, _⟩
    · exact ⟨a, c, by rw [h]; rfl⟩
    · exact ⟨_, _, rfl⟩
  clear hn hset
  obtain ⟨kind, set, mn, mx, kids⟩ := t
  unfold NodeOk at hok
  simp only at *
  generalize hkl : kids.length = n at *
  have HKL : Hid (kids.length = n) := hkl
  rcases hok with ⟨rfl, rfl, rfl, rfl, hcan, hlen⟩ | ⟨rfl, h1, h2, rfl, rfl, rfl⟩ | ⟨hk, h1, h2, rfl, rfl, rfl⟩ | ⟨rfl, h1, rfl, rfl, rfl⟩ | ⟨rfl, h1, h2, h3, h4, rfl⟩
  · have hn0 : n = 0 := by rw [← hkl]; rfl
    subst hn0
    have HCn : Hid (Calls Tryz.prog 83 #[.slice sa set.length sc] w fun e w' => e = .returned (.bool true) ∧ Below w.heap.size w w') := canonical_any _ set w hlen HS.out hcan
    clear hcan hkl HKL HS
    go_enter Tryz.func53, Tryz.ntmps53
    go_wp2_with fail
    refine HCn.out.mono ?_
    rintro e w1 ⟨rfl, hb⟩
    go_wp2
    go_ret
    exact ⟨rfl, hb⟩
  · have hq : ((n : Int) != 1) = true := by rw [bne_iff_ne]; omega
    clear hkl HKL HS
    go_enter Tryz.func53, Tryz.ntmps53
    go_wp2
    go_ret
    exact ⟨rfl, Below.refl _ _⟩
  · have hq : (2 : Int) ≤ (n : Int) := by omega
    clear hkl HKL HS
    rcases hk with rfl | rfl
    all_goals
      go_enter Tryz.func53, Tryz.ntmps53
      go_wp2
      go_ret
      exact ⟨rfl, Below.refl _ _⟩
  · have hn1 : n = 1 := by omega
    subst hn1
    clear hkl HKL HS
    go_enter Tryz.func53, Tryz.ntmps53
    go_wp2
    go_ret
    exact ⟨rfl, Below.refl _ _⟩
  · have hn1 : n = 1 := by omega
    subst hn1
    have HW : Hid (∀ w, Calls Tryz.prog 84 #[.int .i64 mn, .int .i64 mx] w fun e w' => e = .returned (.bool true) ∧ w' = w) := fun w => wellCounted_any mn mx w h2 h3 h4
    exact wm_rep mn mx sa ka sc kc c0 c1 c2 c3 c4 HW

/-- the weight as the program reckons it, so many levels deep -/
def weighS : Nat → Re → Int
  | 0, _ => 61
  | n + 1, t => if (60 : Int) < (t.kids.map fun o => match o with | none => (61 : Int) | some k => weighS n k).sum then 61 else min (1 + (if t.kind = 6 then (t.kids.map fun o => match o with | none => (61 : Int) | some k => weighS n k).sum * max (max t.mn t.mx) 1 else (t.kids.map fun o => match o with | none => (61 : Int) | some k => weighS n k).sum)) 61
def AllOk : Nat → Re → Prop
  | 0, _ => True
  | n + 1, t => NodeOk t ∧ ∀ o, o ∈ t.kids → ∃ k, o = some k ∧ AllOk n k
def kidW (n : Nat) (o : Option Re) : Int := match o with
  | none => 61
  | some k => weighS n k
theorem weighS_bd : ∀ (n : Nat) (t : Re), 1 ≤ weighS n t ∧ weighS n t ≤ 61 := by
  intro n
  induction n with
  | zero => intro t; simp [weighS]
  | succ n ih =>
    intro t
    have hs : 0 ≤ (t.kids.map fun o => match o with | none => (61 : Int) | some k => weighS n k).sum := by
      have : ∀ (l : List (Option Re)), 0 ≤ (l.map fun o => match o with | none => (61 : Int) | some k => weighS n k).sum := by
        intro l
        induction l with
        | nil => simp
        | cons o l ihl =>
          rw [List.map_cons, List.sum_cons]
          cases o with
          | none => simp only; omega
          | some k => have := (ih k).1; simp only; omega
      exact this _
    unfold weighS
    generalize (t.kids.map fun o => match o with | none => (61 : Int) | some k => weighS n k).sum = z at *
    split
    · omega
    · split
      · have h1 : 0 ≤ z * max (max t.mn t.mx) 1 := Int.mul_nonneg hs (by omega)
        omega
      · omega

def kidSum (n : Nat) (l : List (Option Re)) : Int := (l.map (kidW n)).sum
theorem kidW_bd (n : Nat) (o : Option Re) : 1 ≤ kidW n o ∧ kidW n o ≤ 61 := by
  cases o with
  | none => simp [kidW]
  | some k => exact weighS_bd n k
theorem kidSum_bd (n : Nat) : ∀ (l : List (Option Re)), 0 ≤ kidSum n l
  | [] => by simp [kidSum]
  | o :: l => by
    have h1 := kidSum_bd n l
    have h2 := kidW_bd n o
    unfold kidSum at *
    rw [List.map_cons, List.sum_cons]
    omega
theorem kidSum_append (n : Nat) (a b : List (Option Re)) : kidSum n (a ++ b) = kidSum n a + kidSum n b := by
  unfold kidSum; rw [List.map_append, List.sum_append]
theorem kidSum_take (n : Nat) (l : List (Option Re)) (k : Nat) (h : k < l.length) : kidSum n (l.take (k + 1)) = kidSum n (l.take k) + kidW n (l.getD k none) := by
  rw [List.take_succ_eq_append_getElem h, kidSum_append]
  have : l.getD k none = l[k] := by simp [h]
  rw [this]
  simp [kidSum]
theorem kidSum_le (n : Nat) (l : List (Option Re)) (k : Nat) : kidSum n (l.take k) ≤ kidSum n l := by
  have := kidSum_append n (l.take k) (l.drop k)
  rw [List.take_append_drop] at this
  have := kidSum_bd n (l.drop k)
  omega
theorem weighS_eq (n : Nat) (t : Re) : weighS (n + 1) t = if 60 < kidSum n t.kids then 61 else min (1 + (if t.kind = 6 then kidSum n t.kids * max (max t.mn t.mx) 1 else kidSum n t.kids)) 61 := rfl

def WeighC (n : Nat) : Prop := ∀ (ok : Nat → Prop) (m : Nat) (w : World) (v : Value) (t : Re) (wi : Int), wi = 31 - (n : Int) → IsRe ok m w v t → AllOk n t →
    Calls Tryz.prog 27 #[v, .int .i64 wi] w fun e w' => e = .returned (.int .i64 (weighS n t)) ∧ Below w.heap.size w w'

set_option maxHeartbeats 1000000 in
theorem weigh_zero : WeighC 0 := by
  intro ok m w v t wi hwi hT _
  obtain ⟨b, rfl, _⟩ := (show Tree ok w v t from ⟨m, hT⟩).ptr
  have hwi' : wi = 31 := by omega
  subst hwi'
  clear hT hwi
  go_enter Tryz.func27, Tryz.ntmps27
  go_wp2
  go_ret
  exact ⟨rfl, Below.refl _ _⟩

theorem below_drew' {B : Nat} {a w : World} (h : Below B a w) (n : Nat) : Below B a (w.drewN n) := ⟨h.os, h.tape, h.output, h.size, h.block⟩

set_option maxHeartbeats 4000000 in
theorem weigh_node (n : Nat) (hn : n ≤ 30) (ih : WeighC n) {ok : Nat → Prop} {m b : Nat} {w : World} {sv kv : Value} {t : Re} (hNode : NodeAt w b t sv kv) (hset : Rngs w sv t.set) (hkids : KidsR (fun u o => match o with | none => u = .pointer none | some k => IsRe ok m w u k) ok w kv t.kids) (hok : NodeOk t) (hall : ∀ o, o ∈ t.kids → ∃ k, o = some k ∧ AllOk n k) :
    Calls Tryz.prog 27 #[.pointer (some ⟨b, 0, none⟩), .int .i64 (30 - (n : Int))] w fun e w' => e = .returned (.int .i64 (weighS (n + 1) t)) ∧ Below w.heap.size w w' := by
  have hb := (Array.getElem?_eq_some_iff.1 hNode).1
  obtain ⟨ka, kc, rfl⟩ : ∃ a c, kv = .slice a t.kids.length c := by
    rcases hkids with ⟨h, a, c, rfl⟩ | ⟨g, off, c, rfl, _⟩
    · exact ⟨a, c, by rw [h]; rfl⟩
    · exact ⟨_, _, rfl⟩
  have HWM : Hid (Calls Tryz.prog 53 #[.pointer (some ⟨b, 0, none⟩)] w fun e w' => e = .returned (.bool true) ∧ Below w.heap.size w w') := wellMade_any hNode hset hok
  have hlen : t.kids.length ≤ 10000000 := by
    rcases hok with ⟨_, h, _⟩ | ⟨_, _, h, _⟩ | ⟨_, _, h, _⟩ | ⟨_, h, _⟩ | ⟨_, h, _⟩
    · rw [h]; simp
    · exact h
    · exact h
    · omega
    · omega
  have hmm : Hid (t.kind = 6 → 0 ≤ t.mn ∧ t.mn ≤ 50 ∧ (t.mx = -1 ∨ (t.mn ≤ t.mx ∧ 1 ≤ t.mx ∧ t.mx ≤ 50))) := fun h6 => by
    rcases hok with ⟨h, _⟩ | ⟨h, _⟩ | ⟨h, _⟩ | ⟨h, _⟩ | ⟨_, _, h1, h2, h3, _⟩
    · omega
    · omega
    · omega
    · omega
    · exact ⟨h1, h2, h3⟩
  have HN : Hid (NodeAt w b t sv (.slice ka t.kids.length kc)) := hNode
  have HK : Hid (∀ j, j < t.kids.length → ∃ g off k u, ka = some ⟨g, off, none⟩ ∧ g < w.heap.size ∧ w.cell? ⟨g, off + j, none⟩ = some u ∧ t.kids.getD j none = some k ∧ AllOk n k ∧ IsRe ok m w u k) := fun j hj => by
    rcases hkids with ⟨h, _⟩ | ⟨g, off, c, e, hg, _, hc⟩
    · rw [h] at hj; simp at hj
    · cases e
      obtain ⟨u, hu, hp⟩ := hc j hj
      obtain ⟨k, hk, ha⟩ := hall (t.kids.getD j none) (by rw [List.getD_eq_getElem?_getD, List.getElem?_eq_getElem hj]; exact List.getElem_mem hj)
      rw [hk] at hp
      exact ⟨g, off, k, u, rfl, hg, hu, hk, ha, hp⟩
  have HW : Hid (weighS (n + 1) t = if 60 < kidSum n t.kids then 61 else min (1 + (if t.kind = 6 then kidSum n t.kids * max (max t.mn t.mx) 1 else kidSum n t.kids)) 61) := weighS_eq n t
  generalize weighS (n + 1) t = res at *
  have h30 : ¬ (30 : Int) < 30 - (n : Int) := by omega
  clear hNode hset hkids hok hall
  go_enter Tryz.func27, Tryz.ntmps27
  go_wp2_with fail
  refine HWM.out.mono ?_
  rintro e w1 ⟨rfl, hb1⟩
  have c4 := (hb1.cell (p := ⟨b, 4, none⟩) hb).trans HN.out.cells.2.2.2.2
  go_wp2
  go_loopw [5, 24] (fun sv kv wr => ∃ k : Nat, k ≤ t.kids.length ∧ kv = .int .i64 k ∧ sv = .int .i64 (kidSum n (t.kids.take k)) ∧ kidSum n (t.kids.take k) ≤ 60 ∧ Below w.heap.size w wr) (fun _ kv _ => t.kids.length - (intOf kv).toNat)
  case atStart => exact ⟨0, Nat.zero_le _, rfl, rfl, by simp [kidSum], hb1⟩
  case round =>
    obtain ⟨k, hk, rfl, rfl, hs60, hbw⟩ := hrel
    have hs0 := kidSum_bd n (t.kids.take k)
    clear c4
    by_cases hlt : k < t.kids.length
    · obtain ⟨g, off, kk, u, rfl, hg, hu, hkk, hall, hIs⟩ := HK.out k hlt
      have hst := kidSum_take n t.kids k hlt
      rw [hkk] at hst
      have hu' := (hbw.cell (p := ⟨g, off + k, none⟩) hg).trans hu
      have hIs' : IsRe ok m wr u kk := hIs.moved hbw.size fun b hb hok => ⟨hok, hbw.block b hb⟩
      have hwb := weighS_bd n kk
      have HC : Hid (Calls Tryz.prog 27 #[u, .int .i64 (30 - (n : Int) + 1)] wr fun e w' => e = .returned (.int .i64 (weighS n kk)) ∧ Below wr.heap.size wr w') := ih ok m wr u kk _ (by omega) hIs' hall
      have hst' : kidSum n (t.kids.take (k + 1)) = kidSum n (t.kids.take k) + weighS n kk := hst
      have HST : Hid (kidSum n (t.kids.take (k + 1)) = kidSum n (t.kids.take k) + weighS n kk) := hst'
      obtain ⟨ub, rfl, _⟩ := (show Tree ok w u kk from ⟨m, hIs⟩).ptr
      generalize kidSum n (t.kids.take k) = z at *
      generalize weighS n kk = y at *
      clear hst hst' hu hIs hIs' hall hkk
      go_wp2_with fail
      refine HC.out.mono ?_
      rintro e w2 ⟨rfl, hb2⟩
      have hbw2 := hbw.trans (hb2.mono hbw.size)
      by_cases hbig : 60 < z + y
      · go_wp2
        go_ret
        refine ⟨?_, hbw2⟩
        have h1 : 60 < kidSum n t.kids := by have := kidSum_le n t.kids (k + 1); have := HST.out; omega
        rw [HW.out, if_pos h1]
        rfl
      · go_wp2
        go_roundw
        case rel => exact ⟨k + 1, by omega, by go_num, by rw [HST.out], by rw [HST.out]; omega, hbw2⟩
        case measure => simp [intOf]; omega
    · have htk : t.kids.take k = t.kids := List.take_of_length_le (by omega)
      rw [htk] at hs60 hs0 ⊢
      generalize kidSum n t.kids = z at *
      obtain ⟨d0, _, d2, d3, _⟩ := HN.out.cells
      have k0 := (hbw.cell (p := ⟨b, 0, none⟩) hb).trans d0
      have k2 := (hbw.cell (p := ⟨b, 2, none⟩) hb).trans d2
      have k3 := (hbw.cell (p := ⟨b, 3, none⟩) hb).trans d3
      clear htk d0 d2 d3
      have hmm2 := hmm.out
      generalize t.kind = kind at *
      generalize t.mn = mn at *
      generalize t.mx = mx at *
      have hz : ¬ (60 : Int) < z := by omega
      by_cases h6 : kind = 6
      · subst h6
        obtain ⟨m0, m1, m2⟩ := hmm2 rfl
        clear hmm2 hmm
        have HR : Hid (res = min (1 + z * max (max mn mx) 1) 61) := by show _ = _; rw [HW.out, if_neg hz, if_pos rfl]
        clear HW
        rcases m2 with rfl | ⟨m3, m4, m5⟩
        · by_cases hm1 : mn < 1
          · have hmn0 : mn = 0 := by omega
            subst hmn0
            have HR2 : Hid (res = 1 + z) := by show _ = _; rw [HR.out]; rw [show max (max (0 : Int) (-1)) 1 = 1 by decide]; omega
            have hle : 1 + z ≤ 61 := by omega
            have HM : Hid (min (1 + z) 61 = 1 + z) := by show _ = _; omega
            go_wp2
            go_quiet (fail)
            go_wp2
            go_ret
            exact ⟨by rw [HR2.out]; first | rfl | (show Ending.returned (Value.int .i64 (min (1 + z) 61)) = _; rw [HM.out]), below_drew' hbw _⟩
          · have hm2 : (1 : Int) ≤ mn := by omega
            clear hm1
            have hp0 : 0 ≤ z * mn := Int.mul_nonneg hs0 (by omega)
            have hp1 : z * mn ≤ 60 * 50 := Int.mul_le_mul hs60 (by omega) (by omega) (by omega)
            have hwr : IntKind.i64.wrap (z * mn) = z * mn := wrap_id _ (by omega) (by omega)
            have hwr2 : wrap64 (z * mn) = z * mn := by unfold wrap64; omega
            have HR2 : Hid (res = min (1 + z * mn) 61) := by show _ = _; rw [HR.out]; rw [show max (max mn (-1)) 1 = mn by omega]
            go_wp2
            go_quiet (fail)
            generalize z * mn = p at *
            clear hwr hwr2
            by_cases hle : 1 + p ≤ 61
            · go_wp2
              go_ret
              exact ⟨by rw [HR2.out, show min (1 + p) 61 = 1 + p by omega]; rfl, below_drew' hbw _⟩
            · have hgt : 61 < 1 + p := by omega
              clear hle
              go_wp2
              go_ret
              exact ⟨by rw [HR2.out, show min (1 + p) 61 = 61 by omega]; rfl, below_drew' hbw _⟩
        · by_cases heq : mn = mx
          · subst heq
            have hp0 : 0 ≤ z * mn := Int.mul_nonneg hs0 (by omega)
            have hp1 : z * mn ≤ 60 * 50 := Int.mul_le_mul hs60 (by omega) (by omega) (by omega)
            have hwr : IntKind.i64.wrap (z * mn) = z * mn := wrap_id _ (by omega) (by omega)
            have hwr2 : wrap64 (z * mn) = z * mn := by unfold wrap64; omega
            have HR2 : Hid (res = min (1 + z * mn) 61) := by show _ = _; rw [HR.out]; rw [show max (max mn mn) 1 = mn by omega]
            go_wp2
            go_quiet (fail)
            generalize z * mn = p at *
            clear hwr hwr2
            by_cases hle : 1 + p ≤ 61
            · go_wp2
              go_ret
              exact ⟨by rw [HR2.out, show min (1 + p) 61 = 1 + p by omega]; rfl, below_drew' hbw _⟩
            · have hgt : 61 < 1 + p := by omega
              clear hle
              go_wp2
              go_ret
              exact ⟨by rw [HR2.out, show min (1 + p) 61 = 61 by omega]; rfl, below_drew' hbw _⟩
          · have hltm : mn < mx := by omega
            have hnb : (mn == mx) = false := by rw [beq_eq_false_iff_ne]; exact heq
            clear heq m3
            have hp0 : 0 ≤ z * mx := Int.mul_nonneg hs0 (by omega)
            have hp1 : z * mx ≤ 60 * 50 := Int.mul_le_mul hs60 (by omega) (by omega) (by omega)
            have hwr : IntKind.i64.wrap (z * mx) = z * mx := wrap_id _ (by omega) (by omega)
            have hwr2 : wrap64 (z * mx) = z * mx := by unfold wrap64; omega
            have HR2 : Hid (res = min (1 + z * mx) 61) := by show _ = _; rw [HR.out]; rw [show max (max mn mx) 1 = mx by omega]
            go_wp2
            go_quiet (fail)
            generalize z * mx = p at *
            clear hwr hwr2
            by_cases hle : 1 + p ≤ 61
            · go_wp2
              go_ret
              exact ⟨by rw [HR2.out, show min (1 + p) 61 = 1 + p by omega]; rfl, below_drew' hbw _⟩
            · have hgt : 61 < 1 + p := by omega
              clear hle
              go_wp2
              go_ret
              exact ⟨by rw [HR2.out, show min (1 + p) 61 = 61 by omega]; rfl, below_drew' hbw _⟩
      · have hk6 : (kind == 6) = false := by rw [beq_eq_false_iff_ne]; exact h6
        have HR : Hid (res = 1 + z) := by show _ = _; rw [HW.out, if_neg hz, if_neg h6]; omega
        have hle : 1 + z ≤ 61 := by omega
        have HM : Hid (min (1 + z) 61 = 1 + z) := by show _ = _; omega
        clear h6 hmm hmm2 HW
        go_wp2
        go_ret
        exact ⟨by rw [HR.out]; first | rfl | (show Ending.returned (Value.int .i64 (min (1 + z) 61)) = _; rw [HM.out]), hbw⟩

end Go.Proofs.YtbjohedenfindaaGreatDoor
