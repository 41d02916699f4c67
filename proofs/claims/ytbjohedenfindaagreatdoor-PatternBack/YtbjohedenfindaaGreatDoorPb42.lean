/- Texts of the proof, put together: WWr, WSam, WByt, WFix, PRec, LPar. -/
import Derived.Test.YtbjohedenfindaaGreatDoorPb41
import Derived.Test.YtbjohedenfindaaGreatDoorPb25
import Derived.Test.YtbjohedenfindaaGreatDoorPb06
import Derived.Test.YtbjohedenfindaaGreatDoorPb08
import Derived.Defers
import Derived.Recover
import Derived.Test.YtbjohedenfindaaGreatDoorPb01
import Derived.Lib.Strings
import Derived.Lib.Walk
import Derived.Lib.ConvBytes
import Derived.Lib.AtoiErrMem
import Derived.Lib.Hide
import Derived.Laws.Strings3
import Derived.Laws.Closers25
import Derived.Laws.Closers25b
import Derived.WalkKit
import Derived.BigCall
import Derived.BigGuard
namespace Go.Proofs.YtbjohedenfindaaGreatDoor
open Go.RowKit
open Go.Maps (Keyed)
set_option linter.unusedVariables false
set_option maxRecDepth 100000

variable {mk : List Rg → Bool → List Rg}

set_option maxHeartbeats 4000000 in
theorem pwrite_any (MK : MkOk mk) {ok : Nat → Prop} {w : World} {v : Value} {t : Tm} (hT : Tree ok w v (reOf t)) (hG : GoodT (reOf t)) (hF : FewT 9000 (reOf t)) (hw : weighS 31 (reOf t) ≤ 60) (hlen : (wrT mk t 0).length ≤ 65536) (hdb : w.cell? ⟨13, 15, none⟩ = some (.int .u8 4)) (hbig : 16 ≤ w.heap.size) :
    Calls Tryz.prog 15 #[v] w fun e w' => e = .returned (.tuple #[.string (bytesB (wrT mk t 0)), .nilIface]) ∧ Below w.heap.size w w' := by
  have hok := pok_any hT (hG 31)
  rw [show decide (weighS 31 (reOf t) ≤ 60) = true by simp [hw]] at hok
  have HOk : Hid (Calls Tryz.prog 14 #[v] w fun e w' => e = .returned (.bool true) ∧ Below w.heap.size w w') := hok
  have HNew : Hid (∀ w', Calls Tryz.prog 28 #[] w' fun e w'' => e = .returned (.pointer (some ⟨w'.heap.size + 1, 0, none⟩)) ∧ w''.heap[w'.heap.size + 1]? = some (.cells #[.pointer none, .slice none 0 0, .map (some w'.heap.size)] 73 (0, 0)) ∧ SgnMap w'' w'.heap.size ∧ Below w'.heap.size w' w'') := newWriter_any
  have HP : Hid (∀ w1 w2, Below w.heap.size w w1 → w2.heap[w1.heap.size + 1]? = some (.cells #[.pointer none, .slice none 0 0, .map (some w1.heap.size)] 73 (0, 0)) → SgnMap w2 w1.heap.size → Below w1.heap.size w1 w2 → Calls Tryz.prog 29 #[.pointer (some ⟨w1.heap.size + 1, 0, none⟩), v, .int .i64 0] w2 fun e w3 => e = .returned (.tuple #[]) ∧ PW w1 (w1.heap.size + 1) w1.heap.size (wrT mk t 0) w3) := fun w1 w2 h1 h2 h3 h4 => by
    obtain ⟨m, hm⟩ := hT
    have hm1 : IsRe ok m w1 v (reOf t) := IsRe.moved h1.size (fun b hb hk => ⟨hk, h1.block b hb⟩) m hm
    have hPW : PW w1 (w1.heap.size + 1) w1.heap.size [] w2 := ⟨bld_new (by omega) tk_writer h2, h4, h3, by omega, (h1.cell (p := ⟨13, 15, none⟩) (by show 13 < _; omega)).trans hdb, Nat.le_trans hbig h1.size⟩
    exact put_all MK m t v 0 hm1 hG hF (by omega) [] w2 hPW (by simpa using hlen)
  obtain ⟨q, rfl, _⟩ := hT.ptr
  clear hok hT hdb
  generalize wrT mk t 0 = T at *
  go_enter Tryz.func15, Tryz.ntmps15
  go_wp2_with fail
  go_at_call 14
  refine HOk.out.mono ?_
  rintro e w1 ⟨rfl, hb1⟩
  go_wp2_with fail
  go_at_call 28
  refine (HNew.out _).mono ?_
  rintro e w2 ⟨rfl, h2, h3, h4⟩
  have HP1 := HP.out w1 w2 hb1 h2 h3 h4
  have HP2 : Hid (Calls Tryz.prog 29 #[.pointer (some ⟨w1.heap.size + 1, 0, none⟩), .pointer (some ⟨q, 0, none⟩), .int .i64 0] w2 fun e w3 => e = .returned (.tuple #[]) ∧ PW w1 (w1.heap.size + 1) w1.heap.size T w3) := HP1
  clear HP1 h2 h3 h4 HP HOk HNew
  go_wp2_with fail
  go_at_call 29
  refine HP2.out.mono ?_
  rintro e w3 ⟨rfl, hP3⟩
  have HP3 : Hid (PW w1 (w1.heap.size + 1) w1.heap.size T w3) := hP3
  have HS : Hid (Calls Tryz.prog 31 #[.pointer (some ⟨w1.heap.size + 1, 0, none⟩)] w3 fun e w' => e = .returned (.string (bytesB T)) ∧ Below w1.heap.size w3 w') := bstr_any _ hP3.bld hP3.bel.size
  have HL : Hid (Calls Tryz.prog 30 #[.pointer (some ⟨w1.heap.size + 1, 0, none⟩)] w3 fun e w' => e = .returned (.int .i64 T.length) ∧ w' = w3) := hP3.len
  clear hP3 HP2
  go_wp2_with fail
  go_at_call 30
  refine HL.out.mono ?_
  rintro e w4 ⟨rfl, rfl⟩
  go_wp2_with fail
  go_at_call 31
  refine HS.out.mono ?_
  rintro e w5 ⟨rfl, hb5⟩
  have hfin : Below w.heap.size w w5 := hb1.trans ((HP3.out.bel.trans hb5).mono hb1.size)
  clear HS HL HP3 hb5
  go_wp2
  go_ret2
  exact ⟨rfl, hfin⟩
end Go.Proofs.YtbjohedenfindaaGreatDoor

namespace Go.Proofs.YtbjohedenfindaaGreatDoor
open Go.RowKit
set_option linter.unusedVariables false
set_option maxRecDepth 100000

/-- two trees of one pattern, and what is known of the trees below them -/
def SamC (W0 : World) (v v' : Value) : Prop := ∀ w, Below W0.heap.size W0 w → Calls Tryz.prog 10 #[v, v'] w fun e w' => e = .returned (.bool true) ∧ Below W0.heap.size W0 w'

set_option maxHeartbeats 4000000 in
theorem same_node {W0 w : World} {q q' n : Nat} {k mn mx : Int} {sv sv' : Value} {ka ka' : Option Addr} {kc kc' : Nat} {s : List Rg} (hw : Below W0.heap.size W0 w) (hN : NodeC W0 q k sv mn mx (.slice ka n kc)) (hN' : NodeC W0 q' k sv' mn mx (.slice ka' n kc')) (hn : n ≤ 10000000) (hs : s.length ≤ 1000000) (h1 : Rngs W0 sv s) (h2 : Rngs W0 sv' s)
    (hk : ∀ j, j < n → ∃ g off g' off' u u', ka = some ⟨g, off, none⟩ ∧ ka' = some ⟨g', off', none⟩ ∧ g < W0.heap.size ∧ g' < W0.heap.size ∧ W0.cell? ⟨g, off + j, none⟩ = some u ∧ W0.cell? ⟨g', off' + j, none⟩ = some u' ∧ SamC W0 u u') :
    Calls Tryz.prog 10 #[.pointer (some ⟨q, 0, none⟩), .pointer (some ⟨q', 0, none⟩)] w fun e w' => e = .returned (.bool true) ∧ Below W0.heap.size W0 w' := by
  obtain ⟨sa, sc, rfl⟩ := rngs_slice h1
  obtain ⟨sa', sc', rfl⟩ := rngs_slice h2
  have HS : Hid (∀ w', Below W0.heap.size W0 w' → Calls Tryz.prog 24 #[.slice sa s.length sc, .slice sa' s.length sc'] w' fun e w'' => e = .returned (.bool true) ∧ Below W0.heap.size W0 w'') := fun w' h => by
    refine (sameset_any _ _ s w' hs (h1.below h) (h2.below h)).mono ?_
    rintro e w'' ⟨rfl, m, rfl⟩
    exact ⟨rfl, below_drew' h m⟩
  have HC : Hid (∀ w', Below W0.heap.size W0 w' → (w'.cell? ⟨q, 0, none⟩ = some (.int .i64 k) ∧ w'.cell? ⟨q, 1, none⟩ = some (.slice sa s.length sc) ∧ w'.cell? ⟨q, 2, none⟩ = some (.int .i64 mn) ∧ w'.cell? ⟨q, 3, none⟩ = some (.int .i64 mx) ∧ w'.cell? ⟨q, 4, none⟩ = some (.slice ka n kc)) ∧ (w'.cell? ⟨q', 0, none⟩ = some (.int .i64 k) ∧ w'.cell? ⟨q', 1, none⟩ = some (.slice sa' s.length sc') ∧ w'.cell? ⟨q', 2, none⟩ = some (.int .i64 mn) ∧ w'.cell? ⟨q', 3, none⟩ = some (.int .i64 mx) ∧ w'.cell? ⟨q', 4, none⟩ = some (.slice ka' n kc'))) := fun w' h => by
    obtain ⟨a0, a1, a2, a3, a4, a5⟩ := hN
    obtain ⟨b0, b1, b2, b3, b4, b5⟩ := hN'
    exact ⟨⟨(h.cell (p := ⟨q, 0, none⟩) a0).trans a1, (h.cell (p := ⟨q, 1, none⟩) a0).trans a2, (h.cell (p := ⟨q, 2, none⟩) a0).trans a3, (h.cell (p := ⟨q, 3, none⟩) a0).trans a4, (h.cell (p := ⟨q, 4, none⟩) a0).trans a5⟩, (h.cell (p := ⟨q', 0, none⟩) b0).trans b1, (h.cell (p := ⟨q', 1, none⟩) b0).trans b2, (h.cell (p := ⟨q', 2, none⟩) b0).trans b3, (h.cell (p := ⟨q', 3, none⟩) b0).trans b4, (h.cell (p := ⟨q', 4, none⟩) b0).trans b5⟩
  have HK : Hid (∀ j, j < n → ∃ g off g' off' u u', ka = some ⟨g, off, none⟩ ∧ ka' = some ⟨g', off', none⟩ ∧ g < W0.heap.size ∧ g' < W0.heap.size ∧ W0.cell? ⟨g, off + j, none⟩ = some u ∧ W0.cell? ⟨g', off' + j, none⟩ = some u' ∧ SamC W0 u u') := hk
  clear hN hN' h1 h2 hk hs
  obtain ⟨⟨c0, c1, c2, c3, c4⟩, d0, d1, d2, d3, d4⟩ := HC.out w hw
  generalize s.length = sn at *
  go_enter Tryz.func10, Tryz.ntmps10
  go_wp2_with fail
  go_region_held3 (fun w' => w'.cell? ⟨q, 1, none⟩ = some (.slice sa sn sc) ∧ w'.cell? ⟨q', 1, none⟩ = some (.slice sa' sn sc')) (go_keep) ((go_at_call 24; refine (HS.out _ ?_).mono ?_; exact below_drew1 hw; rintro e w1 ⟨rfl, hq1⟩; have f1 := HC.out w1 hq1; obtain ⟨⟨g0, g1, g2, g3, g4⟩, e0, e1, e2, e3, e4⟩ := f1))
  clear c0 c1 c2 c3 c4 d0 d1 d2 d3 d4 hw
  go_wp2_with fail
  go_region_held3 (fun w' => w'.cell? ⟨q, 0, none⟩ = some (.int .i64 k) ∧ w'.cell? ⟨q', 0, none⟩ = some (.int .i64 k) ∧ w'.cell? ⟨q, 2, none⟩ = some (.int .i64 mn) ∧ w'.cell? ⟨q', 2, none⟩ = some (.int .i64 mn) ∧ w'.cell? ⟨q, 3, none⟩ = some (.int .i64 mx) ∧ w'.cell? ⟨q', 3, none⟩ = some (.int .i64 mx) ∧ w'.cell? ⟨q, 4, none⟩ = some (.slice ka n kc) ∧ w'.cell? ⟨q', 4, none⟩ = some (.slice ka' n kc')) (go_keep) ((fail))
  have hq2 := below_drew1 hq1
  clear g0 g1 g2 g3 g4 e0 e1 e2 e3 e4 HS hq1
  generalize w1.drew = w2 at *
  go_wp2
  go_loopw [6] (fun jv wr => ∃ (j : Nat), j ≤ n ∧ jv = .int .i64 j ∧ Below W0.heap.size W0 wr) (fun jv _ => n - (intOf jv).toNat)
  case atStart => exact ⟨0, Nat.zero_le _, rfl, hq2⟩
  case round =>
    obtain ⟨j, hj, rfl, hbw⟩ := hrel
    obtain ⟨⟨_, _, _, _, c4⟩, _, _, _, _, d4⟩ := HC.out wr hbw
    by_cases hlt : j < n
    · obtain ⟨g, off, g', off', u, u', rfl, rfl, hg, hg', hu, hu', hS⟩ := HK.out j hlt
      have x1 := (hbw.cell (p := ⟨g, off + j, none⟩) hg).trans hu
      have x2 := (hbw.cell (p := ⟨g', off' + j, none⟩) hg').trans hu'
      have HSm : Hid (SamC W0 u u') := hS
      have HX : Hid (∀ w', Below W0.heap.size W0 w' → w'.cell? ⟨q, 4, none⟩ = some (.slice (some ⟨g, off, none⟩) n kc) ∧ w'.cell? ⟨q', 4, none⟩ = some (.slice (some ⟨g', off', none⟩) n kc') ∧ w'.cell? ⟨g, off + j, none⟩ = some u ∧ w'.cell? ⟨g', off' + j, none⟩ = some u') := fun w' h => ⟨(HC.out w' h).1.2.2.2.2, (HC.out w' h).2.2.2.2.2, (h.cell (p := ⟨g, off + j, none⟩) hg).trans hu, (h.cell (p := ⟨g', off' + j, none⟩) hg').trans hu'⟩
      clear hu hu' hS HK
      go_wp2_with fail
      go_region_held3 (fun w' => w'.cell? ⟨q, 4, none⟩ = some (.slice (some ⟨g, off, none⟩) n kc) ∧ w'.cell? ⟨q', 4, none⟩ = some (.slice (some ⟨g', off', none⟩) n kc') ∧ w'.cell? ⟨g, off + j, none⟩ = some u ∧ w'.cell? ⟨g', off' + j, none⟩ = some u') (go_keep) ((go_at_call 10; refine (HSm.out _ ?_).mono ?_; exact below_drew1 hbw; rintro e w4 ⟨rfl, hq4⟩; have y := HX.out w4 hq4; obtain ⟨y1, y2, y3, y4⟩ := y))
      all_goals
        clear c4 d4 x1 x2 y1 y2 y3 y4
        go_wp2
        go_roundw
        case rel => exact ⟨j + 1, by omega, by go_num, hq4⟩
        case measure => simp [intOf]; omega
    · go_wp2
      go_ret
      exact ⟨rfl, hbw⟩

theorem same_all {W0 : World} {ok ok' : Nat → Prop} : ∀ (m : Nat) (t : Tm) (v v' : Value), IsRe ok m W0 v (reOf t) → IsRe ok' m W0 v' (reOf t) → GoodT (reOf t) → SamC W0 v v'
  | 0, _, _, _, h, _, _ => h.elim
  | m + 1, t, v, v', h, h', hG => by
    have er : reOf t = ⟨t.kind, t.set, t.mn, t.mx, (t.kids.map reOf).map some⟩ := reOf_eq t
    have hno : NodeOk (reOf t) := (hG 1).1
    have hkG : ∀ x ∈ t.kids, GoodT (reOf x) := fun x hx => good_kid hG hx
    obtain ⟨q, sv, kv, rfl, hok, hnode, hset, hkids⟩ := h
    obtain ⟨q', sv', kv', rfl, hok', hnode', hset', hkids'⟩ := h'
    rw [er] at hno hnode hset hkids hnode' hset' hkids'
    simp only at hno hnode hset hkids hnode' hset' hkids'
    have hK := kidsAt_of hkids
    have hK' := kidsAt_of hkids'
    have hq : q < W0.heap.size := (Array.getElem?_eq_some_iff.1 hnode).1
    have hq' : q' < W0.heap.size := (Array.getElem?_eq_some_iff.1 hnode').1
    have hN : NodeC W0 q t.kind sv t.mn t.mx kv := ⟨hq, by simp [World.cell?, hnode], by simp [World.cell?, hnode], by simp [World.cell?, hnode], by simp [World.cell?, hnode], by simp [World.cell?, hnode]⟩
    have hN' : NodeC W0 q' t.kind sv' t.mn t.mx kv' := ⟨hq', by simp [World.cell?, hnode'], by simp [World.cell?, hnode'], by simp [World.cell?, hnode'], by simp [World.cell?, hnode'], by simp [World.cell?, hnode']⟩
    have hsl : t.set.length ≤ 1000000 := by
      unfold NodeOk at hno
      simp only at hno
      rcases hno with ⟨_, _, _, _, hc, _⟩ | ⟨_, _, _, _, _, h⟩ | ⟨_, _, _, _, _, h⟩ | ⟨_, _, _, _, h⟩ | ⟨_, _, _, _, _, h⟩
      · have := (canon_rng t.set 0 (by omega) hc).2; omega
      all_goals (rw [h]; simp)
    have hkl : t.kids.length ≤ 10000000 := by
      unfold NodeOk at hno
      simp only [List.length_map] at hno
      rcases hno with ⟨_, h, _⟩ | ⟨_, _, h, _⟩ | ⟨_, _, h, _⟩ | ⟨_, h, _⟩ | ⟨_, h, _⟩
      · have : t.kids = [] := by simpa using h
        rw [this]; simp
      all_goals omega
    have hs1 : ∃ a c, kv = .slice a t.kids.length c := by
      rcases hK with ⟨h, a, c, rfl⟩ | ⟨g, off, c, rfl, _⟩
      · exact ⟨a, c, by rw [h]; rfl⟩
      · exact ⟨_, c, rfl⟩
    have hs2 : ∃ a c, kv' = .slice a t.kids.length c := by
      rcases hK' with ⟨h, a, c, rfl⟩ | ⟨g, off, c, rfl, _⟩
      · exact ⟨a, c, by rw [h]; rfl⟩
      · exact ⟨_, c, rfl⟩
    obtain ⟨ka, kc, rfl⟩ := hs1
    obtain ⟨ka', kc', rfl⟩ := hs2
    intro w hw
    refine same_node hw hN hN' hkl hsl hset.rngs hset'.rngs fun j hj => ?_
    rcases hK with ⟨h, _⟩ | ⟨g, off, c, e1, hg, hk⟩
    · rw [h] at hj; simp at hj
    · rcases hK' with ⟨h, _⟩ | ⟨g', off', c', e2, hg', hk'⟩
      · rw [h] at hj; simp at hj
      · obtain ⟨u, hu, hr⟩ := hk j hj
        obtain ⟨u', hu', hr'⟩ := hk' j hj
        cases e1
        cases e2
        exact ⟨g, off, g', off', u, u', rfl, rfl, hg, hg', hu, hu', same_all m _ u u' hr hr' (hkG _ (List.getElem_mem hj))⟩
end Go.Proofs.YtbjohedenfindaaGreatDoor

namespace Go.Proofs.YtbjohedenfindaaGreatDoor
set_option linter.unusedVariables false
set_option linter.unusedSimpArgs false

variable {mk : List Rg → Bool → List Rg}
def Byt (l : List Nat) : Prop := ∀ x ∈ l, x < 256
theorem Byt.app {a b : List Nat} (ha : Byt a) (hb : Byt b) : Byt (a ++ b) := fun x hx => by
  rcases List.mem_append.1 hx with h | h
  · exact ha x h
  · exact hb x h
theorem Byt.cons {a : Nat} {l : List Nat} (ha : a < 256) (hl : Byt l) : Byt (a :: l) := fun x hx => by
  rcases List.mem_cons.1 hx with rfl | h
  · exact ha
  · exact hl x h
theorem Byt.nil : Byt [] := fun x hx => by simp at hx
theorem Byt.flat {ls : List (List Nat)} (h : ∀ l ∈ ls, Byt l) : Byt ls.flatten := fun x hx => by
  obtain ⟨l, hl, hx⟩ := List.mem_flatten.1 hx
  exact h l hl x hx
theorem pt_bytes (sg : Int → Bool) (c : Nat) : Byt (ptB sg c) := by
  unfold ptB
  split
  · rename_i h1
    simp only [Bool.and_eq_true, decide_eq_true_eq, Bool.not_eq_true'] at h1
    have h2 := h1.1.1
    simp only [plainB, Bool.or_eq_true, Bool.and_eq_true, decide_eq_true_eq] at h2
    unfold encB
    split
    · exact Byt.cons (by omega) Byt.nil
    · exact Byt.cons (by omega) (Byt.cons (by omega) Byt.nil)
  · cases hs : signOf c with
    | some b => exact Byt.cons (by omega) (Byt.cons (by have := (sign_esc hs).2; omega) Byt.nil)
    | none => exact Byt.app (Byt.app (Byt.cons (by omega) (Byt.cons (by omega) (Byt.cons (by omega) Byt.nil))) (fun x hx => by have := hexB_lt _ _ x hx; omega)) (Byt.cons (by omega) Byt.nil)
theorem items_bytes (l : List Rg) : Byt (itemsB l) := by
  unfold itemsB
  rw [List.flatMap_def]
  refine Byt.flat fun x hx => ?_
  obtain ⟨r, _, rfl⟩ := List.mem_map.1 hx
  unfold itemB
  refine Byt.app (pt_bytes _ _) (Byt.app ?_ ?_)
  · split
    · exact Byt.cons (by omega) Byt.nil
    · exact Byt.nil
  · split
    · exact pt_bytes _ _
    · exact Byt.nil
theorem set_bytes (l : List Rg) : Byt (setB mk l) := by
  unfold setB
  split
  · exact pt_bytes _ _
  · split
    · exact Byt.cons (by omega) Byt.nil
    · split
      · exact Byt.cons (by omega) (Byt.cons (by omega) (Byt.app (items_bytes _) (Byt.cons (by omega) Byt.nil)))
      · exact Byt.cons (by omega) (Byt.app (items_bytes _) (Byt.cons (by omega) Byt.nil))
theorem dec_bytes (n : Nat) (h : n ≤ 50) : Byt (decB n) := by
  unfold decB
  split
  · exact Byt.cons (by omega) Byt.nil
  · exact Byt.cons (by omega) (Byt.cons (by omega) Byt.nil)
theorem times_bytes (a b : Int) (ha : a ≤ 50) (hb : b ≤ 50) : Byt (timesB a b) := by
  have d1 := dec_bytes a.toNat (by omega)
  have d2 := dec_bytes b.toNat (by omega)
  unfold timesB
  split
  · exact Byt.cons (by omega) Byt.nil
  · split
    · exact Byt.cons (by omega) Byt.nil
    · split
      · exact Byt.cons (by omega) Byt.nil
      · split
        · exact Byt.cons (by omega) (Byt.app d1 (Byt.cons (by omega) (Byt.cons (by omega) Byt.nil)))
        · split
          · exact Byt.cons (by omega) (Byt.app d1 (Byt.cons (by omega) Byt.nil))
          · exact Byt.cons (by omega) (Byt.app d1 (Byt.cons (by omega) (Byt.app d2 (Byt.cons (by omega) Byt.nil))))
theorem join_bytes (c : Nat) (hc : c < 256) (ts : List (List Nat)) (h : ∀ l ∈ ts, Byt l) : Byt (joinB c ts) := by
  cases ts with
  | nil => exact Byt.nil
  | cons x t =>
    refine Byt.app (h x (by simp)) (Byt.flat fun l hl => ?_)
    obtain ⟨y, hy, rfl⟩ := List.mem_map.1 hl
    exact Byt.cons hc (h y (by simp [hy]))
theorem wrap_bytes (o p : Nat) {l : List Nat} (h : Byt l) : Byt (wrapB o p l) := by
  unfold wrapB
  split
  · exact Byt.cons (by omega) (Byt.app h (Byt.cons (by omega) Byt.nil))
  · exact h
theorem wr_bytes : ∀ (n : Nat) (t : Tm), hT t ≤ n → GoodT (reOf t) → ∀ pl, Byt (wrT mk t pl)
  | 0, t, h, _, _ => by rw [hT_eq] at h; omega
  | n + 1, t, h, hG, pl => by
    have hno : NodeOk (reOf t) := (hG 1).1
    rw [reOf_eq] at hno
    have ih : ∀ x ∈ t.kids, ∀ pl, Byt (wrT mk x pl) := fun x hx pl => wr_bytes n x (by have := hT_kid hx; omega) (good_kid hG hx) pl
    have ihl : ∀ pl, ∀ l ∈ ((t.kids.map (wrT mk)).map fun w => w pl), Byt l := fun pl l hl => by
      rw [List.map_map] at hl
      obtain ⟨x, hx, rfl⟩ := List.mem_map.1 hl
      exact ih x hx pl
    rw [wrT_eq]
    refine wrap_bytes _ _ ?_
    unfold bodyB
    split
    · exact set_bytes _
    · split
      · split
        · exact Byt.cons (by omega) (Byt.cons (by omega) Byt.nil)
        · exact Byt.flat (ihl 3)
      · split
        · exact join_bytes _ (by omega) _ (ihl 1)
        · split
          · exact join_bytes _ (by omega) _ (ihl 2)
          · split
            · exact Byt.cons (by omega) (Byt.flat (ihl 4))
            · refine Byt.app (Byt.flat (ihl 3)) (times_bytes _ _ ?_ ?_)
              all_goals (unfold NodeOk at hno; simp only at hno; omega)
end Go.Proofs.YtbjohedenfindaaGreatDoor

namespace Go.Proofs.YtbjohedenfindaaGreatDoor
set_option linter.unusedVariables false
set_option maxRecDepth 100000
def fixB : ByteArray := ⟨#[91, 48, 45, 57, 93, 43, 40, 97, 98, 124, 99, 41, 63, 38, 126, 46]⟩
theorem fix_read (mk : List Rg → Bool → List Rg) : (readS fixB mk).map (fun t => t.kind) = some 4 := by kernel_rfl
end Go.Proofs.YtbjohedenfindaaGreatDoor

namespace Go.Proofs.YtbjohedenfindaaGreatDoor
open Go.RowKit
set_option linter.unusedVariables false
set_option maxRecDepth 100000

set_option maxHeartbeats 2000000 in
theorem catch_idle (pa pb : Addr) (w : World) :
    CallsD Tryz.prog 19 #[.pointer (some pa), .pointer (some pb)] .returning w fun e u' w' => e = .returned (.tuple #[]) ∧ u' = .returning ∧ w' = w := by
  have hta : ∀ (v : Value) (w : World), (Instr.typeAssert (.iface 49 v) 20 49 true).run Tryz.prog w = .ok (.tuple #[v, .bool true]) w := fun v w => by kernel_rfl
  refine callsD_of_wpS Tryz.func19 rfl fun c₀ cs hu => ?_
  apply wpS_seq
  apply wpS_region
  simp [wpOpsS, go_sem, recoverD, hu, Tryz.ntmps19, Exit.thenS, Array.replicate, List.replicate]
  refine wpS_of_wp ?_
  go_wp2
  cases c₀
  simp_all [bodyPostS, results, Tryz.results19]

set_option maxHeartbeats 2000000 in
theorem catch_fault (pa pb : Addr) (x y : Value) (f : Addr) (w : World) (hc0 : w.cell? pa = some x) (hz0 : w.frozen? pa = false) (hc1 : (w.setCell pa (.pointer none)).cell? pb = some y) (hz1 : (w.setCell pa (.pointer none)).frozen? pb = false) :
    CallsD Tryz.prog 19 #[.pointer (some pa), .pointer (some pb)] (.panicking [{ v := .iface 49 (.pointer (some f)), recovered := false }]) w fun e u' w' =>
      e = .returned (.tuple #[]) ∧ u' = .panicking [{ v := .iface 49 (.pointer (some f)), recovered := true }] ∧ w' = (w.setCell pa (.pointer none)).setCell pb (.iface 49 (.pointer (some f))) := by
  have hta : ∀ (v : Value) (w : World), (Instr.typeAssert (.iface 49 v) 20 49 true).run Tryz.prog w = .ok (.tuple #[v, .bool true]) w := fun v w => by kernel_rfl
  refine callsD_of_wpS Tryz.func19 rfl fun c₀ cs hu => ?_
  apply wpS_seq
  apply wpS_region
  simp [wpOpsS, go_sem, recoverD, hu, Tryz.ntmps19, Exit.thenS, Array.replicate, List.replicate]
  refine wpS_of_wp ?_
  go_wp2
  cases c₀
  simp_all [bodyPostS, results, Tryz.results19]

set_option maxHeartbeats 2000000 in
theorem pread_any {W0 w : World} (L : LibC W0) (hE : Env W0 w) {mk : List Rg → Bool → List Rg} (C : SetC mk) {s : ByteArray} (hsz : s.size ≤ 60000) (hgood : ∀ t, wholeS s mk = some t → AllOk 31 t) :
    Calls Tryz.prog 7 #[.string s] w fun e w' => Below w.heap.size w w' ∧ ((readS s mk = none ∧ ∃ f, e = .returned (.tuple #[.pointer none, .iface 49 (.pointer (some f))])) ∨ ∃ t v, readS s mk = some t ∧ e = .returned (.tuple #[v, .nilIface]) ∧ Tree (fun b => w.heap.size ≤ b) w' v t) := by
  have hmf : ∀ (fn : Fn) (first cap : Array Value) (w : World), (Instr.makeFunc fn first cap).run Tryz.prog w = .ok (.func fn first cap) w := fun _ _ _ _ => rfl
  have hb2 : Below w.heap.size w ((w.alloc (.cells #[.pointer none] 22)).alloc (.cells #[.nilIface] 24)) := ((Below.refl _ w).alloc (Nat.le_refl _) _).alloc (by simp) _
  have hE2 : Env W0 ((w.alloc (.cells #[.pointer none] 22)).alloc (.cells #[.nilIface] 24)) := ⟨Nat.le_trans hE.1 hb2.size, fun k hk => (hb2.block k (Nat.lt_of_lt_of_le hk hE.1)).trans (hE.2 k hk)⟩
  have HC : Hid (Calls Tryz.prog 20 #[.string s] ((w.alloc (.cells #[.pointer none] 22)).alloc (.cells #[.nilIface] 24)) fun e w' => Below ((w.alloc (.cells #[.pointer none] 22)).alloc (.cells #[.nilIface] 24)).heap.size ((w.alloc (.cells #[.pointer none] 22)).alloc (.cells #[.nilIface] 24)) w' ∧ ((readS s mk = none ∧ Thrown e) ∨ ∃ t v, readS s mk = some t ∧ e = .returned v ∧ Tree (fun b => ((w.alloc (.cells #[.pointer none] 22)).alloc (.cells #[.nilIface] 24)).heap.size ≤ b) w' v t)) := readWhole_any L hE2 C hsz hgood
  have e2 : ((w.alloc (.cells #[.pointer none] 22)).alloc (.cells #[.nilIface] 24)).heap.size = w.heap.size + 1 + 1 := by simp
  have h0 : ((w.alloc (.cells #[.pointer none] 22)).alloc (.cells #[.nilIface] 24)).heap[w.heap.size]? = some (.cells #[.pointer none] 22 (0, 0)) := by
    rw [Below.heap_alloc _ _ _ (by simp)]; exact heap_alloc_new w _
  have h1 : ((w.alloc (.cells #[.pointer none] 22)).alloc (.cells #[.nilIface] 24)).heap[w.heap.size + 1]? = some (.cells #[.nilIface] 24 (0, 0)) := by
    have := heap_alloc_new (w.alloc (.cells #[.pointer none] 22)) (.cells #[.nilIface] 24)
    simpa using this
  rw [e2] at HC
  have H0 : Hid (((w.alloc (.cells #[.pointer none] 22)).alloc (.cells #[.nilIface] 24)).heap[w.heap.size]? = some (.cells #[.pointer none] 22 (0, 0))) := h0
  have H1 : Hid (((w.alloc (.cells #[.pointer none] 22)).alloc (.cells #[.nilIface] 24)).heap[w.heap.size + 1]? = some (.cells #[.nilIface] 24 (0, 0))) := h1
  generalize readS s mk = res at *
  clear hE2 hgood e2 h0 h1
  go_enter_defers Tryz.func7, Tryz.ntmps7
  go_wp2_with fail
  refine HC.out.mono ?_
  rintro e w3 ⟨hb3, hr⟩
  have hb03 := hb2.trans (hb3.mono (by omega))
  have k0 : w3.heap[w.heap.size]? = some (.cells #[.pointer none] 22 (0, 0)) := (hb3.block _ (by omega)).trans H0.out
  have k1 : w3.heap[w.heap.size + 1]? = some (.cells #[.nilIface] 24 (0, 0)) := (hb3.block _ (by omega)).trans H1.out
  have c0 : w3.cell? ⟨w.heap.size, 0, none⟩ = some (.pointer none) := by simp [World.cell?, k0]
  have c1 : w3.cell? ⟨w.heap.size + 1, 0, none⟩ = some .nilIface := by simp [World.cell?, k1]
  have f0 : w3.frozen? ⟨w.heap.size, 0, none⟩ = false := by simp [World.frozen?, k0]
  have f1 : w3.frozen? ⟨w.heap.size + 1, 0, none⟩ = false := by simp [World.frozen?, k1]
  clear HC H0 H1 k0 k1
  rcases hr with ⟨hx, f, rfl⟩ | ⟨t, v, hx, rfl, hT⟩
  · refine leaves_cons (f := 19) (args := #[.pointer (some ⟨w.heap.size, 0, none⟩), .pointer (some ⟨w.heap.size + 1, 0, none⟩)]) (by simp) (by simp [go_sem]) ?_
    refine (catch_fault ⟨w.heap.size, 0, none⟩ ⟨w.heap.size + 1, 0, none⟩ (.pointer none) .nilIface f _ c0 f0 ?_ ?_).mono ?_
    · rw [World.cell?_setCell_other _ _ _ _ (by simp)]; exact c1
    · rw [World.frozen?_setCell]; exact f1
    rintro e u' w'' ⟨rfl, rfl, rfl⟩
    have d1 : ((w3.setCell ⟨w.heap.size, 0, none⟩ (.pointer none)).setCell ⟨w.heap.size + 1, 0, none⟩ (.iface 49 (.pointer (some f)))).cell? ⟨w.heap.size + 1, 0, none⟩ = some (.iface 49 (.pointer (some f))) := by
      refine World.cell?_setCell_same _ _ _ (u := .nilIface) ?_
      rw [World.cell?_setCell_other _ _ _ _ (by simp)]; exact c1
    have d0 : ((w3.setCell ⟨w.heap.size, 0, none⟩ (.pointer none)).setCell ⟨w.heap.size + 1, 0, none⟩ (.iface 49 (.pointer (some f)))).cell? ⟨w.heap.size, 0, none⟩ = some (.pointer none) := by
      rw [World.cell?_setCell_other _ _ _ _ (by simp)]
      exact World.cell?_setCell_same _ _ _ (u := .pointer none) c0
    have hbz := (hb03.setCell (p := ⟨w.heap.size, 0, none⟩) (Nat.le_refl _) (.pointer none)).setCell (p := ⟨w.heap.size + 1, 0, none⟩) (Nat.le_succ _) (.iface 49 (.pointer (some f)))
    simp [Leaves, settle, results, Tryz.results7, go_sem, d0, d1]
    exact ⟨hbz, hx⟩
  · obtain ⟨vb, rfl, hvb⟩ := hT.ptr
    have HX : Hid (res = some t) := hx
    have HT : Hid (Tree (fun b => w.heap.size + 1 + 1 ≤ b) w3 (.pointer (some ⟨vb, 0, none⟩)) t) := hT
    clear hx hT
    have d1 : ((w3.setCell ⟨w.heap.size, 0, none⟩ (.pointer (some ⟨vb, 0, none⟩))).setCell ⟨w.heap.size + 1, 0, none⟩ .nilIface).cell? ⟨w.heap.size + 1, 0, none⟩ = some .nilIface := by
      refine World.cell?_setCell_same _ _ _ (u := .nilIface) ?_
      rw [World.cell?_setCell_other _ _ _ _ (by simp)]; exact c1
    have d0 : ((w3.setCell ⟨w.heap.size, 0, none⟩ (.pointer (some ⟨vb, 0, none⟩))).setCell ⟨w.heap.size + 1, 0, none⟩ .nilIface).cell? ⟨w.heap.size, 0, none⟩ = some (.pointer (some ⟨vb, 0, none⟩)) := by
      rw [World.cell?_setCell_other _ _ _ _ (by simp)]
      exact World.cell?_setCell_same _ _ _ (u := .pointer none) c0
    have hbz := (hb03.setCell (p := ⟨w.heap.size, 0, none⟩) (Nat.le_refl _) (.pointer (some ⟨vb, 0, none⟩))).setCell (p := ⟨w.heap.size + 1, 0, none⟩) (Nat.le_succ _) .nilIface
    have HTz : Hid (Tree (fun b => w.heap.size ≤ b) ((w3.setCell ⟨w.heap.size, 0, none⟩ (.pointer (some ⟨vb, 0, none⟩))).setCell ⟨w.heap.size + 1, 0, none⟩ .nilIface) (.pointer (some ⟨vb, 0, none⟩)) t) := ((HT.out.grown (Lib.grownBy_setCell w3 w.heap.size 0 _) fun b hb e => by have := Option.some.inj e; omega).grown (Lib.grownBy_setCell _ (w.heap.size + 1) 0 _) fun b hb e => by have := Option.some.inj e; omega).imp fun b _ hb => by omega
    have D0 : Hid _ := d0
    have D1 : Hid _ := d1
    clear d0 d1
    go_wp2
    refine leaves_cons (f := 19) (args := #[.pointer (some ⟨w.heap.size, 0, none⟩), .pointer (some ⟨w.heap.size + 1, 0, none⟩)]) (by simp) (by simp [go_sem]) ?_
    refine (catch_idle ⟨w.heap.size, 0, none⟩ ⟨w.heap.size + 1, 0, none⟩ _).mono ?_
    rintro e u' w'' ⟨rfl, rfl, rfl⟩
    simp [Leaves, settle, results, Tryz.results7, go_sem, D0.out, D1.out]
    exact ⟨hbz, t, HX.out, HTz.out⟩

end Go.Proofs.YtbjohedenfindaaGreatDoor

namespace Go.Proofs.YtbjohedenfindaaGreatDoor
open Go.RowKit
set_option linter.unusedVariables false
set_option maxRecDepth 100000

/-- how ParseUint ends at base 16 -/
def HexEnd (T : ByteArray) (e : Ending) : Prop :=
  (allHex T ∧ e = .returned (.tuple #[.int .u64 (hexVal T 0 T.size), .nilIface])) ∨
  (¬ allHex T ∧ e = .returned (.tuple #[.int .u64 0, .iface 240 (.int .i64 2)])) ∨
  (6 < T.size ∧ e = .returned (.tuple #[.int .u64 18446744073709551615, .iface 240 (.int .i64 1)]))

theorem hexOf_lt (b : Nat) : hexOf b ≤ 15 := by
  unfold hexOf
  split
  · omega
  · split
    · omega
    · split <;> omega
theorem hexVal_ltL (T : ByteArray) : ∀ k, (∀ j, j < k → 0 ≤ hexOf (T.get! j).toNat) → 0 ≤ hexVal T 0 k ∧ hexVal T 0 k < ((16 ^ k : Nat) : Int)
  | 0, _ => by simp [hexVal]
  | k + 1, h => by
    obtain ⟨h1, h2⟩ := hexVal_ltL T k fun j hj => h j (by omega)
    have h3 := h k (by omega)
    have h4 := hexOf_lt (T.get! k).toNat
    have e : hexVal T 0 (k + 1) = hexVal T 0 k * 16 + hexOf (T.get! k).toNat := by simp [hexVal]
    rw [e, Nat.pow_succ]
    generalize hexOf (T.get! k).toNat = d at *
    generalize hexVal T 0 k = v at *
    generalize 16 ^ k = p at *
    omega
theorem hexVal_bigL {T : ByteArray} {k : Nat} (h : ∀ j, j < k → 0 ≤ hexOf (T.get! j).toNat) (hb : 1152921504606846976 ≤ hexVal T 0 k) : 6 < k := by
  rcases Nat.lt_or_ge 6 k with h6 | h6
  · exact h6
  · have h1 := (hexVal_ltL T k h).2
    have h2 : 16 ^ k ≤ 16 ^ 6 := Nat.pow_le_pow_right (by omega) h6
    have h3 : (16 : Nat) ^ 6 = 16777216 := by decide
    omega
theorem getD_bang (T : ByteArray) (k : Nat) : T.data.toList.getD k 0 = T.get! k := by
  rw [get_bang]
  simp [List.getD]

/-- the low letter of a byte -/
theorem low_hex : ∀ c : Nat, c < 256 → ¬ (48 ≤ c ∧ c ≤ 57) → ((10 ≤ hexOf c ∧ bits .or .u8 (c : Int) 32 = 87 + hexOf c) ∨ (hexOf c = -1 ∧ (bits .or .u8 (c : Int) 32 < 97 ∨ 103 ≤ bits .or .u8 (c : Int) 32))) := by decide +kernel

set_option maxHeartbeats 1000000 in
theorem lower_any (c : Int) (w : World) : Calls Tryz.prog 207 #[.int .u8 c] w fun e w' => e = .returned (.int .u8 (bits .or .u8 c 32)) ∧ w' = w := by
  go_enter Tryz.func207, Tryz.ntmps207
  go_wp2
  go_ret
  exact ⟨rfl, rfl⟩

set_option maxHeartbeats 8000000 in
theorem iparse_any (T : ByteArray) (hne : T.size ≠ 0) (hmax : T.size ≤ 1000000) (w : World) :
    Calls Tryz.prog 195 #[.string T, .int .i64 16, .int .i64 64] w fun e w' => HexEnd T e ∧ Below w.heap.size w w' := by
  have hemp : T.toList.isEmpty = false := by
    rw [← decide_eq_emptyBytes]
    exact decide_eq_false (fun h => hne (by rw [h]; rfl))
  have hcv := Lib.run_convert_string_bytes (P := Tryz.prog) w 9 68 5 T (u := .string) Tryz.underlying9 Tryz.underlying68 Tryz.underlying5
  have hB : ∀ j, j < T.size → (Lib.bytesWorld w 5 T).cell? ⟨w.heap.size, j, none⟩ = some (.int .u8 (T.get! j).toNat) := fun j hj => by
    rw [← getD_bang]; exact Lib.bytesWorld_cell w 5 T j hj
  have HW : Hid (Below w.heap.size w (Lib.bytesWorld w 5 T)) := Lib.bytesWorld_below _ _ _
  obtain ⟨W1, hW1⟩ : ∃ W1, W1 = Lib.bytesWorld w 5 T := ⟨_, rfl⟩
  rw [← hW1] at hcv hB HW
  clear hW1
  have HB : Hid (∀ j, j < T.size → W1.cell? ⟨w.heap.size, j, none⟩ = some (.int .u8 (T.get! j).toNat)) := hB
  clear hB
  have hmv : IntKind.u64.wrap (IntKind.u64.wrap 18446744073709551616 - 1) = 18446744073709551615 := by
    rw [IntKind.wrap_u64, IntKind.wrap_u64]
    decide
  go_enter Tryz.func195, Tryz.ntmps195
  go_wp2
  go_loop [12, 13, 101] (fun vu vn vi => ∃ (k : Nat) (a : Int), vu = .bool false ∧ vn = .int .u64 a ∧ vi = .int .i64 k ∧ k ≤ T.size ∧ 0 ≤ a ∧ a < 18446744073709551616 ∧ Hid (a = hexVal T 0 k ∧ ∀ j, j < k → 0 ≤ hexOf (T.get! j).toNat))
    (fun _ _ vi => T.size - (intOf vi).toNat)
  case atStart => exact ⟨0, 0, rfl, rfl, rfl, by omega, by omega, by omega, rfl, fun j hj => by omega⟩
  case round =>
    obtain ⟨k, a, rfl, rfl, rfl, hk, a0, a1, HH⟩ := hrel
    by_cases hkn : k < T.size
    · have hc := HB.out k hkn
      have hc256 : (T.get! k).toNat < 256 := (T.get! k).toNat_lt
      have HN : Hid (∀ d : Int, hexOf (T.get! k).toNat = d → 0 ≤ d → (a * 16 + d = hexVal T 0 (k + 1) ∧ ∀ j, j < k + 1 → 0 ≤ hexOf (T.get! j).toNat)) := by
        intro d hd h0
        obtain ⟨h1, h2⟩ := HH.out
        refine ⟨?_, fun j hj => ?_⟩
        · rw [← hd, h1]; simp [hexVal]
        · rcases Nat.lt_or_ge j k with h | h
          · exact h2 j h
          · obtain rfl : j = k := by omega
            omega
      have HR : Hid (1152921504606846976 ≤ a → 6 < T.size) := by
        intro hb
        obtain ⟨h1, h2⟩ := HH.out
        have := hexVal_bigL h2 (by omega)
        omega
      have HS : Hid (hexOf (T.get! k).toNat = -1 → ¬ allHex T) := fun h hall => by have := hall k hkn; omega
      have HLx := low_hex (T.get! k).toNat hc256
      have hx0 := bits_lo_u8 .or ((T.get! k).toNat : Int) 32
      have hx1 := bits_hi_u8 .or ((T.get! k).toNat : Int) 32
      have HLo : Hid (∀ w', Calls Tryz.prog 207 #[.int .u8 ((T.get! k).toNat : Int)] w' fun e w'' => e = .returned (.int .u8 (bits .or .u8 ((T.get! k).toNat : Int) 32)) ∧ w'' = w') := fun w' => lower_any _ w'
      have hdig0 : ∀ c : Nat, 48 ≤ c → c ≤ 57 → hexOf c = (c : Int) - 48 := fun c h0 h1 => by unfold hexOf; rw [if_pos ⟨h0, h1⟩]
      have hdig1 := hdig0 (T.get! k).toNat
      have HC95 : Hid ((T.get! k).toNat = 95 → hexOf (T.get! k).toNat = -1) := fun h => by rw [h]; rfl
      have hvle := hexOf_lt (T.get! k).toNat
      clear hdig0
      generalize (T.get! k).toNat = c at *
      generalize bits .or .u8 (c : Int) 32 = x at *
      generalize hexOf c = v at *
      by_cases hdig : 48 ≤ c ∧ c ≤ 57
      · obtain ⟨hd0, hd1⟩ := hdig
        have hv := hdig1 hd0 hd1
        subst hv
        have H2 := HN.out _ rfl (by omega)
        have HN2 : Hid (a * 16 + ((c : Int) - 48) = hexVal T 0 (k + 1) ∧ ∀ j, j < k + 1 → 0 ≤ hexOf (T.get! j).toNat) := H2
        clear HLx hx0 hx1 HLo hdig1 HN HS H2 HC95 hvle
        by_cases hcut : 1152921504606846976 ≤ a
        · have h6 : Hid (6 < T.size) := HR.out hcut
          clear HR
          go_wp2
          go_ret2
          exact ⟨Or.inr (Or.inr ⟨h6.out, rfl⟩), HW.out⟩
        · have icut : a < 1152921504606846976 := by omega
          have iov : a * 16 + ((c : Int) - 48) < 18446744073709551616 := by omega
          clear HR hcut
          go_wp2
          refine ⟨⟨k + 1, a * 16 + ((c : Int) - 48), rfl, (by first | rfl | (congr 1; omega)), (by first | rfl | (congr 1; omega)), by omega, by omega, by omega, HN2⟩, by simp [intOf]; omega⟩
      · have HX := HLx hdig
        clear HLx hdig1
        have hn95 : Hid (v = -1 ∨ c ≠ 95) := by
          rcases HX with ⟨h1, _⟩ | ⟨h1, _⟩
          · right; rintro rfl; exact absurd (HC95.out rfl) (by omega)
          · exact .inl h1
        clear HC95
        have hnd : ¬ ((c : Int) ≤ 57) ∨ ¬ (48 ≤ (c : Int)) := by omega
        rcases HX with ⟨hv10, hx⟩ | ⟨hv, hx⟩
        · have hv15 := hvle
          have h95 : c ≠ 95 := hn95.out.resolve_left (by omega)
          have h95' : ((c : Int) == 95) = false := by rw [beq_eq_false_iff_ne]; omega
          have H2 := HN.out _ rfl (by omega)
          obtain rfl : v = x - 87 := by omega
          have HN2 : Hid (a * 16 + (x - 87) = hexVal T 0 (k + 1) ∧ ∀ j, j < k + 1 → 0 ≤ hexOf (T.get! j).toNat) := H2
          have g1 : 97 ≤ x := by omega
          have g2 : x ≤ 102 := by omega
          have g3 : x ≤ 122 := by omega
          have hw1 : IntKind.u8.wrap (IntKind.u8.wrap (x - 97) + 10) = x - 87 := by
            rw [IntKind.wrap_u8, IntKind.wrap_u8]; omega
          have g4 : ¬ (x - 87 ≥ 16) := by omega
          clear HN HS H2 hx hx0 hx1 hv10 hv15 hvle hn95 h95
          by_cases hcut : 1152921504606846976 ≤ a
          · have h6 : Hid (6 < T.size) := HR.out hcut
            clear HR
            rcases hnd with hnd | hnd
            all_goals
              go_wp2_with (go_at_call 207; refine (HLo.out _).mono ?_; rintro e w' ⟨rfl, rfl⟩)
              go_ret2
              exact ⟨Or.inr (Or.inr ⟨h6.out, rfl⟩), HW.out⟩
          · have icut : a < 1152921504606846976 := by omega
            have iov : a * 16 + (x - 87) < 18446744073709551616 := by omega
            clear HR hcut
            rcases hnd with hnd | hnd
            all_goals
              go_wp2_with (go_at_call 207; refine (HLo.out _).mono ?_; rintro e w' ⟨rfl, rfl⟩)
              refine ⟨⟨k + 1, a * 16 + (x - 87), rfl, (by first | rfl | (congr 1; omega)), (by first | rfl | (congr 1; omega)), by omega, by omega, by omega, HN2⟩, by simp [intOf]; omega⟩
        · have HX2 : Hid (¬ allHex T) := HS.out hv
          have hw1 : 103 ≤ x → x ≤ 122 → IntKind.u8.wrap (IntKind.u8.wrap (x - 97) + 10) = x - 87 := by
            intro _ _
            rw [IntKind.wrap_u8, IntKind.wrap_u8]; omega
          clear HN HS hv HR hn95 hvle
          obtain ⟨z, hz⟩ : ∃ z : Int, z = (c : Int) := ⟨_, rfl⟩
          rw [← hz] at hc HLo hnd
          have hz0 : 0 ≤ z := by omega
          have hz1 : z < 256 := by omega
          clear hz hdig hc256
          have hz95 : z = 95 ∨ (z == 95) = false := by
            by_cases h : z = 95
            · exact .inl h
            · right; rw [beq_eq_false_iff_ne]; exact h
          have hxx : x < 97 ∨ (97 ≤ x ∧ x ≤ 122 ∧ IntKind.u8.wrap (IntKind.u8.wrap (x - 97) + 10) = x - 87 ∧ x - 87 ≥ 16) ∨ 122 < x := by
            rcases hx with hx | hx
            · exact .inl hx
            · by_cases h122 : x ≤ 122
              · exact .inr (.inl ⟨by omega, h122, hw1 hx h122, by omega⟩)
              · exact .inr (.inr (by omega))
          clear hx hw1
          rcases hz95 with rfl | hz95
          · rcases hxx with hx | ⟨hx, q1, q2, q3⟩ | hx
            all_goals
              go_wp2_with (go_at_call 207; refine (HLo.out _).mono ?_; rintro e w' ⟨rfl, rfl⟩)
              go_ret2
              exact ⟨Or.inr (Or.inl ⟨HX2.out, rfl⟩), HW.out⟩
          · rcases hnd with hnd | hnd
            · rcases hxx with hx | ⟨hx, q1, q2, q3⟩ | hx
              all_goals
                go_wp2_with (go_at_call 207; refine (HLo.out _).mono ?_; rintro e w' ⟨rfl, rfl⟩)
                go_ret2
                exact ⟨Or.inr (Or.inl ⟨HX2.out, rfl⟩), HW.out⟩
            · rcases hxx with hx | ⟨hx, q1, q2, q3⟩ | hx
              all_goals
                go_wp2_with (go_at_call 207; refine (HLo.out _).mono ?_; rintro e w' ⟨rfl, rfl⟩)
                go_ret2
                exact ⟨Or.inr (Or.inl ⟨HX2.out, rfl⟩), HW.out⟩
    · obtain rfl : k = T.size := by omega
      obtain ⟨h1, h2⟩ := HH.out
      have HE : Hid (allHex T ∧ a = hexVal T 0 T.size) := ⟨h2, h1⟩
      clear h1 h2 HH
      go_wp2
      go_ret2
      obtain ⟨h1, h2⟩ := HE.out
      subst h2
      exact ⟨Or.inl ⟨h1, rfl⟩, HW.out⟩

end Go.Proofs.YtbjohedenfindaaGreatDoor
