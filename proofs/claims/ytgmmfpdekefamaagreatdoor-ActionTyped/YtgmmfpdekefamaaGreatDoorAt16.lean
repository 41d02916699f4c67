/- Texts of the proof, put together: QTyt, QWth, QFnd, QCkd, QChkL. -/
import Derived.Test.YtgmmfpdekefamaaGreatDoorAt15
import Derived.Test.YtgmmfpdekefamaaGreatDoorAt01
import Derived.Deep.RegionHeld3
import Derived.Laws.AppendOwnNone
import Derived.BigRegion
namespace Go.Proofs.YtgmmfpdekefamaaGreatDoor
open Go.RowKit
set_option linter.unusedVariables false
set_option maxRecDepth 100000

/-- what the shape of a valid expression says of its kids -/
theorem shape_kids {kind num : Int} {text : ByteArray} {n : Nat} (h : shapeB kind num text n = true) : (kind = 1 ∧ n = 0) ∨ (kind = 2 ∧ n = 0) ∨ (kind = 3 ∧ n = 0 ∧ 1 ≤ num ∧ num ≤ 20) ∨ (kind = 4 ∧ n = 0) ∨ (kind = 5 ∧ n = 2) ∨ (kind = 6 ∧ n = 3) ∨ (kind = 7 ∧ n = 2) ∨ (kind = 8 ∧ n = 1) ∨ kind = 9 ∨ (kind = 10 ∧ (n : Int) = kidsL text.toList ∧ 0 < n) := by
 unfold shapeB at h
 by_cases h1 : kind = 1
 ·rw [if_pos h1] at h; simp at h; omega
 rw [if_neg h1] at h
 by_cases h3 : kind = 3
 ·rw [if_pos h3] at h; simp at h; omega
 rw [if_neg h3] at h
 by_cases hz : (num != 0) = true
 ·rw [if_pos hz] at h; cases h
 rw [if_neg hz] at h
 by_cases h2 : kind = 2
 ·rw [if_pos h2] at h; simp at h; omega
 rw [if_neg h2] at h
 by_cases h4 : kind = 4
 ·rw [if_pos h4] at h; simp at h; omega
 rw [if_neg h4] at h
 by_cases h5 : kind = 5
 ·rw [if_pos h5] at h; simp at h; omega
 rw [if_neg h5] at h
 by_cases h7 : kind = 7
 ·rw [if_pos h7] at h; simp at h; omega
 rw [if_neg h7] at h
 by_cases h10 : kind = 10
 ·rw [if_pos h10, Bool.and_eq_true, decide_eq_true_eq, beq_iff_eq] at h; omega
 rw [if_neg h10] at h
 by_cases ht : (text.toList == []) = false
 ·rw [if_pos ht] at h; cases h
 rw [if_neg ht] at h
 by_cases h6 : kind = 6
 ·rw [if_pos h6] at h; simp at h; omega
 rw [if_neg h6] at h
 by_cases h8 : kind = 8
 ·rw [if_pos h8] at h; simp at h; omega
 rw [if_neg h8] at h
 simp at h
 omega

theorem rtypeof_any {ok : Nat → Prop} {w : World} {b : Nat} {a : Option Addr} {n c : Nat} {l : List Sh} {kind num : Int} {text : ByteArray} (hb : b < w.heap.size) (e0 : w.cell? ⟨b, 0, none⟩ = some (.int .i64 kind)) (e2 : w.cell? ⟨b, 2, none⟩ = some (.string text)) (h : TysR ok w (.slice a n c) l) (hn : n = l.length) (hs : shapeB kind num text l.length = true) (hk : 4 < kind) (hl : l.length ≤ 100000) (hok : ∀ g, w.heap.size ≤ g → ok g) :
  Calls Tryz.prog 73 #[.pointer (some ⟨b, 0, none⟩), .slice a n c] w (GotJ ok w (typP kind text.toList l)) := by
 unfold typP
 rcases shape_kids hs with ⟨h1, _⟩ | ⟨h1, _⟩ | ⟨h1, _⟩ | ⟨h1, _⟩ | ⟨rfl, h2⟩ | ⟨rfl, h2⟩ | ⟨rfl, h2⟩ | ⟨rfl, h2⟩ | rfl | ⟨rfl, h2, h3⟩
 ·omega
 ·omega
 ·omega
 ·omega
 ·obtain ⟨g, off, q0, q1, q2, rfl, hg, c0, c1, t0, k1, k2⟩ := h.three (by omega)
  obtain ⟨d0, d1, t1⟩ := k1 (by omega)
  rw [if_pos rfl]
  exact typ_let hb e0 hg d0 d1 t1 (by omega)
 ·obtain ⟨g, off, q0, q1, q2, rfl, hg, c0, c1, t0, k1, k2⟩ := h.three (by omega)
  obtain ⟨d0, d1, t1⟩ := k1 (by omega)
  obtain ⟨d2, d3, t2⟩ := k2 (by omega)
  rw [if_neg (by decide), if_pos rfl]
  refine typ_if hb e0 hg c0 d0 d1 d2 d3 t1 t2 (by omega) ?_
  show _ = _
  unfold ifP
  rw [← kd_one t0.ok]
 ·obtain ⟨g, off, q0, q1, q2, rfl, hg, c0, c1, t0, k1, k2⟩ := h.three (by omega)
  obtain ⟨d0, d1, t1⟩ := k1 (by omega)
  rw [if_neg (by decide), if_neg (by decide), if_neg (by decide), if_neg (by decide), if_pos rfl]
  exact typ_op hb e0 e2 hg c0 c1 d0 d1 t0 t1 (by omega) rfl
 ·obtain ⟨g, off, q0, q1, q2, rfl, hg, c0, c1, t0, k1, k2⟩ := h.three (by omega)
  rw [if_neg (by decide), if_neg (by decide), if_pos rfl]
  refine typ_neg hb e0 hg c0 c1 t0 (by omega) ?_
  show _ = _
  rw [kd_one t0.ok]
 ·rw [if_neg (by decide), if_neg (by decide), if_neg (by decide), if_pos rfl]
  exact typ_list hb e0 h hl hok rfl
 ·rw [if_neg (by decide), if_neg (by decide), if_neg (by decide), if_neg (by decide), if_neg (by decide)]
  exact typ_call hb e0 e2 h hn h2 h3 hok rfl

end Go.Proofs.YtgmmfpdekefamaaGreatDoor

namespace Go.Proofs.YtgmmfpdekefamaaGreatDoor
open Go.RowKit
set_option linter.unusedVariables false
set_option maxRecDepth 100000

theorem Tryz.infoBound : (Tryz.prog.info? 137).map (fun i => (i.zero, i.size, i.bytes)) = some (some (.agg #[.string ⟨#[]⟩, .int .i64 0, .pointer none, .int .i64 0, .int .i64 0, .string ⟨#[]⟩, .slice none 0 0]), 7, 88) := by kernel_rfl
/-- bounds in memory, by their cells -/
def BndR (w : World) (v : Value) (n : Nat) (us : List Value) : Prop := us.length = n * 7 ∧ (∀ u ∈ us, u.oneCell' = true) ∧ ((v = .slice none 0 0 ∧ n = 0) ∨ ∃ g off c, v = .slice (some ⟨g, off, none⟩) n c ∧ 0 < n ∧ g < w.heap.size ∧ ∀ j u, us[j]? = some u → w.cell? ⟨g, off + j, none⟩ = some u)
theorem BndR.below {w w' : World} {v : Value} {n : Nat} {us : List Value} (h : BndR w v n us) (hb : Below w.heap.size w w') : BndR w' v n us := by
 obtain ⟨h1, h2, h3⟩ := h
 refine ⟨h1, h2, h3.imp id fun ⟨g, off, c, e1, e2, e3, e4⟩ => ⟨g, off, c, e1, e2, Nat.lt_of_lt_of_le e3 hb.size, fun j u hu => (hb.cell (p := ⟨g, off + j, none⟩) e3).trans (e4 j u hu)⟩⟩
theorem add_offB (g o j : Nat) : (⟨g, o, none⟩ : Addr).add j = ⟨g, o + j, none⟩ := by
 unfold Addr.add
 split <;> simp_all
/-- a row of the call's own, by its cells -/
theorem own_cellsB {w : World} {B g cap n : Nat} {us : List Value} (h : w.ownsRow B 137 7 (.slice (some ⟨g, 0, none⟩) n cap) n us) (hlt : g < w.heap.size) : ∀ j u, us[j]? = some u → w.cell? ⟨g, 0 + j, none⟩ = some u := by
 intro j u hu
 rcases h.2 with ⟨e, _⟩ | ⟨g', cap', cur, e, _, h2, _, _, _, h6⟩
 ·simp at e
 ·simp only [Value.slice.injEq, Option.some.injEq, Addr.mk.injEq, and_true, true_and] at e
  obtain ⟨rfl, rfl⟩ := e
  rw [← h6] at hu
  have hj : j < n * 7 := by
   have := (List.getElem?_eq_some_iff.1 hu).1
   rw [List.length_take] at this
   omega
  rw [List.getElem?_take_of_lt hj] at hu
  simp only [World.cell?, h2, Nat.zero_add]
  simpa using hu

set_option maxHeartbeats 8000000 in
theorem rwith_any {w : World} {v : Value} {n : Nat} {us : List Value} (h : BndR w v n us) (hn : n ≤ 1000) (x tx : ByteArray) (k vk vn : Int) (q : Option Addr) (va : Option Addr) (vl vc : Nat) :
  Calls Tryz.prog 72 #[v, .agg #[.string x, .int .i64 k, .pointer q, .int .i64 vk, .int .i64 vn, .string tx, .slice va vl vc]] w fun e w' => ∃ v', e = .returned v' ∧ Below w.heap.size w w' ∧ BndR w' v' (n + 1) ([.string x, .int .i64 k, .pointer q, .int .i64 vk, .int .i64 vn, .string tx, .slice va vl vc] ++ us) := by
 obtain ⟨i1, hj0, hj1, hj2, hj3⟩ := info_parts Tryz.infoBound
 obtain ⟨h1, h2, h3⟩ := h
 have hH : (w.alloc (.cells #[.string x, .int .i64 k, .pointer q, .int .i64 vk, .int .i64 vn, .string tx, .slice va vl vc] 137)).heap.size = w.heap.size + 1 := alloc_size _ _
 have hb1 := alloc_below w (.cells #[.string x, .int .i64 k, .pointer q, .int .i64 vk, .int .i64 vn, .string tx, .slice va vl vc] 137)
 have hb2 := alloc_below (w.alloc (.cells #[.string x, .int .i64 k, .pointer q, .int .i64 vk, .int .i64 vn, .string tx, .slice va vl vc] 137)) (.cells #[.string x, .int .i64 k, .pointer q, .int .i64 vk, .int .i64 vn, .string tx, .slice va vl vc] 137)
 have hA := allocAtA (w.alloc (.cells #[.string x, .int .i64 k, .pointer q, .int .i64 vk, .int .i64 vn, .string tx, .slice va vl vc] 137)) (.cells #[.string x, .int .i64 k, .pointer q, .int .i64 vk, .int .i64 vn, .string tx, .slice va vl vc] 137)
 rw [hH] at hA hb2
 have HN : Hid (∀ j u, [Value.string x, .int .i64 k, .pointer q, .int .i64 vk, .int .i64 vn, .string tx, .slice va vl vc][j]? = some u → ((w.alloc (.cells #[.string x, .int .i64 k, .pointer q, .int .i64 vk, .int .i64 vn, .string tx, .slice va vl vc] 137)).alloc (.cells #[.string x, .int .i64 k, .pointer q, .int .i64 vk, .int .i64 vn, .string tx, .slice va vl vc] 137)).cell? ((⟨w.heap.size + 1, 0, none⟩ : Addr).add j) = some u) := World.news_of_block hA
 have HB : Hid (Below w.heap.size w ((w.alloc (.cells #[.string x, .int .i64 k, .pointer q, .int .i64 vk, .int .i64 vn, .string tx, .slice va vl vc] 137)).alloc (.cells #[.string x, .int .i64 k, .pointer q, .int .i64 vk, .int .i64 vn, .string tx, .slice va vl vc] 137))) := hb1.trans (hb2.mono (by omega))
 have HH : Hid (((w.alloc (.cells #[.string x, .int .i64 k, .pointer q, .int .i64 vk, .int .i64 vn, .string tx, .slice va vl vc] 137)).alloc (.cells #[.string x, .int .i64 k, .pointer q, .int .i64 vk, .int .i64 vn, .string tx, .slice va vl vc] 137)).heap.size = w.heap.size + 2) := by show _ = _; rw [alloc_size, alloc_size]
 have H1 : Hid (∀ u ∈ [Value.string x, .int .i64 k, .pointer q, .int .i64 vk, .int .i64 vn, .string tx, .slice va vl vc], u.oneCell' = true) := by
  intro u hu
  simp only [List.mem_cons, List.not_mem_nil, or_false] at hu
  rcases hu with rfl | rfl | rfl | rfl | rfl | rfl | rfl <;> rfl
 have H2 : Hid (∀ u ∈ us, u.oneCell' = true) := h2
 have HL : Hid (us.length = n * 7) := h1
 clear hb1 hb2 hA hH h1 h2
 rcases h3 with ⟨rfl, rfl⟩ | ⟨g, off, c, rfl, hn0, hg, hc⟩
 ·go_enter Tryz.func72, Tryz.ntmps72
  go_wp2_with (at_builtin; refine wpList_append_lies _ rfl _ _ 134 rfl w.heap.size 137 i1 (.agg #[.string ⟨#[]⟩, .int .i64 0, .pointer none, .int .i64 0, .int .i64 0, .string ⟨#[]⟩, .slice none 0 0]) 7 88 Tryz.underlying134 hj0 hj1 hj2 hj3 rfl (by decide) (.slice none 0 0) 0 [] rfl (World.ownsRow_nil _ _ _ _) ⟨w.heap.size + 1, 0, none⟩ 1 1 [.string x, .int .i64 k, .pointer q, .int .i64 vk, .int .i64 vn, .string tx, .slice va vl vc] rfl rfl HN.out H1.out (by omega) (by unfold maxLen; omega) (by omega) (by simp; omega) (w.heap.size + 2) HH.out ?_)
  intro g9 cap9 w9 hown9 hg9 hat9 hlt9
  have HB9 : Hid (Below w.heap.size w w9) := by
   have h1 := HB.out
   exact ⟨hg9.os.trans h1.os, hg9.tape.trans h1.tape, hg9.output.trans h1.output, Nat.le_trans h1.size hg9.size, fun b hb => (hg9.block b (Nat.lt_of_lt_of_le hb h1.size) (by simp [Value.ownBlock])).trans (h1.block b hb)⟩
  obtain rfl : g9 = w.heap.size + 2 := by
   rcases hat9 with e | e
   ·simp [Value.ownBlock] at e
   ·exact e
  clear hg9 hat9
  go_wp2_with (at_builtin; refine wpList_append_own_none rfl _ _ 134 rfl w.heap.size 137 i1 7 Tryz.underlying134 hj0 (.slice (some ⟨w.heap.size + 2, 0, none⟩) 1 cap9) 1 [Value.string x, .int .i64 k, .pointer q, .int .i64 vk, .int .i64 vn, .string tx, .slice va vl vc] rfl hown9 rfl ?_)
  have HR : Hid (BndR w9 (.slice (some ⟨w.heap.size + 2, 0, none⟩) 1 cap9) 1 ([Value.string x, .int .i64 k, .pointer q, .int .i64 vk, .int .i64 vn, .string tx, .slice va vl vc] ++ us)) := by
   have e : us = [] := List.eq_nil_of_length_eq_zero (by have := HL.out; omega)
   subst e
   exact ⟨rfl, by simpa using H1.out, .inr ⟨w.heap.size + 2, 0, cap9, rfl, by omega, hlt9, by simpa using own_cellsB hown9 hlt9⟩⟩
  clear hown9 hlt9 HN HB HH H1 H2 HL
  go_wp2
  go_ret
  exact ⟨_, rfl, HB9.out, HR.out⟩
 ·go_enter Tryz.func72, Tryz.ntmps72
  go_wp2_with (at_builtin; refine wpList_append_lies _ rfl _ _ 134 rfl w.heap.size 137 i1 (.agg #[.string ⟨#[]⟩, .int .i64 0, .pointer none, .int .i64 0, .int .i64 0, .string ⟨#[]⟩, .slice none 0 0]) 7 88 Tryz.underlying134 hj0 hj1 hj2 hj3 rfl (by decide) (.slice none 0 0) 0 [] rfl (World.ownsRow_nil _ _ _ _) ⟨w.heap.size + 1, 0, none⟩ 1 1 [.string x, .int .i64 k, .pointer q, .int .i64 vk, .int .i64 vn, .string tx, .slice va vl vc] rfl rfl HN.out H1.out (by omega) (by unfold maxLen; omega) (by omega) (by simp; omega) (w.heap.size + 2) HH.out ?_)
  intro g9 cap9 w9 hown9 hg9 hat9 hlt9
  have HB9 : Hid (Below w.heap.size w w9) := by
   have h1 := HB.out
   exact ⟨hg9.os.trans h1.os, hg9.tape.trans h1.tape, hg9.output.trans h1.output, Nat.le_trans h1.size hg9.size, fun b hb => (hg9.block b (Nat.lt_of_lt_of_le hb h1.size) (by simp [Value.ownBlock])).trans (h1.block b hb)⟩
  obtain rfl : g9 = w.heap.size + 2 := by
   rcases hat9 with e | e
   ·simp [Value.ownBlock] at e
   ·exact e
  clear hg9 hat9
  have hc9 : ∀ j u, us[j]? = some u → w9.cell? ((⟨g, off, none⟩ : Addr).add j) = some u := fun j u hu => by
   rw [add_offB]
   exact (HB9.out.cell (p := ⟨g, off + j, none⟩) hg).trans (hc j u hu)
  go_wp2_with (at_builtin; refine wpList_append_lies _ rfl _ _ 134 rfl w.heap.size 137 i1 (.agg #[.string ⟨#[]⟩, .int .i64 0, .pointer none, .int .i64 0, .int .i64 0, .string ⟨#[]⟩, .slice none 0 0]) 7 88 Tryz.underlying134 hj0 hj1 hj2 hj3 rfl (by decide) (.slice (some ⟨w.heap.size + 2, 0, none⟩) 1 cap9) 1 [Value.string x, .int .i64 k, .pointer q, .int .i64 vk, .int .i64 vn, .string tx, .slice va vl vc] rfl hown9 ⟨g, off, none⟩ n c us rfl HL.out hc9 H2.out hn0 (by unfold maxLen; omega) (by omega) HB9.out.size w9.heap.size rfl ?_)
  intro g10 cap10 w10 hown10 hg10 hat10 hlt10
  have HB10 : Hid (Below w.heap.size w w10) := by
   have h1 := HB9.out
   exact ⟨hg10.os.trans h1.os, hg10.tape.trans h1.tape, hg10.output.trans h1.output, Nat.le_trans h1.size hg10.size, fun b hb => (hg10.block b (Nat.lt_of_lt_of_le hb h1.size) (by simp [Value.ownBlock]; omega)).trans (h1.block b hb)⟩
  have HR : Hid (BndR w10 (.slice (some ⟨g10, 0, none⟩) (1 + n) cap10) (n + 1) ([Value.string x, .int .i64 k, .pointer q, .int .i64 vk, .int .i64 vn, .string tx, .slice va vl vc] ++ us)) := by
   refine ⟨by rw [List.length_append, HL.out]; simp; omega, ?_, .inr ⟨g10, 0, cap10, by rw [Nat.add_comm], by omega, hlt10, own_cellsB hown10 hlt10⟩⟩
   intro u hu
   rcases List.mem_append.1 hu with hu | hu
   ·exact H1.out u hu
   ·exact H2.out u hu
  clear hown9 hlt9 HN HB HH H1 H2 HL hown10 hg10 hat10 hlt10 HB9 hc9 hc
  go_wp2
  go_ret
  exact ⟨_, rfl, HB10.out, HR.out⟩

end Go.Proofs.YtgmmfpdekefamaaGreatDoor

namespace Go.Proofs.YtgmmfpdekefamaaGreatDoor
open Go.RowKit
set_option linter.unusedVariables false
set_option maxRecDepth 100000

def fndN : List ByteArray → List UInt8 → Nat → Int
 | [], _, _ => -1
 | a :: l, x, i => if (a.toList == x) = true then i else fndN l x (i + 1)
def noB : ByteArray := ⟨#[]⟩
theorem fnd_drop {l : List ByteArray} {i : Nat} (h : i < l.length) (x : List UInt8) : fndN (l.drop i) x i = if ((l.getD i noB).toList == x) = true then (i : Int) else fndN (l.drop (i + 1)) x (i + 1) := by
 rw [List.drop_eq_getElem_cons h]
 show (if (l[i].toList == x) = true then (i : Int) else _) = _
 have e : l.getD i noB = l[i] := by simp [List.getD, h]
 rw [e]
theorem fnd_end {l : List ByteArray} (x : List UInt8) : fndN (l.drop l.length) x l.length = -1 := by rw [List.drop_length]; rfl
set_option maxHeartbeats 4000000 in
theorem rfind_any {w : World} {v : Value} {n : Nat} {us : List Value} {l : List ByteArray} (h : BndR w v n us) (hl : l.length = n) (hn : n ≤ 1000) (hs : ∀ j, j < n → us[j * 7]? = some (.string (l.getD j noB))) (x : ByteArray) :
  Calls Tryz.prog 71 #[v, .string x] w fun e w' => e = .returned (.int .i64 (fndN l x.toList 0)) ∧ w' = w := by
 obtain ⟨h1, h2, h3⟩ := h
 have HR : Hid (fndN (l.drop 0) x.toList 0 = fndN l x.toList 0) := rfl
 generalize fndN l x.toList 0 = R at *
 subst hl
 have hv : ∃ a c, v = .slice a l.length c := by
  rcases h3 with ⟨rfl, e⟩ | ⟨g, off, c, rfl, _⟩
  ·exact ⟨none, 0, by rw [e]⟩
  ·exact ⟨_, _, rfl⟩
 obtain ⟨a, c, rfl⟩ := hv
 have HC : Hid (∀ i, i < l.length → ∃ g off, a = some ⟨g, off, none⟩ ∧ g < w.heap.size ∧ w.cell? ⟨g, off + i * 7, none⟩ = some (.string (l.getD i noB))) := fun i hi => by
  rcases h3 with ⟨e, e2⟩ | ⟨g, off, c, e, _, hg, hc⟩
  ·omega
  ·simp only [Value.slice.injEq] at e
   exact ⟨g, off, e.1, hg, hc _ _ (hs i hi)⟩
 clear h1 h2 h3 hs
 go_enter Tryz.func71, Tryz.ntmps71
 go_wp2
 go_loopw [5] (fun iv wr => ∃ i : Nat, iv = .int .i64 i ∧ i ≤ l.length ∧ Hid (fndN (l.drop i) x.toList i = R) ∧ Hid (wr = w)) (fun iv _ => l.length - (intOf iv).toNat)
 case atStart => exact ⟨0, rfl, Nat.zero_le _, HR, rfl⟩
 case round =>
  obtain ⟨i, rfl, hi, HRi, HW⟩ := hrel
  have hW := HW.out
  subst hW
  by_cases hlt : i < l.length
  ·have hltI : (i : Int) < (l.length : Int) := by omega
   obtain ⟨g, off, rfl, hg, hc⟩ := HC.out i hlt
   have HS := fnd_drop hlt x.toList
   generalize l.getD i noB = y at *
   cases hy : (y.toList == x.toList)
   ·have HR2 : Hid (fndN (l.drop (i + 1)) x.toList (i + 1) = R) := by
     show _ = _
     rw [← HRi.out, HS, if_neg (by rw [hy]; simp)]
    clear HS HRi
    go_wp2
    go_roundw
    case rel => exact ⟨i + 1, by go_num, by omega, HR2, by first | exact rfl | exact True.intro⟩
    case measure => simp [intOf]; omega
   ·have HR2 : Hid (R = i) := by
     show _ = _
     rw [← HRi.out, HS, if_pos hy]
    clear HS HRi
    go_wp2
    go_ret
    exact ⟨by rw [HR2.out]; rfl, rfl⟩
  ·obtain rfl : i = l.length := by omega
   have HR2 : Hid (R = -1) := by
    show _ = _
    rw [← HRi.out]; exact fnd_end _
   clear HRi
   go_wp2
   go_ret
   exact ⟨by rw [HR2.out]; rfl, rfl⟩

end Go.Proofs.YtgmmfpdekefamaaGreatDoor

namespace Go.Proofs.YtgmmfpdekefamaaGreatDoor
open Go.RowKit
set_option linter.unusedVariables false
set_option maxRecDepth 100000

abbrev Nm := ByteArray × Sh
def noN : Nm := (noB, noS)
abbrev CkR := Except Bool Sh
/-- what a name stands for; of several the first counts -/
def lkP (ns : List Nm) (x : List UInt8) : Option Sh := if fndN (ns.map Prod.fst) x 0 < 0 then none else some (ns.getD (fndN (ns.map Prod.fst) x 0).toNat noN).2
/-- the kids, from the left: the name of a let is there for its second kid -/
def runK (kind : Int) (tx : ByteArray) (ns : List Nm) : List (List Nm → CkR) → List Sh → Except Bool (List Sh)
 | [], acc => .ok acc
 | f :: fs, acc => match f (if kind = 5 ∧ acc.length = 1 then (tx, acc.getD 0 noS) :: ns else ns) with
  | .error b => .error b
  | .ok s => runK kind tx ns fs (acc ++ [s])
def finK (kind : Int) (tx : ByteArray) : Except Bool (List Sh) → CkR
 | .error b => .error b
 | .ok l => match typP kind tx.toList l with
  | some s => .ok s
  | none => .error false
def stepK (args : List Sh) (kind num : Int) (tx : ByteArray) (fs : List (List Nm → CkR)) (ns : List Nm) : CkR :=
 if kind = 1 then .ok (0, 1)
 else if kind = 2 then .ok (0, 2)
 else if kind = 3 then (if (args.length : Int) < num then .error true else .ok (args.getD (num - 1).toNat noS))
 else if kind = 4 then (match lkP ns tx.toList with | some s => .ok s | none => .error true)
 else finK kind tx (runK kind tx ns fs [])
/-- the type of an expression: or a name that there is not (true), or kids that have not the types asked (false) -/
def chk (args : List Sh) (t : Ex) : List Nm → CkR := match t with
 | ⟨_, kind, num, tx, ks⟩ => stepK args kind num tx (ks.map (chk args))
theorem chk_eq (args : List Sh) (t : Ex) : chk args t = stepK args t.kind t.num t.text (t.kids.map (chk args)) := by obtain ⟨i, k, z, x, ks⟩ := t; rw [chk]

/-- names with their types in memory -/
def NmC (ok : Nat → Prop) (w : World) (v : Value) (ns : List Nm) : Prop := ∃ us, BndR w v ns.length us ∧ ∀ j, j < ns.length → us[j * 7]? = some (.string (ns.getD j noN).1) ∧ ∃ q, us[j * 7 + 1]? = some (.int .i64 (kd (ns.getD j noN).2)) ∧ us[j * 7 + 2]? = some (.pointer q) ∧ TyA ok w (ns.getD j noN).2 (.agg #[.int .i64 (kd (ns.getD j noN).2), .pointer q])
theorem NmC.below {ok : Nat → Prop} {w w' : World} {v : Value} {ns : List Nm} (h : NmC ok w v ns) (hb : Below w.heap.size w w') : NmC ok w' v ns := by
 obtain ⟨us, h1, h2⟩ := h
 refine ⟨us, h1.below hb, fun j hj => ?_⟩
 obtain ⟨e1, q, e2, e3, e4⟩ := h2 j hj
 exact ⟨e1, q, e2, e3, e4.below hb⟩
theorem NmC.imp {ok ok' : Nat → Prop} {w : World} {v : Value} {ns : List Nm} (h : NmC ok w v ns) (hm : ∀ g, g < w.heap.size → ok g → ok' g) : NmC ok' w v ns := by
 obtain ⟨us, h1, h2⟩ := h
 refine ⟨us, h1, fun j hj => ?_⟩
 obtain ⟨e1, q, e2, e3, e4⟩ := h2 j hj
 exact ⟨e1, q, e2, e3, e4.imp hm⟩
theorem NmC.slice {ok : Nat → Prop} {w : World} {v : Value} {ns : List Nm} (h : NmC ok w v ns) : ∃ a c, v = .slice a ns.length c := by
 obtain ⟨us, ⟨_, _, h3⟩, _⟩ := h
 rcases h3 with ⟨rfl, e⟩ | ⟨g, off, c, rfl, _⟩
 ·exact ⟨none, 0, by rw [e]⟩
 ·exact ⟨_, _, rfl⟩
theorem NmC.nil (ok : Nat → Prop) (w : World) : NmC ok w (.slice none 0 0) [] := ⟨[], ⟨rfl, by simp, .inl ⟨rfl, rfl⟩⟩, fun j hj => by simp at hj⟩
/-- find, over names -/
theorem NmC.find {ok : Nat → Prop} {w : World} {v : Value} {ns : List Nm} (h : NmC ok w v ns) (hn : ns.length ≤ 1000) (x : ByteArray) : Calls Tryz.prog 71 #[v, .string x] w fun e w' => e = .returned (.int .i64 (fndN (ns.map Prod.fst) x.toList 0)) ∧ w' = w := by
 obtain ⟨us, h1, h2⟩ := h
 refine rfind_any h1 (by simp) hn (fun j hj => ?_) x
 rw [(h2 j hj).1]
 simp [List.getD, hj]
theorem fnd_lt : ∀ (l : List ByteArray) (x : List UInt8) (i : Nat), fndN l x i < 0 ∧ fndN l x i = -1 ∨ ∃ j : Nat, fndN l x i = (i + j : Nat) ∧ j < l.length
 | [], _, _ => .inl ⟨(by decide : (-1 : Int) < 0), rfl⟩
 | a :: l, x, i => by
  unfold fndN
  split
  ·exact .inr ⟨0, by simp, by simp⟩
  ·rcases fnd_lt l x (i + 1) with h | ⟨j, h1, h2⟩
   ·exact .inl h
   ·exact .inr ⟨j + 1, by rw [h1]; congr 1; omega, by simpa using h2⟩
/-- one name more -/
theorem NmC.with {ok : Nat → Prop} {w : World} {v : Value} {ns : List Nm} (h : NmC ok w v ns) (hn : ns.length ≤ 1000) (x : ByteArray) {s : Sh} {k : Int} {q : Option Addr} (ht : TyA ok w s (.agg #[.int .i64 k, .pointer q])) :
  Calls Tryz.prog 72 #[v, .agg #[.string x, .int .i64 k, .pointer q, .int .i64 0, .int .i64 0, .string ⟨#[]⟩, .slice none 0 0]] w fun e w' => ∃ v', e = .returned v' ∧ Below w.heap.size w w' ∧ NmC ok w' v' ((x, s) :: ns) := by
 obtain ⟨us, h1, h2⟩ := h
 obtain rfl := ht.kd
 refine (rwith_any h1 hn x ⟨#[]⟩ (kd s) 0 0 q none 0 0).mono ?_
 rintro e w' ⟨v', r1, r2, r3⟩
 refine ⟨v', r1, r2, _, r3, fun j hj => ?_⟩
 cases j with
 | zero => exact ⟨rfl, q, rfl, rfl, ht.below r2⟩
 | succ j =>
  obtain ⟨e1, q', e2, e3, e4⟩ := h2 j (by simpa using hj)
  refine ⟨?_, q', ?_, ?_, e4.below r2⟩
  ·rw [show (j + 1) * 7 = 7 + j * 7 by omega, List.getElem?_append_right (by simp)]; simpa using e1
  ·rw [show (j + 1) * 7 + 1 = 7 + (j * 7 + 1) by omega, List.getElem?_append_right (by simp)]; simpa using e2
  ·rw [show (j + 1) * 7 + 2 = 7 + (j * 7 + 2) by omega, List.getElem?_append_right (by simp)]; simpa using e3
/-- what a name stands for lies there -/
theorem NmC.at {ok : Nat → Prop} {w : World} {a : Option Addr} {n c : Nat} {ns : List Nm} (h : NmC ok w (.slice a n c) ns) {j : Nat} (hj : j < ns.length) : ∃ g off q, a = some ⟨g, off, none⟩ ∧ g < w.heap.size ∧ w.cell? ⟨g, off + j * 7 + 1, none⟩ = some (.int .i64 (kd (ns.getD j noN).2)) ∧ w.cell? ⟨g, off + j * 7 + 2, none⟩ = some (.pointer q) ∧ TyA ok w (ns.getD j noN).2 (.agg #[.int .i64 (kd (ns.getD j noN).2), .pointer q]) := by
 obtain ⟨us, ⟨_, _, h3⟩, h2⟩ := h
 obtain ⟨e1, q, e2, e3, e4⟩ := h2 j hj
 rcases h3 with ⟨e, e0⟩ | ⟨g, off, c', e, _, hg, hc⟩
 ·omega
 ·simp only [Value.slice.injEq] at e
  exact ⟨g, off, q, e.1, hg, by have := hc _ _ e2; rwa [← Nat.add_assoc] at this, by have := hc _ _ e3; rwa [← Nat.add_assoc] at this, e4⟩

/-- the errors that a check may have -/
structure EnvC (w : World) (an at' : Addr) : Prop where
 nam : w.cell? ⟨3, 0, none⟩ = some (.iface 294 (.pointer (some an)))
 typ : w.cell? ⟨4, 0, none⟩ = some (.iface 294 (.pointer (some at')))
theorem EnvC.below {w w' : World} {an at' : Addr} (h : EnvC w an at') (hb : Below w.heap.size w w') : EnvC w' an at' := by
 have k : ∀ (g : Nat) (v : Value), w.cell? ⟨g, 0, none⟩ = some v → g < w.heap.size := fun g v hc => World.block_lt_of_cell? w ⟨g, 0, none⟩ hc
 exact ⟨(hb.cell (p := ⟨3, 0, none⟩) (k _ _ h.nam)).trans h.nam, (hb.cell (p := ⟨4, 0, none⟩) (k _ _ h.typ)).trans h.typ⟩
def errV (an at' : Addr) (b : Bool) : Value := .iface 294 (.pointer (some (if b = true then an else at')))
/-- a check's answer -/
def GotC (ok : Nat → Prop) (an at' : Addr) (w : World) (r : CkR) (e : Ending) (w' : World) : Prop := Below w.heap.size w w' ∧ ∃ (k : Int) (q : Option Addr) (er : Value), e = .returned (.tuple #[.agg #[.int .i64 k, .pointer q], er]) ∧ ((∃ s, r = .ok s ∧ er = .nilIface ∧ TyA ok w' s (.agg #[.int .i64 k, .pointer q])) ∨ ∃ b, r = .error b ∧ er = errV an at' b ∧ k = 0 ∧ q = none)
theorem GotC.yes {ok : Nat → Prop} {an at' : Addr} {w W : World} {r : CkR} {s : Sh} {k : Int} {q : Option Addr} (hr : r = .ok s) (hb : Below w.heap.size w W) (h : TyA ok W s (.agg #[.int .i64 k, .pointer q])) : GotC ok an at' w r (.returned (.tuple #[.agg #[.int .i64 k, .pointer q], .nilIface])) W := ⟨hb, k, q, _, rfl, .inl ⟨s, hr, rfl, h⟩⟩
theorem GotC.no {ok : Nat → Prop} {an at' : Addr} {w W : World} {r : CkR} {b : Bool} {er : Value} (hr : r = .error b) (he : er = errV an at' b) (hb : Below w.heap.size w W) : GotC ok an at' w r (.returned (.tuple #[.agg #[.int .i64 0, .pointer none], er])) W := ⟨hb, 0, none, _, rfl, .inr ⟨b, hr, he, rfl, rfl⟩⟩

end Go.Proofs.YtgmmfpdekefamaaGreatDoor

namespace Go.Proofs.YtgmmfpdekefamaaGreatDoor
open Go.RowKit
set_option linter.unusedVariables false
set_option maxRecDepth 100000


set_option maxHeartbeats 4000000 in
theorem chk_num {ok : Nat → Prop} {an at' : Addr} {w : World} {b : Nat} {av nv : Value} (hb : b < w.heap.size) (e0 : w.cell? ⟨b, 0, none⟩ = some (.int .i64 1)) :
  Calls Tryz.prog 40 #[.pointer (some ⟨b, 0, none⟩), av, nv] w (GotC ok an at' w (.ok (0, 1))) := by
 have HO : Hid (∀ W, Calls Tryz.prog 47 #[.int .i64 1] W fun e w' => e = .returned (.agg #[.int .i64 1, .pointer none]) ∧ Below W.heap.size W w') := fun W => ronly_any 1 W
 have HJ : Hid (J1 w (w.alloc (.cells #[.int .i64 0, .pointer none] 44))) := J1.new w
 go_enter Tryz.func40, Tryz.ntmps40
 go_wp2_with fail
 generalize w.alloc (.cells #[.int .i64 0, .pointer none] 44) = w1 at *
 go_at_call 47
 refine (HO.out _).mono ?_
 rintro e w4 ⟨rfl, hb4⟩
 have HJ4 : Hid (J1 w w4) := HJ.out.after hb4
 clear hb4 HO HJ
 have r0 := HJ4.out.r.c0
 have r1 := HJ4.out.r.c1
 have f0 := HJ4.out.r.fz 0
 have f1 := HJ4.out.r.fz 1
 have rr := HJ4.out.r.lt
 obtain ⟨W, hW, hbW, _, hTW⟩ := HJ4.out.r.ret HJ4.out.bel (Nat.le_refl _) 1 none
 have HW : Hid (putY w4 w.heap.size 1 none = W) := hW
 have s0 := hTW.c0
 have s1 := hTW.c1
 have HBW : Hid (Below w.heap.size w W) := hbW
 clear hW hbW hTW HJ4
 go_wp2
 have hW := HW.out
 unfold putY at hW
 rw [hW]
 refine bodyPost_ret (v := .tuple #[.agg #[.int .i64 1, .pointer none], .nilIface]) ?_ rfl ?_
 ·simp [results, go_sem, s0, s1]
 ·exact GotC.yes rfl HBW.out (int_ty _ _)

set_option maxHeartbeats 4000000 in
theorem chk_text {ok : Nat → Prop} {an at' : Addr} {w : World} {b : Nat} {av nv : Value} (hb : b < w.heap.size) (e0 : w.cell? ⟨b, 0, none⟩ = some (.int .i64 2)) :
  Calls Tryz.prog 40 #[.pointer (some ⟨b, 0, none⟩), av, nv] w (GotC ok an at' w (.ok (0, 2))) := by
 have HO : Hid (∀ W, Calls Tryz.prog 47 #[.int .i64 2] W fun e w' => e = .returned (.agg #[.int .i64 2, .pointer none]) ∧ Below W.heap.size W w') := fun W => ronly_any 2 W
 have HJ : Hid (J1 w (w.alloc (.cells #[.int .i64 0, .pointer none] 44))) := J1.new w
 go_enter Tryz.func40, Tryz.ntmps40
 go_wp2_with fail
 generalize w.alloc (.cells #[.int .i64 0, .pointer none] 44) = w1 at *
 go_at_call 47
 refine (HO.out _).mono ?_
 rintro e w4 ⟨rfl, hb4⟩
 have HJ4 : Hid (J1 w w4) := HJ.out.after hb4
 clear hb4 HO HJ
 have r0 := HJ4.out.r.c0
 have r1 := HJ4.out.r.c1
 have f0 := HJ4.out.r.fz 0
 have f1 := HJ4.out.r.fz 1
 have rr := HJ4.out.r.lt
 obtain ⟨W, hW, hbW, _, hTW⟩ := HJ4.out.r.ret HJ4.out.bel (Nat.le_refl _) 2 none
 have HW : Hid (putY w4 w.heap.size 2 none = W) := hW
 have s0 := hTW.c0
 have s1 := hTW.c1
 have HBW : Hid (Below w.heap.size w W) := hbW
 clear hW hbW hTW HJ4
 go_wp2
 have hW := HW.out
 unfold putY at hW
 rw [hW]
 refine bodyPost_ret (v := .tuple #[.agg #[.int .i64 2, .pointer none], .nilIface]) ?_ rfl ?_
 ·simp [results, go_sem, s0, s1]
 ·exact GotC.yes rfl HBW.out (text_ty _ _)

set_option maxHeartbeats 4000000 in
theorem chk_arg {ok : Nat → Prop} {an at' : Addr} {w : World} {b : Nat} {aa : Option Addr} {ac : Nat} {nv : Value} {num : Int} {args : List Sh} (hE : EnvC w an at') (hb : b < w.heap.size) (e0 : w.cell? ⟨b, 0, none⟩ = some (.int .i64 3)) (e1 : w.cell? ⟨b, 1, none⟩ = some (.int .i64 num)) (h1 : 1 ≤ num) (h2 : num ≤ 20) (ha : TysR ok w (.slice aa args.length ac) args) :
  Calls Tryz.prog 40 #[.pointer (some ⟨b, 0, none⟩), .slice aa args.length ac, nv] w (GotC ok an at' w (if (args.length : Int) < num then .error true else .ok (args.getD (num - 1).toNat noS))) := by
 have HJ : Hid (J1 w (w.alloc (.cells #[.int .i64 0, .pointer none] 44))) := J1.new w
 by_cases hlt : (args.length : Int) < num
 ·rw [if_pos hlt]
  have hN := hE.nam
  have hNl := World.block_lt_of_cell? w _ hN
  have hd : Below (w.alloc (.cells #[.int .i64 0, .pointer none] 44)).heap.size (w.alloc (.cells #[.int .i64 0, .pointer none] 44)) (w.alloc (.cells #[.int .i64 0, .pointer none] 44)).drew := below_drewG (Below.refl _ _) 1
  have HJ2 : Hid (J1 w (w.alloc (.cells #[.int .i64 0, .pointer none] 44)).drew) := HJ.out.after hd
  have ne : w.heap.size ≠ 3 := by have : (3 : Nat) < w.heap.size := hNl; omega
  clear hd HJ ha hE
  go_enter Tryz.func40, Tryz.ntmps40
  go_wp2_with fail
  go_big_region
  go_wp2
  generalize (w.alloc (.cells #[.int .i64 0, .pointer none] 44)).drew = W at *
  have s0 := HJ2.out.r.c0
  have s1 := HJ2.out.r.c1
  refine bodyPost_ret (v := .tuple #[.agg #[.int .i64 0, .pointer none], errV an at' true]) ?_ rfl ?_
  ·simp [results, go_sem, s0, s1, errV]
  ·exact GotC.no rfl rfl HJ2.out.bel
 ·rw [if_neg hlt]
  obtain ⟨j, rfl⟩ : ∃ j : Nat, num = (j : Int) + 1 := ⟨(num - 1).toNat, by omega⟩
  rw [show ((j : Int) + 1 - 1).toNat = j by omega]
  obtain ⟨g, off, q, rfl, hg, c0, c1, ht⟩ := ha.at (k := j) (by omega)
  have HRA : Hid (TyAt (w.alloc (.cells #[.int .i64 (kd (args.getD j noS)), .pointer q] 44)) w.heap.size (kd (args.getD j noS)) q ∧ Below w.heap.size w (w.alloc (.cells #[.int .i64 (kd (args.getD j noS)), .pointer q] 44))) := ⟨TyAt.new w _ q, alloc_below w _⟩
  have HT := ht.below HRA.out.2
  generalize hs : args.getD j noS = s at *
  have HT2 : Hid (TyA ok (w.alloc (.cells #[.int .i64 (kd s), .pointer q] 44)) s (.agg #[.int .i64 (kd s), .pointer q])) := HT
  generalize hks : kd s = ks at *
  have hw2 : IntKind.i64.wrap ((j : Int) + 1 - 1) = (j : Int) := by rw [IntKind.wrap_i64]; omega
  have hi1 : (j : Int) < (args.length : Int) := by omega
  clear HT ht hs hE ha HJ hks
  go_enter Tryz.func40, Tryz.ntmps40
  go_wp2
  generalize w.alloc (.cells #[.int .i64 ks, .pointer q] 44) = W at *
  have s0 := HRA.out.1.c0
  have s1 := HRA.out.1.c1
  refine bodyPost_ret (v := .tuple #[.agg #[.int .i64 ks, .pointer q], .nilIface]) ?_ rfl ?_
  ·simp [results, go_sem, s0, s1]
  ·exact GotC.yes rfl HRA.out.2 HT2.out

set_option maxHeartbeats 4000000 in
theorem chk_name {ok : Nat → Prop} {an at' : Addr} {w : World} {b : Nat} {av nv : Value} {tx : ByteArray} {ns : List Nm} (hE : EnvC w an at') (hb : b < w.heap.size) (e0 : w.cell? ⟨b, 0, none⟩ = some (.int .i64 4)) (e2 : w.cell? ⟨b, 2, none⟩ = some (.string tx)) (hn : ns.length ≤ 1000) (hN : NmC ok w nv ns) :
  Calls Tryz.prog 40 #[.pointer (some ⟨b, 0, none⟩), av, nv] w (GotC ok an at' w (match lkP ns tx.toList with | some s => .ok s | none => .error true)) := by
 have HJ : Hid (J1 w (w.alloc (.cells #[.int .i64 0, .pointer none] 44))) := J1.new w
 obtain ⟨a, c, rfl⟩ := hN.slice
 have HF : Hid (Calls Tryz.prog 71 #[.slice a ns.length c, .string tx] (w.alloc (.cells #[.int .i64 0, .pointer none] 44)) fun e w' => e = .returned (.int .i64 (fndN (ns.map Prod.fst) tx.toList 0)) ∧ w' = (w.alloc (.cells #[.int .i64 0, .pointer none] 44))) := (hN.below HJ.out.bel).find hn tx
 rcases fnd_lt (ns.map Prod.fst) tx.toList 0 with ⟨h1, h2⟩ | ⟨j, h1, h2⟩
 ·have hv : lkP ns tx.toList = none := by unfold lkP; rw [if_pos h1]
  rw [hv]
  rw [h2] at HF
  have hN' := hE.nam
  have hNl := World.block_lt_of_cell? w _ hN'
  have hd : Below (w.alloc (.cells #[.int .i64 0, .pointer none] 44)).heap.size (w.alloc (.cells #[.int .i64 0, .pointer none] 44)) (w.alloc (.cells #[.int .i64 0, .pointer none] 44)).drew := below_drewG (Below.refl _ _) 1
  have HJ2 : Hid (J1 w (w.alloc (.cells #[.int .i64 0, .pointer none] 44)).drew) := HJ.out.after hd
  have ne : w.heap.size ≠ 3 := by have : (3 : Nat) < w.heap.size := hNl; omega
  clear hd HJ hN hE h1 h2 hv
  go_enter Tryz.func40, Tryz.ntmps40
  go_wp2_with fail
  go_at_call 71
  refine HF.out.mono ?_
  rintro e wq ⟨rfl, hwq⟩
  obtain rfl := hwq.symm
  clear hwq HF
  go_wp2_with fail
  go_big_region
  go_wp2
  generalize (w.alloc (.cells #[.int .i64 0, .pointer none] 44)).drew = W at *
  have s0 := HJ2.out.r.c0
  have s1 := HJ2.out.r.c1
  refine bodyPost_ret (v := .tuple #[.agg #[.int .i64 0, .pointer none], errV an at' true]) ?_ rfl ?_
  ·simp [results, go_sem, s0, s1, errV]
  ·exact GotC.no rfl rfl HJ2.out.bel
 ·have hj : j < ns.length := by simpa using h2
  have h1' : fndN (ns.map Prod.fst) tx.toList 0 = (j : Int) := by rw [h1]; simp
  have hv : lkP ns tx.toList = some (ns.getD j noN).2 := by
   unfold lkP
   rw [h1', if_neg (by omega)]
   simp
  rw [hv]
  rw [h1'] at HF
  obtain ⟨g, off, q, rfl, hg, c0, c1, ht⟩ := hN.at hj
  have HRA : Hid (TyAt (w.alloc (.cells #[.int .i64 (kd (ns.getD j noN).2), .pointer q] 44)) w.heap.size (kd (ns.getD j noN).2) q ∧ Below w.heap.size w (w.alloc (.cells #[.int .i64 (kd (ns.getD j noN).2), .pointer q] 44))) := ⟨TyAt.new w _ q, alloc_below w _⟩
  have HT := ht.below HRA.out.2
  generalize hs : (ns.getD j noN).2 = s at *
  have HT2 : Hid (TyA ok (w.alloc (.cells #[.int .i64 (kd s), .pointer q] 44)) s (.agg #[.int .i64 (kd s), .pointer q])) := HT
  generalize hks : kd s = ks at *
  have hjI : (j : Int) < (ns.length : Int) := by omega
  clear HT ht hs hE hN HJ hks h1 h1' h2 hv
  go_enter Tryz.func40, Tryz.ntmps40
  go_wp2_with fail
  go_at_call 71
  refine HF.out.mono ?_
  rintro e wq ⟨rfl, hwq⟩
  obtain rfl := hwq.symm
  clear hwq HF
  go_wp2
  generalize w.alloc (.cells #[.int .i64 ks, .pointer q] 44) = W at *
  have s0 := HRA.out.1.c0
  have s1 := HRA.out.1.c1
  refine bodyPost_ret (v := .tuple #[.agg #[.int .i64 ks, .pointer q], .nilIface]) ?_ rfl ?_
  ·simp [results, go_sem, s0, s1]
  ·exact GotC.yes rfl HRA.out.2 HT2.out

end Go.Proofs.YtgmmfpdekefamaaGreatDoor
