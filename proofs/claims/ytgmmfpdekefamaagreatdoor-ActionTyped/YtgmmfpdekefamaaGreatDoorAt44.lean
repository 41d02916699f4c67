/- Texts of the proof, put together: QUnt, QExp, QBeg, QPh. -/
import Derived.Test.YtgmmfpdekefamaaGreatDoorAt43
import Derived.Test.YtgmmfpdekefamaaGreatDoorAt39
import Derived.Defers
import Derived.Recover
namespace Go.Proofs.YtgmmfpdekefamaaGreatDoor
open Go.RowKit
set_option linter.unusedVariables false
set_option maxRecDepth 100000

theorem pt_mark {w : World} {R C : Nat} {s : ByteArray} {t : Tok} (h : RX w R C s t) {X : List UInt8} (hX : MkL X) (hi : isS X (some t) = true) : (ptF t).kind = 6 := by
 obtain ⟨p, hp, hc⟩ := h.cut
 have := is_mark hp hc hX
 rw [hi, Bool.and_eq_true, decide_eq_true_eq] at this
 exact this.1
theorem pt_fun {t : Tok} (hk : t.kind = 4) (h0 : 0 < kidsL t.text.toList) : ptF t = ⟨6, t.fr, t.text, 0⟩ := by
 unfold ptF ptK wdP
 rw [if_neg (by omega), if_neg (by omega), if_neg (by omega), if_neg (by omega), if_pos hk, if_pos (.inr h0)]
theorem pt_name {t : Tok} (h : namedS (some t) = true) : t.kind = 4 ∧ ptF t = ⟨4, t.fr, t.text, 0⟩ := by
 simp only [namedS, Bool.and_eq_true, decide_eq_true_eq, Bool.not_eq_true', beq_iff_eq] at h
 obtain ⟨h1, h2, h3⟩ := h
 refine ⟨h1, ?_⟩
 unfold ptF ptK wdP
 rw [if_neg (by omega), if_neg (by omega), if_neg (by omega), if_neg (by omega), if_pos h1, if_neg (by rw [h2, h3]; simp)]
theorem fun_not {t : Tok} {w : World} {R C : Nat} {s : ByteArray} (h : RX w R C s t) (hk : t.kind = 4) (b : UInt8) (hb : smallB (b.toNat : Int) = false) : isS [b] (some t) = false := by
 obtain ⟨p, hp, hc⟩ := h.cut
 rcases cut_kinds hp hc with k | k | k | k | ⟨k, c, l, hc2, hsm⟩ | k
 all_goals try omega
 show ((decide (t.kind = 6) || decide (t.kind = 4)) && (t.text.toList == [b])) = false
 rw [hc2]
 have : ((c :: l : List UInt8) == [b]) = false := by
  rw [beq_eq_false_iff_ne]
  intro e
  rw [(List.cons.inj e).1] at hsm
  rw [hsm] at hb
  cases hb
 rw [this, Bool.and_false]

set_option maxHeartbeats 4000000 in
theorem runit_mark {w : World} {R C : Nat} {s : ByteArray} {t u : Tok} {x : Ex} (h : RX w R C s t) (hk : (ptF t).kind = 6) (hE : Calls Tryz.prog 185 #[.pointer (some ⟨R, 0, none⟩)] w (GotR w R C s x u)) :
  Calls Tryz.prog 164 #[.pointer (some ⟨R, 0, none⟩)] w (GotR w R C s x u) := by
 have HE : Hid (Calls Tryz.prog 185 #[.pointer (some ⟨R, 0, none⟩)] w (GotR w R C s x u)) := hE
 obtain ⟨c0, c1, c2, c3, c4⟩ := h.rd.cells
 have hlt := h.rd.lt
 rw [hk] at c0
 clear h hk hE c1 c2 c3 c4
 go_enter Tryz.func164, Tryz.ntmps164
 go_wp2_with fail
 go_at_call 185
 refine HE.out.mono ?_
 rintro e w3 ⟨p, rfl, h2, h3, h4⟩
 have HG : Hid (G2 R C w w3 ∧ RX w3 R C s u ∧ ExB w.heap.size w3 (.pointer p) x) := ⟨h2, h3, h4⟩
 clear h2 h3 h4 HE
 go_wp2
 go_ret
 exact ⟨p, rfl, HG.out⟩
set_option maxHeartbeats 4000000 in
theorem renc_paren {w : World} {R C : Nat} {s : ByteArray} {ex : Tok → RE} (hF : Reads s R C 35 ex) {t t1 t2 u : Tok} {x : Ex} (h : RX w R C s t) (hi : isS [40] (some t) = true) (k1 : cutE s t.fin = some t1) (k2 : ex t1 = some (x, t2)) (k3 : needS s [41] (some t2) = some u) (hw : wellE x = true) :
  Calls Tryz.prog 185 #[.pointer (some ⟨R, 0, none⟩)] w (GotR w R C s x u) := by
 have HT : Hid (Calls Tryz.prog 65 #[.pointer (some ⟨R, 0, none⟩), .string ⟨#[40]⟩] w fun e w' => e = .returned (.bool true) ∧ StX w w' R C s t1 []) := (StX.new h).takeY (by rw [tl1]; exact mk_sign 40 rfl) (by rw [tl1]; exact hi) k1
 have H1 : Hid (∀ W, StX w W R C s t1 [] → Calls Tryz.prog 35 #[.pointer (some ⟨R, 0, none⟩)] W fun e w' => ∃ p : Option Addr, e = .returned (.pointer p) ∧ StX w w' R C s t2 ([] ++ [(.pointer p, x)])) := fun W hs => hs.read hF k2 hw
 have H2 : Hid (∀ W l, StX w W R C s t2 l → Calls Tryz.prog 64 #[.pointer (some ⟨R, 0, none⟩), .string ⟨#[41]⟩] W fun e w' => e = .returned (.tuple #[]) ∧ StX w w' R C s u l) := fun W l hs => hs.want (by rw [tl1]; exact mk_sign 41 rfl) (by rw [tl1]; exact k3)
 clear hF h hi k1 k2 k3 hw
 go_enter Tryz.func185, Tryz.ntmps185
 go_wp2_with fail
 go_at_call 65
 refine HT.out.mono ?_
 rintro e w1 ⟨rfl, hs⟩
 have HE := H1.out _ hs
 clear hs HT H1
 go_wp2_with fail
 go_at_call 35
 refine HE.mono ?_
 rintro e w2 ⟨p, rfl, hs⟩
 have HW := H2.out _ _ hs
 clear hs HE H2
 go_wp2_with fail
 go_at_call 64
 refine HW.mono ?_
 rintro e w3 ⟨rfl, hs⟩
 have HG : Hid (G2 R C w w3 ∧ RX w3 R C s u ∧ ExB w.heap.size w3 (.pointer p) x) := ⟨hs.gr, hs.rx, hs.ex (.pointer p, x) (by simp)⟩
 clear hs HW
 go_wp2
 go_ret
 exact ⟨p, rfl, HG.out⟩
set_option maxHeartbeats 4000000 in
theorem renc_list {w : World} {R C : Nat} {s : ByteArray} {ex : Tok → RE} (hF : Reads s R C 35 ex) {t t1 u : Tok} {x : Ex} (h : RX w R C s t) (hi : isS [91] (some t) = true) (k1 : cutE s t.fin = some t1) (k2 : listS s ex (some t1) = some (x, u)) (hw : wellE x = true) :
  Calls Tryz.prog 185 #[.pointer (some ⟨R, 0, none⟩)] w (GotR w R C s x u) := by
 have H0 : Hid (Calls Tryz.prog 65 #[.pointer (some ⟨R, 0, none⟩), .string ⟨#[40]⟩] w fun e w' => e = .returned (.bool false) ∧ w' = w) := rtake_no h (by rw [tl1]; exact mk_sign 40 rfl) (by rw [tl1]; exact is_not hi (by decide))
 have HT : Hid (Calls Tryz.prog 65 #[.pointer (some ⟨R, 0, none⟩), .string ⟨#[91]⟩] w fun e w' => e = .returned (.bool true) ∧ StX w w' R C s t1 []) := (StX.new h).takeY (by rw [tl1]; exact mk_sign 91 rfl) (by rw [tl1]; exact hi) k1
 have H1 : Hid (∀ W, StX w W R C s t1 [] → Calls Tryz.prog 195 #[.pointer (some ⟨R, 0, none⟩)] W fun e w' => ∃ (a : Option Addr) (n c : Nat), e = .returned (.slice a n c) ∧ ∃ W', w'.alloc (.cells #[.int .i64 9, .int .i64 0, .string ⟨#[]⟩, .slice a n c] 64) = W' ∧ G2 R C w W' ∧ RX W' R C s u ∧ ExB w.heap.size W' (.pointer (some ⟨w'.heap.size, 0, none⟩)) x) := fun W hs => by
  refine (relements_any hF hs.rx k2 hw).mono ?_
  rintro e w' ⟨xs, rfl, pv, us, q1, q2⟩
  obtain ⟨a, c, rfl⟩ := q2.slice
  obtain ⟨W', e1, e2, e3, e4⟩ := q2.built 9 0 emptyT
  exact ⟨a, _, c, q1, W', e1, hs.gr.trans e2, e3, e4.mono hs.gr.size⟩
 clear hF h hi k1 k2 hw
 go_enter Tryz.func185, Tryz.ntmps185
 go_wp2_with fail
 go_at_call 65
 refine H0.out.mono ?_
 rintro e wq ⟨rfl, hwq⟩
 obtain rfl := hwq.symm
 clear hwq H0
 go_wp2_with fail
 go_at_call 65
 refine HT.out.mono ?_
 rintro e w1 ⟨rfl, hs⟩
 have HE := H1.out _ hs
 clear hs HT H1
 go_wp2_with fail
 go_at_call 195
 refine HE.mono ?_
 rintro e w5 ⟨a, n, c, rfl, hB⟩
 have HB : Hid (∃ W', w5.alloc (.cells #[.int .i64 9, .int .i64 0, .string ⟨#[]⟩, .slice a n c] 64) = W' ∧ G2 R C w W' ∧ RX W' R C s u ∧ ExB w.heap.size W' (.pointer (some ⟨w5.heap.size, 0, none⟩)) x) := hB
 clear hB HE
 go_wp2
 go_ret
 obtain ⟨W', e1, e2, e3, e4⟩ := HB.out
 rw [e1]
 exact ⟨_, rfl, e2, e3, e4⟩
set_option maxHeartbeats 4000000 in
theorem renc_fun {w : World} {R C : Nat} {s : ByteArray} {ex : Tok → RE} (hF : Reads s R C 35 ex) {t t1 u : Tok} {x : Ex} (h : RX w R C s t) (hk : t.kind = 4) (h0 : 0 < kidsL t.text.toList) (k1 : cutE s t.fin = some t1) (k2 : callS s ex (kidsL t.text.toList).toNat t.text (some t1) = some (x, u)) (hw : wellE x = true) :
  Calls Tryz.prog 185 #[.pointer (some ⟨R, 0, none⟩)] w (GotR w R C s x u) := by
 have H0 : Hid (Calls Tryz.prog 65 #[.pointer (some ⟨R, 0, none⟩), .string ⟨#[40]⟩] w fun e w' => e = .returned (.bool false) ∧ w' = w) := rtake_no h (by rw [tl1]; exact mk_sign 40 rfl) (by rw [tl1]; exact fun_not h hk 40 rfl)
 have H00 : Hid (Calls Tryz.prog 65 #[.pointer (some ⟨R, 0, none⟩), .string ⟨#[91]⟩] w fun e w' => e = .returned (.bool false) ∧ w' = w) := rtake_no h (by rw [tl1]; exact mk_sign 91 rfl) (by rw [tl1]; exact fun_not h hk 91 rfl)
 have h3 : kidsL t.text.toList ≤ 3 := by obtain ⟨n, e, hn⟩ := kidsL_three' t.text.toList; omega
 obtain ⟨N, hN⟩ : ∃ N : Nat, kidsL t.text.toList = ((N + 1 : Nat) : Int) := ⟨(kidsL t.text.toList).toNat - 1, by omega⟩
 have HS : Hid (Calls Tryz.prog 63 #[.pointer (some ⟨R, 0, none⟩)] w fun e w' => e = .returned (.agg #[.int .i64 6, .int .i64 (t.fr : Int), .string t.text, .int .i64 0]) ∧ G2 R C w w' ∧ RX w' R C s t1) := by have := rstep_any h k1; rw [pt_fun hk h0] at this; exact this
 have HC : Hid (∀ W, G2 R C w W → RX W R C s t1 → Calls Tryz.prog 196 #[.pointer (some ⟨R, 0, none⟩), .string t.text] W (GotR w R C s x u)) := fun W hg hx => by
  rw [hN, Int.toNat_natCast] at k2
  refine (rcall_any hF hN (by omega) hx k2 hw).mono ?_
  exact fun e w' hq => hq.from hg
 have HT : Hid (∀ W, Calls Tryz.prog 95 #[.string t.text] W fun e w' => e = .returned (.int .i64 ((N : Int) + 1)) ∧ w' = W) := fun W => by have := takes_any t.text W; rw [hN] at this; exact this
 obtain ⟨c0, c1, c2, c3, c4⟩ := h.rd.cells
 have hlt := h.rd.lt
 rw [pt_fun hk h0] at c0 c1 c2 c3
 simp only at c0 c1 c2 c3
 have hF2 := Tryz.fieldText
 have hpos : ((N : Int) + 1 > 0) = True := eq_true (by omega)
 generalize t.text = tx at *
 clear hF h hk h0 k1 k2 hw h3 hN
 go_enter Tryz.func185, Tryz.ntmps185
 go_wp2_with fail
 go_at_call 65
 refine H0.out.mono ?_
 rintro e wq ⟨rfl, hwq⟩
 obtain rfl := hwq.symm
 clear hwq H0
 go_wp2_with fail
 go_at_call 65
 refine H00.out.mono ?_
 rintro e wq ⟨rfl, hwq⟩
 obtain rfl := hwq.symm
 clear hwq H00
 go_wp2_with fail
 go_at_call 95
 refine (HT.out _).mono ?_
 rintro e wq ⟨rfl, hwq⟩
 obtain rfl := hwq.symm
 clear hwq HT
 go_wp2_with fail
 go_at_call 63
 refine HS.out.mono ?_
 rintro e w2 ⟨rfl, hG, hX⟩
 have HC2 := HC.out _ hG hX
 clear hG hX HS HC
 go_wp2_with fail
 go_at_call 196
 refine HC2.mono ?_
 rintro e w3 ⟨p, rfl, h2, h3, h4⟩
 have HG : Hid (G2 R C w w3 ∧ RX w3 R C s u ∧ ExB w.heap.size w3 (.pointer p) x) := ⟨h2, h3, h4⟩
 clear h2 h3 h4 HC2
 go_wp2
 go_ret
 exact ⟨p, rfl, HG.out⟩

theorem runit_any {s : ByteArray} {R C : Nat} {ex : Tok → RE} (hF : Reads s R C 35 ex) : Reads s R C 164 (atomS s ex) := fun w t u x h hx hw => by
 unfold atomS at hx
 split at hx
 ·rename_i hk
  obtain ⟨u', k1, k2⟩ := map_some hx
  cases k2
  exact runit_leaf h (.inl rfl) (by unfold ptF ptK; rw [if_neg (by omega), if_pos hk]) k1
 split at hx
 ·rename_i hk
  obtain ⟨u', k1, k2⟩ := map_some hx
  cases k2
  have hsh : (((decide (t.num ≥ 1) && decide (t.num ≤ 20)) && (emptyT.toList == [])) && (((0 : Nat) : Int) == 0)) = true := (wellE_is hw).2
  simp only [Bool.and_eq_true, decide_eq_true_eq] at hsh
  have hr : 1 ≤ t.num ∧ t.num ≤ 20 := ⟨hsh.1.1.1, hsh.1.1.2⟩
  exact runit_leaf h (k := 3) (.inr (.inr (.inl rfl))) (by unfold ptF ptK plP; rw [if_neg (by omega), if_neg (by omega), if_pos hk, if_pos hr]) k1
 split at hx
 ·rename_i hk
  obtain ⟨u', k1, k2⟩ := map_some hx
  cases k2
  exact runit_leaf h (k := 2) (n := 0) (.inr (.inl rfl)) (by unfold ptF ptK; rw [if_neg (by omega), if_neg (by omega), if_neg (by omega), if_pos hk]) k1
 split at hx
 ·rename_i hi
  split at hx
  ·cases hx
  ·rename_i e u2 h1
   obtain ⟨t1, k1, k2⟩ := bind_two h1
   obtain ⟨u', k3, k4⟩ := map_some hx
   cases k4
   exact runit_mark h (pt_mark h (mk_sign 40 rfl) hi) (renc_paren hF h hi k1 k2 k3 hw)
 split at hx
 ·rename_i hi
  cases hn : nextS s (some t) with
  | none => rw [hn] at hx; unfold listS at hx; simp [isS, elsS] at hx
  | some t1 =>
   rw [hn] at hx
   exact runit_mark h (pt_mark h (mk_sign 91 rfl) hi) (renc_list hF h hi hn hx hw)
 split at hx
 ·rename_i hk
  cases hn : nextS s (some t) with
  | none => rw [hn] at hx; unfold callS at hx; rw [show needS s [40] none = none from rfl] at hx; obtain ⟨N, hN⟩ : ∃ N, (kidsL t.text.toList).toNat = N + 1 := ⟨(kidsL t.text.toList).toNat - 1, by omega⟩; rw [hN] at hx; simp [argS] at hx
  | some t1 =>
   rw [hn] at hx
   exact runit_mark h (by rw [pt_fun hk.1 hk.2]) (renc_fun hF h hk.1 hk.2 hn hx hw)
 ·obtain ⟨u', k1, k2⟩ := map_some hx
  cases k2
  unfold nameS at k1
  split at k1
  ·rename_i hn
   exact runit_leaf h (k := 4) (n := 0) (.inr (.inr (.inr rfl))) (pt_name hn).2 k1
  ·cases k1

end Go.Proofs.YtgmmfpdekefamaaGreatDoor

namespace Go.Proofs.YtgmmfpdekefamaaGreatDoor
open Go.RowKit
set_option linter.unusedVariables false
set_option maxRecDepth 100000

theorem let_some {s : ByteArray} {ex : Tok → RE} {o : Option Tok} {u : Tok} {x : Ex} (h : letS s ex o = some (x, u)) : ∃ t, o = some t := by
 cases o with
 | none => unfold letS at h; rw [show (needS s [61] (nameS s none)) = none from rfl] at h; cases h
 | some t => exact ⟨t, rfl⟩
theorem if_some {s : ByteArray} {ex : Tok → RE} {o : Option Tok} {u : Tok} {x : Ex} (h : ifS s ex o = some (x, u)) : ∃ t, o = some t := by
 cases o with
 | none => unfold ifS at h; cases h
 | some t => exact ⟨t, rfl⟩
theorem rtop_any {s : ByteArray} {R C : Nat} {ex : Tok → RE} (hF : Reads s R C 35 ex) : ReadsO s R C 1 (topS s ex) := by
 have h4 := rops_four (rneg_any (runit_any hF) (s.size + 1))
 have h3 : ReadsO s R C 3 (levS s 2 (sgdS s ex (s.size + 1))) := rops_lvl (L := 3) (by omega) (by omega) h4
 have h2 : ReadsO s R C 2 (levS s 1 (levS s 2 (sgdS s ex (s.size + 1)))) := rops_lvl (L := 2) (by omega) (by omega) h3
 exact rops_lvl (L := 1) (by omega) (by omega) h2
set_option maxHeartbeats 4000000 in
theorem rexpr_any {s : ByteArray} {R C : Nat} : ∀ f : Nat, Reads s R C 35 (exprS s f)
 | 0 => fun w t u x h hx hw => by cases hx
 | f + 1 => fun w t u x h hx hw => by
  have ih := rexpr_any (s := s) (R := R) (C := C) f
  unfold exprS at hx
  by_cases hl : isS letL (some t) = true
  ·rw [if_pos hl] at hx
   obtain ⟨t1, ht1⟩ := let_some hx
   rw [ht1] at hx
   rw [next_some] at ht1
   have HT : Hid (Calls Tryz.prog 65 #[.pointer (some ⟨R, 0, none⟩), .string ⟨#[108, 101, 116]⟩] w fun e w' => e = .returned (.bool true) ∧ StX w w' R C s t1 []) := (StX.new h).takeY (x := ⟨#[108, 101, 116]⟩) (by rw [Lib.toList_data]; exact mk_let) (by rw [Lib.toList_data]; exact hl) ht1
   have H1 : Hid (∀ W, StX w W R C s t1 [] → Calls Tryz.prog 66 #[.pointer (some ⟨R, 0, none⟩)] W (GotR w R C s x u)) := fun W hs => (rlet_any ih hs.rx hx hw).mono fun e w' hq => hq.from hs.gr
   clear hx hw h hl ih ht1
   go_enter Tryz.func35, Tryz.ntmps35
   go_wp2_with fail
   go_at_call 65
   refine HT.out.mono ?_
   rintro e w1 ⟨rfl, hs⟩
   have HE := H1.out _ hs
   clear hs HT H1
   go_wp2_with fail
   go_at_call 66
   refine HE.mono ?_
   rintro e w3 ⟨p, rfl, h2, h3, h4⟩
   have HG : Hid (G2 R C w w3 ∧ RX w3 R C s u ∧ ExB w.heap.size w3 (.pointer p) x) := ⟨h2, h3, h4⟩
   clear h2 h3 h4 HE
   go_wp2
   go_ret
   exact ⟨p, rfl, HG.out⟩
  ·rw [if_neg hl] at hx
   have hlf : isS letL (some t) = false := by simpa using hl
   have H0 : Hid (Calls Tryz.prog 65 #[.pointer (some ⟨R, 0, none⟩), .string ⟨#[108, 101, 116]⟩] w fun e w' => e = .returned (.bool false) ∧ w' = w) := rtake_no (x := ⟨#[108, 101, 116]⟩) h (by rw [Lib.toList_data]; exact mk_let) (by rw [Lib.toList_data]; exact hlf)
   by_cases hi : isS ifL (some t) = true
   ·rw [if_pos hi] at hx
    obtain ⟨t1, ht1⟩ := if_some hx
    rw [ht1] at hx
    rw [next_some] at ht1
    have HT : Hid (Calls Tryz.prog 65 #[.pointer (some ⟨R, 0, none⟩), .string ⟨#[105, 102]⟩] w fun e w' => e = .returned (.bool true) ∧ StX w w' R C s t1 []) := (StX.new h).takeY (x := ⟨#[105, 102]⟩) (by rw [Lib.toList_data]; exact mk_if) (by rw [Lib.toList_data]; exact hi) ht1
    have H1 : Hid (∀ W, StX w W R C s t1 [] → Calls Tryz.prog 67 #[.pointer (some ⟨R, 0, none⟩)] W (GotR w R C s x u)) := fun W hs => (rchoice_any ih hs.rx hx hw).mono fun e w' hq => hq.from hs.gr
    clear hx hw h hl ih ht1 hlf hi
    go_enter Tryz.func35, Tryz.ntmps35
    go_wp2_with fail
    go_at_call 65
    refine H0.out.mono ?_
    rintro e wq ⟨rfl, hwq⟩
    obtain rfl := hwq.symm
    clear hwq H0
    go_wp2_with fail
    go_at_call 65
    refine HT.out.mono ?_
    rintro e w1 ⟨rfl, hs⟩
    have HE := H1.out _ hs
    clear hs HT H1
    go_wp2_with fail
    go_at_call 67
    refine HE.mono ?_
    rintro e w3 ⟨p, rfl, h2, h3, h4⟩
    have HG : Hid (G2 R C w w3 ∧ RX w3 R C s u ∧ ExB w.heap.size w3 (.pointer p) x) := ⟨h2, h3, h4⟩
    clear h2 h3 h4 HE
    go_wp2
    go_ret
    exact ⟨p, rfl, HG.out⟩
   ·rw [if_neg hi] at hx
    have hif : isS ifL (some t) = false := by simpa using hi
    have HT : Hid (Calls Tryz.prog 65 #[.pointer (some ⟨R, 0, none⟩), .string ⟨#[105, 102]⟩] w fun e w' => e = .returned (.bool false) ∧ w' = w) := rtake_no (x := ⟨#[105, 102]⟩) h (by rw [Lib.toList_data]; exact mk_if) (by rw [Lib.toList_data]; exact hif)
    have H1 : Hid (Calls Tryz.prog 68 #[.pointer (some ⟨R, 0, none⟩), .int .i64 1] w (GotR w R C s x u)) := rtop_any ih w t u x h hx hw
    clear hx hw h hl ih hlf hi hif
    go_enter Tryz.func35, Tryz.ntmps35
    go_wp2_with fail
    go_at_call 65
    refine H0.out.mono ?_
    rintro e wq ⟨rfl, hwq⟩
    obtain rfl := hwq.symm
    clear hwq H0
    go_wp2_with fail
    go_at_call 65
    refine HT.out.mono ?_
    rintro e wq ⟨rfl, hwq⟩
    obtain rfl := hwq.symm
    clear hwq HT
    go_wp2_with fail
    go_at_call 68
    refine H1.out.mono ?_
    rintro e w3 ⟨p, rfl, h2, h3, h4⟩
    have HG : Hid (G2 R C w w3 ∧ RX w3 R C s u ∧ ExB w.heap.size w3 (.pointer p) x) := ⟨h2, h3, h4⟩
    clear h2 h3 h4 H1
    go_wp2
    go_ret
    exact ⟨p, rfl, HG.out⟩

end Go.Proofs.YtgmmfpdekefamaaGreatDoor

namespace Go.Proofs.YtgmmfpdekefamaaGreatDoor
open Go.RowKit
set_option linter.unusedVariables false
set_option maxRecDepth 100000

/-- a reader at its beginning -/
structure RB (w : World) (R C : Nat) (s : ByteArray) (p : PTk) (i : Nat) : Prop where
 rd : RdA w R C p
 ct : CtA w C s i
 utf : UtfW w
 big : 16 ≤ R ∧ 16 ≤ C ∧ R ≠ C
 small : s.size ≤ 70000
 le : i ≤ s.size
theorem RB.below {w w' : World} {R C i : Nat} {s : ByteArray} {p : PTk} (h : RB w R C s p i) (hb : Below w.heap.size w w') : RB w' R C s p i :=
 ⟨(hb.block R h.rd.lt).trans h.rd, (hb.block C h.ct.lt).trans h.ct, h.utf.g2 (G2.below (R := R) (C := C) hb) h.big.1 h.big.2.1, h.big, h.small, h.le⟩
/-- behind the cutter, before the token is put -/
structure RN0 (w0 w : World) (R C : Nat) (s : ByteArray) (p : PTk) (u : Tok) : Prop where
 gr : G2 R C w0 w
 rd : RdA w R C (p)
 ct : CtA w C s u.fin
 utf : UtfW w
theorem rnext0 {w : World} {R C : Nat} {s : ByteArray} {p : PTk} {i : Nat} {u : Tok} (h : RB w R C s p i) (hu : cutE s i = some u) : Calls Tryz.prog 227 #[.pointer (some ⟨C, 0, none⟩)] w fun e w' => e = .returned (pkV (ptF u)) ∧ RN0 w w' R C s p u := by
 refine (cnext_any h.ct h.utf h.big.2.1 h.le h.small hu).mono ?_
 rintro e w' ⟨q1, q2, q3⟩
 exact ⟨q1, G2.ofC q2, (q2.block R h.rd.lt (fun e => h.big.2.2 (by cases e; rfl))).trans h.rd, q3, h.utf.kept q2 h.big.2.1⟩
theorem RN0.put {w0 w : World} {R C : Nat} {s : ByteArray} {p : PTk} {i : Nat} {u : Tok} (h : RN0 w0 w R C s p u) (hX : RB w0 R C s p i) (hu : cutE s i = some u) : G2 R C w0 (putK w R (ptF u)) ∧ RX (putK w R (ptF u)) R C s u := by
 have hg := putK_grown w R (ptF u)
 refine ⟨h.gr.trans (G2.ofR hg), h.rd.put _, (hg.block C h.ct.lt (fun e => hX.big.2.2 (by cases e; rfl))).trans h.ct, h.utf.g2 (G2.ofR (C := C) hg) hX.big.1 hX.big.2.1, hX.big, hX.small, i, hX.le, hu⟩

/-- Step on its way: the next token is cut -/
structure SI0 (w w3 : World) (R C : Nat) (s : ByteArray) (p : PTk) (u : Tok) : Prop where
 rn : RN0 w w3 R C s p u
 box : PkAt w3 w.heap.size zeroP
 old : PkAt w3 (w.heap.size + 1) (p)
 lt : R < w.heap.size ∧ C < w.heap.size
theorem SI0.fin {w w3 : World} {R C : Nat} {s : ByteArray} {p : PTk} {i : Nat} {u : Tok} (h : SI0 w w3 R C s p u) (hX : RB w R C s p i) (hu : cutE s i = some u) : ∃ W, putK (putK w3 R (ptF u)) w.heap.size (p) = W ∧ G2 R C w W ∧ RX W R C s u ∧ PkAt W w.heap.size (p) := by
 have h12 := h.rn.put hX hu
 have hl := h.lt
 have hb := h.box
 have h16 := hX.big.1
 clear hX h
 have hne : w.heap.size ≠ R := by omega
 have hneC : w.heap.size ≠ C := by omega
 have e1 : (putK w3 R (ptF u)).heap[w.heap.size]? = w3.heap[w.heap.size]? := putK_other w3 R (ptF u) hne
 have hb1 : PkAt (putK w3 R (ptF u)) w.heap.size zeroP := e1.trans hb
 generalize putK w3 R (ptF u) = W1 at *
 obtain ⟨h1, h2⟩ := h12
 have q2 : RX (putK W1 w.heap.size (p)) R C s u := h2.put hne hneC (by omega) (p)
 have q3 : PkAt (putK W1 w.heap.size (p)) w.heap.size (p) := hb1.put (p)
 have q1 : G2 R C w (putK W1 w.heap.size (p)) := by
  have hsz := putK_size W1 w.heap.size (p)
  refine ⟨h1.os, h1.tape, h1.output, by rw [hsz]; exact h1.size, fun b hb e1 e2 => ?_⟩
  have e3 : (putK W1 w.heap.size (p)).heap[b]? = W1.heap[b]? := putK_other W1 w.heap.size (p) (by omega)
  exact e3.trans (h1.block b hb e1 e2)
 exact ⟨_, rfl, q1, q2, q3⟩

set_option maxHeartbeats 8000000 in
theorem rstep0 {w : World} {R C : Nat} {s : ByteArray} {p : PTk} {i : Nat} {u : Tok} (h : RB w R C s p i) (hu : cutE s i = some u) :
  Calls Tryz.prog 63 #[.pointer (some ⟨R, 0, none⟩)] w fun e w' => e = .returned (pkV (p)) ∧ G2 R C w w' ∧ RX w' R C s u := by
 have HFin : Hid (∀ w3, SI0 w w3 R C s p u → ∃ W, putK (putK w3 R (ptF u)) w.heap.size (p) = W ∧ G2 R C w W ∧ RX W R C s u ∧ PkAt W w.heap.size (p)) := fun w3 hi => hi.fin h hu
 have mN := Tryz.methodNext
 obtain ⟨c0, c1, c2, c3, c4⟩ := h.rd.cells
 have hlt := h.rd.lt
 have hltC := h.ct.lt
 have hb1 := alloc_below w (.cells #[.int .i64 0, .int .i64 0, .string ⟨#[]⟩, .int .i64 0] 125)
 have hb2 := alloc_below (w.alloc (.cells #[.int .i64 0, .int .i64 0, .string ⟨#[]⟩, .int .i64 0] 125)) (.cells #[.int .i64 (p).kind, .int .i64 ((p).fr : Int), .string (p).text, .int .i64 (p).num] 125)
 have hbb : Below w.heap.size w _ := hb1.trans (hb2.mono (by rw [alloc_size]; omega))
 have HN : Hid (Calls Tryz.prog 227 #[.pointer (some ⟨C, 0, none⟩)] ((w.alloc (.cells #[.int .i64 0, .int .i64 0, .string ⟨#[]⟩, .int .i64 0] 125)).alloc (.cells #[.int .i64 (p).kind, .int .i64 ((p).fr : Int), .string (p).text, .int .i64 (p).num] 125)) fun e w' => e = .returned (pkV (ptF u)) ∧ ∃ W, putK (putK w' R (ptF u)) w.heap.size (p) = W ∧ G2 R C w W ∧ RX W R C s u ∧ PkAt W w.heap.size (p) ∧ RdA w' R C (p) ∧ PkAt w' w.heap.size zeroP ∧ PkAt w' (w.heap.size + 1) (p)) := by
  refine (rnext0 (h.below hbb) hu).mono ?_
  rintro e w' ⟨q1, q2⟩
  have hA1 : PkAt ((w.alloc (.cells #[.int .i64 0, .int .i64 0, .string ⟨#[]⟩, .int .i64 0] 125)).alloc (.cells #[.int .i64 (p).kind, .int .i64 ((p).fr : Int), .string (p).text, .int .i64 (p).num] 125)) w.heap.size zeroP := (hb2.block _ (by rw [alloc_size]; omega)).trans (allocAtA w _)
  have hA2 : PkAt ((w.alloc (.cells #[.int .i64 0, .int .i64 0, .string ⟨#[]⟩, .int .i64 0] 125)).alloc (.cells #[.int .i64 (p).kind, .int .i64 ((p).fr : Int), .string (p).text, .int .i64 (p).num] 125)) (w.heap.size + 1) (p) := by
   have := allocAtA (w.alloc (.cells #[.int .i64 0, .int .i64 0, .string ⟨#[]⟩, .int .i64 0] 125)) (.cells #[.int .i64 (p).kind, .int .i64 ((p).fr : Int), .string (p).text, .int .i64 (p).num] 125)
   rw [alloc_size] at this
   exact this
  have hSI : SI0 w w' R C s p u := ⟨⟨(G2.below hbb).trans q2.gr, q2.rd, q2.ct, q2.utf⟩, (q2.gr.block _ hA1.lt (by omega) (by omega)).trans hA1, (q2.gr.block _ hA2.lt (by omega) (by omega)).trans hA2, hlt, hltC⟩
  obtain ⟨W, hW1, hW2, hW3, hW4⟩ := HFin.out w' hSI
  exact ⟨q1, W, hW1, hW2, hW3, hW4, hSI.rn.rd, hSI.box, hSI.old⟩
 clear h hb1 hb2 hbb
 generalize ptF u = pu at *
 obtain ⟨ku, fu, xu, nu⟩ := pu
 obtain ⟨kt, ft, xt, nt⟩ := p
 simp only at c0 c1 c2 c3 HN
 have HN2 : Hid (Calls Tryz.prog 227 #[.pointer (some ⟨C, 0, none⟩)] ((w.alloc (.cells #[.int .i64 0, .int .i64 0, .string ⟨#[]⟩, .int .i64 0] 125)).alloc (.cells #[.int .i64 kt, .int .i64 (ft : Int), .string xt, .int .i64 nt] 125)) fun e w' => e = .returned (.agg #[.int .i64 ku, .int .i64 (fu : Int), .string xu, .int .i64 nu]) ∧ ∃ W, putK (putK w' R ⟨ku, fu, xu, nu⟩) w.heap.size ⟨kt, ft, xt, nt⟩ = W ∧ G2 R C w W ∧ RX W R C s u ∧ PkAt W w.heap.size ⟨kt, ft, xt, nt⟩ ∧ RdA w' R C ⟨kt, ft, xt, nt⟩ ∧ PkAt w' w.heap.size zeroP ∧ PkAt w' (w.heap.size + 1) ⟨kt, ft, xt, nt⟩) := HN.out
 clear HN HFin
 go_enter Tryz.func63, Tryz.ntmps63
 go_wp2_with fail
 go_at_call 227
 refine HN2.out.mono ?_
 rintro e w3 ⟨rfl, W, hW, hG, hX, hP, hRd, hBx, hOl⟩
 obtain ⟨d0, d1, d2, d3, d4⟩ := hRd.cells
 obtain ⟨b0, b1, b2, b3⟩ := hBx.cells
 obtain ⟨o0, o1, o2, o3⟩ := hOl.cells
 obtain ⟨r0, r1, r2, r3⟩ := hP.cells
 simp only [zeroP] at d0 d1 d2 d3 b0 b1 b2 b3 o0 o1 o2 o3 r0 r1 r2 r3
 have f0 := hRd.fz 0
 have f1 := hRd.fz 1
 have f2 := hRd.fz 2
 have f3 := hRd.fz 3
 have g0 := hBx.fz 0
 have g1 := hBx.fz 1
 have g2 := hBx.fz 2
 have g3 := hBx.fz 3
 have hl3 := hRd.lt
 have hn3 := hBx.lt
 have ho3 := hOl.lt
 have HW : Hid (putK (putK w3 R ⟨ku, fu, xu, nu⟩) w.heap.size ⟨kt, ft, xt, nt⟩ = W) := hW
 have HG : Hid (G2 R C w W ∧ RX W R C s u) := ⟨hG, hX⟩
 clear hW hG hX hP hRd hBx hOl HN2 c0 c1 c2 c3 c4
 go_wp2
 have hW := HW.out
 unfold putK at hW
 rw [hW]
 refine bodyPost_ret (v := pkV ⟨kt, ft, xt, nt⟩) ?_ rfl ?_
 ·simp [results, go_sem, r0, r1, r2, r3, pkV]
 ·exact ⟨rfl, HG.out.1, HG.out.2⟩


theorem end_tok {s : ByteArray} {p : Nat} {t : Tok} (hp : p ≤ s.size) (h : cutE s p = some t) (hk : t.kind = 0) : ptF t = ⟨6, t.fr, ⟨#[]⟩, 0⟩ ∧ ∃ u, cutE s t.fin = some u := by
 have hr := run_le blankB s hp
 have hr2 := run_le blankB s (Nat.le_refl s.size)
 have e2 : run blankB s s.size = s.size := by omega
 have hend : cutE s s.size = some ⟨0, emptyT, s.size, s.size, 0⟩ := by
  unfold cutE cutAt
  rw [e2, if_neg (by omega)]
 refine ⟨by unfold ptF ptK; rw [if_pos hk], ?_⟩
 unfold cutE at h
 generalize run blankB s p = i at *
 unfold cutAt at h
 split at h
 ·exfalso
  repeat' split at h
  all_goals first | (cases h; done) | (obtain ⟨y, _, rfl⟩ := map_some h; simp at hk) | (cases h; simp at hk)
 ·rename_i hi
  obtain rfl : i = s.size := by omega
  cases h
  exact ⟨_, hend⟩
set_option maxHeartbeats 4000000 in
theorem rcomes_end {w : World} {R C : Nat} {s : ByteArray} {t : Tok} (h : RX w R C s t) (he : ptF t = ⟨6, t.fr, ⟨#[]⟩, 0⟩) : Calls Tryz.prog 120 #[.pointer (some ⟨R, 0, none⟩), .string ⟨#[]⟩] w fun e w' => e = .returned (.bool true) ∧ w' = w := by
 obtain ⟨c0, c1, c2, c3, c4⟩ := h.rd.cells
 have hlt := h.rd.lt
 rw [he] at c0 c1 c2 c3
 simp only at c0 c1 c2 c3
 clear h he
 go_enter Tryz.func120, Tryz.ntmps120
 go_wp2
 go_ret
 exact ⟨rfl, rfl⟩
set_option maxHeartbeats 4000000 in
theorem rtake_end {w : World} {R C : Nat} {s : ByteArray} {t : Tok} (h : RX w R C s t) (hk : t.kind = 0) : Calls Tryz.prog 65 #[.pointer (some ⟨R, 0, none⟩), .string ⟨#[]⟩] w fun e w' => e = .returned (.bool true) ∧ G2 R C w w' := by
 obtain ⟨p, hp, hc⟩ := h.cut
 obtain ⟨he, u, hu⟩ := end_tok hp hc hk
 have HC : Hid (Calls Tryz.prog 120 #[.pointer (some ⟨R, 0, none⟩), .string ⟨#[]⟩] w fun e w' => e = .returned (.bool true) ∧ w' = w) := rcomes_end h he
 have HS : Hid (Calls Tryz.prog 63 #[.pointer (some ⟨R, 0, none⟩)] w fun e w' => (∃ v, e = .returned v) ∧ G2 R C w w') := (rstep_any h hu).mono fun e w' ⟨q1, q2⟩ => ⟨⟨_, q1⟩, q2.1⟩
 clear h he hu hc hp hk
 go_enter Tryz.func65, Tryz.ntmps65
 go_wp2_with fail
 go_at_call 120
 refine HC.out.mono ?_
 rintro e wq ⟨rfl, hwq⟩
 obtain rfl := hwq.symm
 clear hwq HC
 go_wp2_with fail
 go_at_call 63
 refine HS.out.mono ?_
 rintro e w2 ⟨⟨v, rfl⟩, hG⟩
 have HG : Hid (G2 R C w w2) := hG
 clear hG HS
 go_wp2
 go_ret
 exact ⟨rfl, HG.out⟩
set_option maxHeartbeats 4000000 in
theorem rwant_end {w : World} {R C : Nat} {s : ByteArray} {t : Tok} (h : RX w R C s t) (hk : t.kind = 0) : Calls Tryz.prog 64 #[.pointer (some ⟨R, 0, none⟩), .string ⟨#[]⟩] w fun e w' => e = .returned (.tuple #[]) ∧ G2 R C w w' := by
 have HT : Hid (Calls Tryz.prog 65 #[.pointer (some ⟨R, 0, none⟩), .string ⟨#[]⟩] w fun e w' => e = .returned (.bool true) ∧ G2 R C w w') := rtake_end h hk
 clear h hk
 go_enter Tryz.func64, Tryz.ntmps64
 go_wp2_with fail
 go_at_call 65
 refine HT.out.mono ?_
 rintro e w2 ⟨rfl, hG⟩
 have HG : Hid (G2 R C w w2) := hG
 clear hG HT
 go_wp2
 first | go_end0 | refine bodyPost_ret (results_none rfl _ _ _) rfl ?_
 exact ⟨rfl, HG.out⟩

end Go.Proofs.YtgmmfpdekefamaaGreatDoor

namespace Go.Proofs.YtgmmfpdekefamaaGreatDoor
open Go.RowKit
set_option linter.unusedVariables false
set_option maxRecDepth 100000

set_option maxHeartbeats 2000000 in
theorem ph_idle (pa : Addr) (w : World) :
  CallsD Tryz.prog 61 #[.pointer (some pa)] .returning w fun e u' w' => e = .returned (.tuple #[]) ∧ u' = .returning ∧ w' = w := by
 have hta : ∀ (v : Value) (w : World), (Instr.typeAssert (.iface 81 v) 20 81 true).run Tryz.prog w = .ok (.tuple #[v, .bool true]) w := fun v w => by kernel_rfl
 refine callsD_of_wpS Tryz.func61 rfl fun c₀ cs hu => ?_
 apply wpS_seq
 apply wpS_region
 simp [wpOpsS, go_sem, recoverD, hu, Tryz.ntmps61, Exit.thenS, Array.replicate, List.replicate]
 refine wpS_of_wp ?_
 go_wp2
 cases c₀
 simp_all [bodyPostS, results, Tryz.results61]

/-- the function that is handed over -/
theorem aread1_any {s : ByteArray} {R C f : Nat} : Reads s R C 34 (exprS s f) := fun w t u x h hx hw => by
 have HE : Hid (Calls Tryz.prog 35 #[.pointer (some ⟨R, 0, none⟩)] w (GotR w R C s x u)) := rexpr_any f w t u x h hx hw
 clear hx hw h
 go_enter Tryz.func34, Tryz.ntmps34
 go_wp2_with fail
 go_at_call 35
 refine HE.out.mono ?_
 rintro e w3 ⟨p, rfl, h2, h3, h4⟩
 have HG : Hid (G2 R C w w3 ∧ RX w3 R C s u ∧ ExB w.heap.size w3 (.pointer p) x) := ⟨h2, h3, h4⟩
 clear h2 h3 h4 HE
 go_wp2
 go_ret
 exact ⟨p, rfl, HG.out⟩
theorem read_parts {s : ByteArray} {x : Ex} (h : readE s = some x) : ∃ t u, cutE s 0 = some t ∧ exprS s (s.size + 1) t = some (x, u) ∧ u.kind = 0 := by
 unfold readE at h
 split at h
 ·cases h
 ·rename_i y u h1
  obtain ⟨t, k1, k2⟩ := bind_two h1
  split at h
  ·rename_i hk
   cases h
   exact ⟨t, u, k1, k2, hk⟩
  ·cases h
/-- reading on its way -/
structure PhI (w W : World) (C : Nat) : Prop where
 gr : G2 (w.heap.size + 1) C w W
 er : W.heap[w.heap.size]? = some (.cells #[.nilIface] 28 (0, 0))
 lt : C < w.heap.size
theorem PhI.step {w W W' : World} {C : Nat} (h : PhI w W C) (hg : G2 (w.heap.size + 1) C W W') : PhI w W' C := by
 have h1 := h.lt
 have h2 : w.heap.size < W.heap.size := (Array.getElem?_eq_some_iff.1 h.er).1
 exact ⟨h.gr.trans hg, (hg.block _ h2 (by omega) (by omega)).trans h.er, h1⟩
/-- what was read -/
def GotP (w : World) (C : Nat) (x : Ex) (e : Ending) (w' : World) : Prop := ∃ p : Option Addr, e = .returned (.tuple #[.pointer p, .nilIface]) ∧ (∀ b, b < w.heap.size → b ≠ C → w'.heap[b]? = w.heap[b]?) ∧ w'.os = w.os ∧ w'.tape = w.tape ∧ w'.output = w.output ∧ w.heap.size ≤ w'.heap.size ∧ ExB w.heap.size w' (.pointer p) x
set_option maxHeartbeats 8000000 in
theorem phread_any {w : World} {C : Nat} {s : ByteArray} (hC : CtA w C s 0) (hU : UtfW w) (hbig : 16 ≤ C) (hs : s.size ≤ 65536) {x : Ex} (hx : readE s = some x) (hw : wellE x = true) :
  Calls Tryz.prog 33 #[.string s, .iface 76 (.pointer (some ⟨C, 0, none⟩)), .func (.func 34) #[] #[]] w (GotP w C x) := by
 have hmf : ∀ (fn : Fn) (first cap : Array Value) (w : World), (Instr.makeFunc fn first cap).run Tryz.prog w = .ok (.func fn first cap) w := fun _ _ _ _ => rfl
 obtain ⟨t, u, k1, k2, k3⟩ := read_parts hx
 have hlt := hC.lt
 have hb1 := alloc_below w (.cells #[.nilIface] 28)
 have hb2 := alloc_below (w.alloc (.cells #[.nilIface] 28)) (.cells #[.int .i64 0, .int .i64 0, .string ⟨#[]⟩, .int .i64 0, .iface 76 (.pointer (some ⟨C, 0, none⟩))] 127)
 have hA1 := allocAtA w (.cells #[.nilIface] 28)
 have hA2 := allocAtA (w.alloc (.cells #[.nilIface] 28)) (.cells #[.int .i64 0, .int .i64 0, .string ⟨#[]⟩, .int .i64 0, .iface 76 (.pointer (some ⟨C, 0, none⟩))] 127)
 rw [alloc_size] at hA2
 have hbb : Below w.heap.size w ((w.alloc (.cells #[.nilIface] 28)).alloc (.cells #[.int .i64 0, .int .i64 0, .string ⟨#[]⟩, .int .i64 0, .iface 76 (.pointer (some ⟨C, 0, none⟩))] 127)) := hb1.trans (hb2.mono (by rw [alloc_size]; omega))
 have HB : RB ((w.alloc (.cells #[.nilIface] 28)).alloc (.cells #[.int .i64 0, .int .i64 0, .string ⟨#[]⟩, .int .i64 0, .iface 76 (.pointer (some ⟨C, 0, none⟩))] 127)) (w.heap.size + 1) C s zeroP 0 :=
  ⟨hA2, (hbb.block C hlt).trans hC, hU.g2 (G2.below (R := w.heap.size + 1) (C := C) hbb) (by omega) hbig, ⟨by omega, hbig, by omega⟩, by omega, Nat.zero_le _⟩
 have HI : PhI w ((w.alloc (.cells #[.nilIface] 28)).alloc (.cells #[.int .i64 0, .int .i64 0, .string ⟨#[]⟩, .int .i64 0, .iface 76 (.pointer (some ⟨C, 0, none⟩))] 127)) C :=
  ⟨G2.below hbb, (hb2.block _ (by rw [alloc_size]; omega)).trans hA1, hlt⟩
 have H1 : Hid (Calls Tryz.prog 63 #[.pointer (some ⟨w.heap.size + 1, 0, none⟩)] ((w.alloc (.cells #[.nilIface] 28)).alloc (.cells #[.int .i64 0, .int .i64 0, .string ⟨#[]⟩, .int .i64 0, .iface 76 (.pointer (some ⟨C, 0, none⟩))] 127)) fun e w' => (∃ v, e = .returned v) ∧ PhI w w' C ∧ RX w' (w.heap.size + 1) C s t) := (rstep0 HB k1).mono fun e w' ⟨q1, q2, q3⟩ => ⟨⟨_, q1⟩, HI.step q2, q3⟩
 have H2 : Hid (∀ W, PhI w W C → RX W (w.heap.size + 1) C s t → Calls Tryz.prog 34 #[.pointer (some ⟨w.heap.size + 1, 0, none⟩)] W fun e w' => ∃ p : Option Addr, e = .returned (.pointer p) ∧ PhI w w' C ∧ RX w' (w.heap.size + 1) C s u ∧ Expr (fun b => w.heap.size + 2 ≤ b) w' (.pointer p) x) := fun W hi hr => by
  refine (aread1_any W t u x hr k2 hw).mono ?_
  rintro e w' ⟨p, q1, q2, q3, q4⟩
  refine ⟨p, q1, hi.step q2, q3, ExB.mono q4 ?_⟩
  have := hr.rd.lt
  omega
 have H3 : Hid (∀ W p, PhI w W C → RX W (w.heap.size + 1) C s u → Expr (fun b => w.heap.size + 2 ≤ b) W (.pointer p) x → Calls Tryz.prog 64 #[.pointer (some ⟨w.heap.size + 1, 0, none⟩), .string ⟨#[]⟩] W fun e w' => e = .returned (.tuple #[]) ∧ PhI w w' C ∧ Expr (fun b => w.heap.size + 2 ≤ b) w' (.pointer p) x) := fun W p hi hr he => by
  refine (rwant_end hr k3).mono ?_
  rintro e w' ⟨q1, q2⟩
  exact ⟨q1, hi.step q2, he.moved q2.size fun b hb hok => ⟨hok, q2.block b hb (by omega) (by omega)⟩⟩
 have hen := enters_of Tryz.func34 (by kernel_rfl) rfl
 have hsz : ¬ (s.size : Int) > 65536 := by omega
 clear hC hU hx hw k1 k2 k3 hb1 hb2 hA1 hA2 hbb HB HI
 go_enter_defers Tryz.func33, Tryz.ntmps33
 go_wp2_with fail
 go_at_call 63
 refine H1.out.mono ?_
 rintro e w3 ⟨⟨v3, rfl⟩, hi, hr⟩
 have G2' := H2.out _ hi hr
 clear hi hr H1 H2
 go_wp2_with fail
 refine G2'.mono ?_
 rintro e w4 ⟨p, rfl, hi, hr, he⟩
 have G3' := H3.out _ p hi hr he
 clear hi hr he G2' H3
 go_wp2_with fail
 go_at_call 64
 refine G3'.mono ?_
 rintro e w5 ⟨rfl, hi, he⟩
 have k0 := hi.er
 have c0 : w5.cell? ⟨w.heap.size, 0, none⟩ = some .nilIface := by simp [World.cell?, k0]
 have f0 : w5.frozen? ⟨w.heap.size, 0, none⟩ = false := by simp [World.frozen?, k0]
 have HI : Hid (PhI w w5 C ∧ Expr (fun b => w.heap.size + 2 ≤ b) w5 (.pointer p) x) := ⟨hi, he⟩
 have d0 : (w5.setCell ⟨w.heap.size, 0, none⟩ .nilIface).cell? ⟨w.heap.size, 0, none⟩ = some .nilIface := World.cell?_setCell_same _ _ _ (u := .nilIface) c0
 have HG : Hid (GotP w C x (.returned (.tuple #[.pointer p, .nilIface])) (w5.setCell ⟨w.heap.size, 0, none⟩ .nilIface)) := by
  have hg := hi.gr
  have h0 : ∀ b, b ≠ w.heap.size → (w5.setCell ⟨w.heap.size, 0, none⟩ .nilIface).heap[b]? = w5.heap[b]? := fun b hb => Below.heap_setCell _ _ _ _ (show b ≠ w.heap.size from hb)
  have hz : (w5.setCell ⟨w.heap.size, 0, none⟩ .nilIface).heap.size = w5.heap.size := by simp [World.setCell]
  refine ⟨p, rfl, fun b hb hne => (h0 b (by omega)).trans (hg.block b hb (by omega) hne), hg.os, hg.tape, hg.output, by rw [hz]; exact hg.size, ?_⟩
  refine (Expr.imp he fun b _ hb => (by omega : w.heap.size ≤ b ∧ b ≠ w.heap.size)).moved (by rw [hz]; exact Nat.le_refl _) fun b hb hok => ⟨hok.1, h0 b hok.2⟩
 have D0 : Hid _ := d0
 clear k0 hi he G3' d0 HI
 go_wp2
 refine leaves_cons (f := 61) (args := #[.pointer (some ⟨w.heap.size, 0, none⟩)]) (by simp) (by simp [go_sem]) ?_
 refine (ph_idle ⟨w.heap.size, 0, none⟩ _).mono ?_
 rintro e u' w'' ⟨rfl, rfl, rfl⟩
 simp [Leaves, settle, results, Tryz.results33, go_sem, D0.out]
 exact HG.out

end Go.Proofs.YtgmmfpdekefamaaGreatDoor
