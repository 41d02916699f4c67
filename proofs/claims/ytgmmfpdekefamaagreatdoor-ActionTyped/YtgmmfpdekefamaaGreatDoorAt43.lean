/- Texts of the proof, put together: QKid, QElm, QCal. -/
import Derived.Test.YtgmmfpdekefamaaGreatDoorAt42
import Derived.Test.YtgmmfpdekefamaaGreatDoorAt37
namespace Go.Proofs.YtgmmfpdekefamaaGreatDoor
open Go.RowKit
set_option linter.unusedVariables false
set_option maxRecDepth 100000

/-- on the way: a row of kids grows -/
structure StK (w W : World) (R C : Nat) (s : ByteArray) (t : Tok) (pv : Value) (us : List Value) (xs : List Ex) : Prop where
 gr : G2 R C w W
 rx : RX W R C s t
 lt : R < w.heap.size ∧ C < w.heap.size
 own : W.ownsRow w.heap.size 24 1 pv us.length us
 len : us.length = xs.length
 ex : ∀ j, j < xs.length → ∃ u, us[j]? = some u ∧ Expr (fun b => w.heap.size ≤ b ∧ pv.ownBlock ≠ some b) W u (xs.getD j nilE)
theorem own_block {W W' : World} {B : Nat} {T : TypeId} {pv : Value} {n : Nat} {us : List Value} (h : W.ownsRow B T 1 pv n us) (hb : ∀ b, pv.ownBlock = some b → W'.heap[b]? = W.heap[b]?) : W'.ownsRow B T 1 pv n us := by
 refine ⟨h.1, ?_⟩
 rcases h.2 with hn | ⟨g, cap, cur, rfl, hb2, hgg, rest⟩
 ·exact .inl hn
 ·exact .inr ⟨g, cap, cur, rfl, hb2, (hb g rfl).trans hgg, rest⟩
theorem StK.new {w W : World} {R C : Nat} {s : ByteArray} {t : Tok} {l : List (Value × Ex)} (h : StX w W R C s t l) : StK w W R C s t (.slice none 0 0) [] [] := ⟨h.gr, h.rx, h.lt, ⟨rfl, .inl ⟨rfl, rfl⟩⟩, rfl, fun j hj => by simp at hj⟩
theorem StK.slice {w W : World} {R C : Nat} {s : ByteArray} {t : Tok} {pv : Value} {us : List Value} {xs : List Ex} (h : StK w W R C s t pv us xs) : ∃ a c, pv = .slice a us.length c := by
 rcases h.own.2 with ⟨rfl, h0⟩ | ⟨g, cap, cur, rfl, _⟩
 ·exact ⟨none, 0, by rw [h0]⟩
 ·exact ⟨_, _, rfl⟩
theorem StK.step {w W W' : World} {R C : Nat} {s : ByteArray} {t u : Tok} {pv : Value} {us : List Value} {xs : List Ex} (h : StK w W R C s t pv us xs) (hg : G2 R C W W') (hx : RX W' R C s u) : StK w W' R C s u pv us xs := by
 have hl := h.lt
 refine ⟨h.gr.trans hg, hx, hl, own_block h.own fun b hb => ?_, h.len, fun j hj => ?_⟩
 ·have := h.own.lt b hb
  exact hg.block b this.2 (by omega) (by omega)
 ·obtain ⟨v, h1, h2⟩ := h.ex j hj
  exact ⟨v, h1, h2.moved hg.size fun b hb hok => ⟨hok, hg.block b hb (by omega) (by omega)⟩⟩
theorem StK.read {w W : World} {R C : Nat} {s : ByteArray} {t u : Tok} {pv : Value} {us : List Value} {xs : List Ex} {F : Nat} {ex : Tok → RE} {x : Ex} (h : StK w W R C s t pv us xs) (hF : Reads s R C F ex) (hx : ex t = some (x, u)) (hw : wellE x = true) : Calls Tryz.prog F #[.pointer (some ⟨R, 0, none⟩)] W fun e w' => ∃ p : Option Addr, e = .returned (.pointer p) ∧ StK w w' R C s u pv us xs ∧ Expr (fun b => w.heap.size ≤ b ∧ pv.ownBlock ≠ some b) w' (.pointer p) x :=
 (hF W t u x h.rx hx hw).mono fun e w' ⟨p, q1, q2, q3, q4⟩ => ⟨p, q1, h.step q2 q3, q4.imp fun b hb hok => ⟨Nat.le_trans h.gr.size hok, fun e => by have := (h.own.lt b e).2; omega⟩⟩
theorem StK.want {w W : World} {R C : Nat} {s : ByteArray} {t u : Tok} {pv : Value} {us : List Value} {xs : List Ex} (h : StK w W R C s t pv us xs) {x : ByteArray} (hX : MkL x.toList) (hu : needS s x.toList (some t) = some u) : Calls Tryz.prog 64 #[.pointer (some ⟨R, 0, none⟩), .string x] W fun e w' => e = .returned (.tuple #[]) ∧ StK w w' R C s u pv us xs :=
 (rwant_any h.rx hX hu).mono fun e w' ⟨q1, q2, q3⟩ => ⟨q1, h.step q2 q3⟩
theorem StK.takeY {w W : World} {R C : Nat} {s : ByteArray} {t u : Tok} {pv : Value} {us : List Value} {xs : List Ex} (h : StK w W R C s t pv us xs) {x : ByteArray} (hX : MkL x.toList) (hn : isS x.toList (some t) = true) (hu : cutE s t.fin = some u) : Calls Tryz.prog 65 #[.pointer (some ⟨R, 0, none⟩), .string x] W fun e w' => e = .returned (.bool true) ∧ StK w w' R C s u pv us xs :=
 (rtake_yes h.rx hX hn hu).mono fun e w' ⟨q1, q2, q3⟩ => ⟨q1, h.step q2 q3⟩
/-- one kid more -/
theorem StK.put {w W W5 : World} {R C g cap : Nat} {s : ByteArray} {t : Tok} {pv u : Value} {us : List Value} {xs : List Ex} {x : Ex} {o : Obj} (h : StK w W R C s t pv us xs) (hu : Expr (fun b => w.heap.size ≤ b ∧ pv.ownBlock ≠ some b) W u x) (hown : W5.ownsRow w.heap.size 24 1 (.slice (some ⟨g, 0, none⟩) (us.length + 1) cap) (us.length + 1) (us ++ [u])) (hg : (W.alloc o).grownBy W5 pv.ownBlock) (hat : pv.ownBlock = some g ∨ g = W.heap.size + 1) :
  StK w W5 R C s t (.slice (some ⟨g, 0, none⟩) (us ++ [u]).length cap) (us ++ [u]) (xs ++ [x]) := by
 have hl := h.lt
 have hsz := h.gr.size
 have hsz2 : W.heap.size ≤ W5.heap.size := Nat.le_trans (by simp) hg.size
 have hold : ∀ b, b < W.heap.size → pv.ownBlock ≠ some b → W5.heap[b]? = W.heap[b]? := fun b hb hne => by
  rw [hg.block b (by simp; omega) (fun e => hne e.symm)]
  exact Below.heap_alloc W o b hb
 have hne : ∀ b, b < w.heap.size → pv.ownBlock ≠ some b := fun b hb e => by have := (h.own.lt b e).1; omega
 have hG : G2 R C W W5 ∨ True := .inr trivial
 have hgw : G2 R C w W5 := ⟨hg.os.trans h.gr.os, hg.tape.trans h.gr.tape, hg.output.trans h.gr.output, Nat.le_trans hsz hsz2, fun b hb e1 e2 => (hold b (by omega) (hne b hb)).trans (h.gr.block b hb e1 e2)⟩
 have hmv : ∀ {v : Value} {y : Ex}, Expr (fun b => w.heap.size ≤ b ∧ pv.ownBlock ≠ some b) W v y → Expr (fun b => w.heap.size ≤ b ∧ (Value.slice (some ⟨g, 0, none⟩) (us ++ [u]).length cap).ownBlock ≠ some b) W5 v y := fun he => by
  refine he.moved hsz2 fun b hb hok => ⟨⟨hok.1, fun e => ?_⟩, hold b hb hok.2⟩
  have e2 : g = b := by simpa [Value.ownBlock] using e
  rcases hat with e3 | e3
  ·exact hok.2 (by rw [e3, e2])
  ·omega
 have hRX : RX W5 R C s t := by
  have k : ∀ (g j : Nat) (v : Value), g < 16 → W.cell? ⟨g, j, none⟩ = some v → W5.cell? ⟨g, j, none⟩ = some v := fun g j v hg16 hc => by
   have := h.rx.big.1
   exact (World.cell?_of_block (a := ⟨g, j, none⟩) (hold g (lt_of_cellQ hc) (hne g (by omega)))).trans hc
  refine ⟨(hold R (by omega) (hne R hl.1)).trans h.rx.rd, (hold C (by omega) (hne C hl.2)).trans h.rx.ct, ?_, h.rx.big, h.rx.small, h.rx.cut⟩
  exact ⟨fun c hc => k _ _ _ (by show (8 : Nat) < 16; decide) (h.rx.utf.1 c hc), fun i hi => ⟨k _ _ _ (by show (9 : Nat) < 16; decide) (h.rx.utf.2 i hi).1, k _ _ _ (by show (9 : Nat) < 16; decide) (h.rx.utf.2 i hi).2⟩⟩
 refine ⟨hgw, hRX, hl, ?_, by simp [h.len], fun j hj => ?_⟩
 ·have e : (us ++ [u]).length = us.length + 1 := by simp
  rw [e]
  exact hown
 ·by_cases hj2 : j < xs.length
  ·obtain ⟨v, e1, e2⟩ := h.ex j hj2
   refine ⟨v, by rw [List.getElem?_append_left (by have := h.len; omega)]; exact e1, ?_⟩
   rw [show (xs ++ [x]).getD j nilE = xs.getD j nilE by simp [List.getD_eq_getElem?_getD, List.getElem?_append_left hj2]]
   exact hmv e2
  ·obtain rfl : j = xs.length := by simp at hj; omega
   refine ⟨u, by rw [← h.len]; simp, ?_⟩
   rw [show (xs ++ [x]).getD xs.length nilE = x by simp]
   exact hmv hu
/-- an expression over the row -/
theorem StK.built {w W : World} {R C : Nat} {s : ByteArray} {t : Tok} {pv : Value} {us : List Value} {xs : List Ex} (h : StK w W R C s t pv us xs) (kind num : Int) (text : ByteArray) : ∃ W', W.alloc (.cells #[.int .i64 kind, .int .i64 num, .string text, pv] 64) = W' ∧ G2 R C w W' ∧ RX W' R C s t ∧ ExB w.heap.size W' (.pointer (some ⟨W.heap.size, 0, none⟩)) (exN kind num text xs) := by
 have hb := alloc_below W (.cells #[.int .i64 kind, .int .i64 num, .string text, pv] 64)
 have hA := allocAtA W (.cells #[.int .i64 kind, .int .i64 num, .string text, pv] 64)
 refine ⟨_, rfl, h.gr.trans (G2.below hb), h.rx.below hb, ?_⟩
 have hsz := h.gr.size
 by_cases h0 : xs.length = 0
 ·have e := List.eq_nil_of_length_eq_zero h0
  subst e
  obtain ⟨a, c, hs⟩ := h.slice
  have hl : us.length = 0 := h.len
  rw [hs, hl] at hA
  rw [hs, hl]
  exact ex_leaf hA hsz
 ·obtain ⟨g, cap, hs, hg1, hg2⟩ := h.own.form (by have := h.len; omega)
  have hown := h.own
  rcases hown.2 with ⟨e, _⟩ | ⟨g', cap', cur, e, k1, k2, k3⟩
  ·rw [hs] at e; simp at e
  ·rw [hs] at e
   simp only [Value.slice.injEq, Option.some.injEq, Addr.mk.injEq, and_true, true_and] at e
   obtain ⟨rfl, rfl⟩ := e
   have k2' := (hb.block g (Array.getElem?_eq_some_iff.1 k2).1).trans k2
   rw [hs, h.len] at hA k2' hb
   rw [hs, h.len]
   refine ex_new (vs := us) hA hsz k2' k1 h.len (fun j hj => ?_) fun j hj => ?_
   ·rw [hs] at hown
    have hc := own_cellE hown (show j < us.length from hj)
    simp only [World.cell?, k2] at hc
    rw [List.getD_eq_getElem?_getD, List.getElem?_eq_getElem hj] at hc
    rw [List.getElem?_eq_getElem hj]
    simpa using hc
   ·obtain ⟨u, e1, e2⟩ := h.ex j hj
    exact ⟨u, e1, ExB.below (Expr.imp e2 fun b _ hb => hb.1) hb⟩

end Go.Proofs.YtgmmfpdekefamaaGreatDoor

namespace Go.Proofs.YtgmmfpdekefamaaGreatDoor
open Go.RowKit
set_option linter.unusedVariables false
set_option maxRecDepth 100000

/-- a row of kids was read -/
def GotK (w : World) (R C : Nat) (s : ByteArray) (xs : List Ex) (u : Tok) (e : Ending) (w' : World) : Prop := ∃ (pv : Value) (us : List Value), e = .returned pv ∧ StK w w' R C s u pv us xs
/-- one element -/
theorem els_step {s : ByteArray} {ex : Tok → RE} {f : Nat} {acc : List Ex} {t u : Tok} {x : Ex} (h : elsS s ex f acc (some t) = some (x, u)) :
  ∃ k t1, ex t = some (k, t1) ∧ ((isS [93] (some t1) = true ∧ cutE s t1.fin = some u ∧ x = exN 9 0 emptyT (acc ++ [k])) ∨ (isS [93] (some t1) = false ∧ ∃ f' t2, f' < f ∧ needS s [44] (some t1) = some t2 ∧ elsS s ex f' (acc ++ [k]) (some t2) = some (x, u))) := by
 cases f with
 | zero => cases h
 | succ f =>
  unfold elsS at h
  split at h
  ·cases h
  ·rename_i k t1 hk
   have hk' : ex t = some (k, t1) := hk
   refine ⟨k, t1, hk', ?_⟩
   split at h
   ·rename_i hc
    obtain ⟨u', h1, h2⟩ := map_some h
    cases h2
    exact .inl ⟨hc, h1, rfl⟩
   ·rename_i hc
    refine .inr ⟨by simpa using hc, f, ?_⟩
    cases hn : needS s [44] (some t1) with
    | none =>
     rw [hn] at h
     cases f with
     | zero => cases h
     | succ f => unfold elsS at h; cases h
    | some t2 =>
     rw [hn] at h
     exact ⟨t2, by omega, rfl, h⟩
theorem els_well {s : ByteArray} {ex : Tok → RE} (f : Nat) : ∀ {acc : List Ex} {t u : Tok} {x : Ex}, elsS s ex f acc (some t) = some (x, u) → wellE x = true → ∀ k ∈ acc, wellE k = true := by
 induction f using Nat.strongRecOn with
 | _ f ih =>
  intro acc t u x h hw k hk
  obtain ⟨y, t1, h1, h2⟩ := els_step h
  rcases h2 with ⟨_, _, rfl⟩ | ⟨_, f', t2, hf, _, h3⟩
  ·exact wellE_kid hw (by show k ∈ acc ++ [y]; simp [hk])
  ·exact ih f' hf h3 hw k (by simp [hk])
/-- behind an element -/
def ElN (s : ByteArray) (ex : Tok → RE) (g : Nat) (xs : List Ex) (t1 u : Tok) (x : Ex) : Prop := (isS [93] (some t1) = true ∧ cutE s t1.fin = some u ∧ x = exN 9 0 emptyT xs) ∨ (isS [93] (some t1) = false ∧ ∃ f' t2, f' < g ∧ needS s [44] (some t1) = some t2 ∧ elsS s ex f' xs (some t2) = some (x, u))
theorem ElN.well {s : ByteArray} {ex : Tok → RE} {g : Nat} {xs : List Ex} {t1 u : Tok} {x : Ex} (h : ElN s ex g xs t1 u x) (hw : wellE x = true) : ∀ k ∈ xs, wellE k = true := fun k hk => by
 rcases h with ⟨_, _, e⟩ | ⟨_, f', t2, _, _, h3⟩
 ·subst e; exact wellE_kid hw hk
 ·exact els_well f' h3 hw k hk
theorem is_not {t : Tok} {a b : UInt8} (h : isS [a] (some t) = true) (hab : a ≠ b) : isS [b] (some t) = false := by
 unfold isS at h
 simp only [Bool.and_eq_true, beq_iff_eq] at h
 show ((decide (t.kind = 6) || decide (t.kind = 4)) && (t.text.toList == [b])) = false
 rw [h.2]
 have : (([a] : List UInt8) == [b]) = false := by rw [beq_eq_false_iff_ne]; intro e; exact hab (List.cons.inj e).1
 rw [this, Bool.and_false]
set_option maxHeartbeats 8000000 in
theorem relements_any {s : ByteArray} {R C : Nat} {ex : Tok → RE} (hF : Reads s R C 35 ex) {w : World} {t u : Tok} {x : Ex} (h : RX w R C s t) (hx : listS s ex (some t) = some (x, u)) (hw : wellE x = true) :
  Calls Tryz.prog 195 #[.pointer (some ⟨R, 0, none⟩)] w fun e w' => ∃ xs, x = exN 9 0 emptyT xs ∧ GotK w R C s xs u e w' := by
 obtain ⟨i1, hj0, hj1, hj2, hj3⟩ := info_parts Tryz.infoPExpr
 unfold listS at hx
 by_cases hm : isS [93] (some t) = true
 ·rw [if_pos hm] at hx
  obtain ⟨u', k1, k2⟩ := map_some hx
  cases k2
  rw [next_some] at k1
  have HT : Hid (Calls Tryz.prog 65 #[.pointer (some ⟨R, 0, none⟩), .string ⟨#[93]⟩] w fun e w' => e = .returned (.bool true) ∧ StX w w' R C s u []) := (StX.new h).takeY (by rw [tl1]; exact mk_sign 93 rfl) (by rw [tl1]; exact hm) k1
  clear hx hw h hm hF k1
  go_enter Tryz.func195, Tryz.ntmps195
  go_wp2_with fail
  go_at_call 65
  refine HT.out.mono ?_
  rintro e w1 ⟨rfl, hs⟩
  have HS : Hid (StK w w1 R C s u (.slice none 0 0) [] []) := StK.new hs
  clear hs HT
  go_wp2
  go_ret
  exact ⟨[], rfl, _, _, rfl, HS.out⟩
 ·rw [if_neg hm] at hx
  have hmf : isS [93] (some t) = false := by simpa using hm
  have HT : Hid (Calls Tryz.prog 65 #[.pointer (some ⟨R, 0, none⟩), .string ⟨#[93]⟩] w fun e w' => e = .returned (.bool false) ∧ w' = w) := rtake_no h (by rw [tl1]; exact mk_sign 93 rfl) (by rw [tl1]; exact hmf)
  obtain ⟨k, t1, h1, h2⟩ := els_step hx
  have wk : wellE k = true := by
   rcases h2 with ⟨_, _, e⟩ | ⟨_, f', t2, _, _, h3⟩
   ·subst e; exact wellE_kid hw (by show k ∈ [] ++ [k]; simp)
   ·exact els_well f' h3 hw k (by simp)
  have HF : Hid (Reads s R C 35 ex) := hF
  have HW : Hid (wellE x = true) := hw
  have HE : Hid (Calls Tryz.prog 35 #[.pointer (some ⟨R, 0, none⟩)] w fun e w' => ∃ p : Option Addr, e = .returned (.pointer p) ∧ StK w w' R C s t1 (.slice none 0 0) [] [] ∧ Expr (fun b => w.heap.size ≤ b ∧ (Value.slice none 0 0).ownBlock ≠ some b) w' (.pointer p) k) := (StK.new (StX.new h)).read hF h1 wk
  have H2 : Hid (ElN s ex (s.size + 1) [k] t1 u x) := h2
  have hsm := h.small
  clear hx hw h hm hF hmf h1 h2 wk
  go_enter Tryz.func195, Tryz.ntmps195
  go_wp2_with fail
  go_at_call 65
  refine HT.out.mono ?_
  rintro e wq ⟨rfl, hwq⟩
  obtain rfl := hwq.symm
  clear hwq HT
  go_wp2_with fail
  go_at_call 35
  refine HE.out.mono ?_
  rintro e w2 ⟨p, rfl, hs, he⟩
  have HS : Hid (StK w w2 R C s t1 (.slice none 0 0) [] [] ∧ Expr (fun b => w.heap.size ≤ b ∧ (Value.slice none 0 0).ownBlock ≠ some b) w2 (.pointer p) k) := ⟨hs, he⟩
  have hown := hs.own
  clear hs he HE
  have hsz2 := HS.out.1.gr.size
  go_wp2_with (at_builtin; refine wpList_append_lies _ rfl _ _ 62 rfl w.heap.size 24 i1 (.pointer none) 1 8 Tryz.underlying62 hj0 hj1 hj2 hj3 rfl (by decide) (.slice none 0 0) 0 [] rfl (World.ownsRow.alloc hown _) ⟨w2.heap.size, 0, none⟩ 1 1 [.pointer p] rfl rfl (cell_one_new w2 _ _) (by intro x hx; simp at hx; subst hx; rfl) (by omega) (by unfold maxLen; omega) (by omega) (by simp; omega) (w2.heap.size + 1) (by simp) ?_)
  intro g9 cap9 w9 hown9 hg9 hat9 hlt9
  have HS9 : Hid (StK w w9 R C s t1 (.slice (some ⟨g9, 0, none⟩) 1 cap9) [.pointer p] [k]) := HS.out.1.put HS.out.2 hown9 hg9 hat9
  clear hown9 hg9 hat9 hlt9 HS hown hsz2
  go_wp2
  go_loopg [3] (s.size + 1) (fun g kv wr => ∃ (us : List Value) (xs : List Ex) (a : Option Addr) (c : Nat) (t1 : Tok), kv = .slice a us.length c ∧ us.length + g ≤ s.size + 2 ∧ Hid (StK w wr R C s t1 (.slice a us.length c) us xs) ∧ Hid (ElN s ex g xs t1 u x))
  case atStart => exact ⟨[.pointer p], [k], _, _, t1, rfl, by simp; omega, HS9, H2⟩
  case round =>
   clear HS9 H2
   obtain ⟨us, xs, a, c, t1, rfl, hle, HSr, HEr⟩ := hrel
   rcases HEr.out with ⟨e1, e2, e3⟩ | ⟨e1, f', t2, e2, e3, e4⟩
   ·have HT : Hid (Calls Tryz.prog 65 #[.pointer (some ⟨R, 0, none⟩), .string ⟨#[44]⟩] wr fun e w' => e = .returned (.bool false) ∧ w' = wr) := rtake_no HSr.out.rx (by rw [tl1]; exact mk_sign 44 rfl) (by rw [tl1]; exact is_not e1 (by decide))
    have HWn : Hid (Calls Tryz.prog 64 #[.pointer (some ⟨R, 0, none⟩), .string ⟨#[93]⟩] wr fun e w' => e = .returned (.tuple #[]) ∧ StK w w' R C s u (.slice a us.length c) us xs) := HSr.out.want (by rw [tl1]; exact mk_sign 93 rfl) (by rw [tl1]; unfold needS; rw [if_pos e1]; exact e2)
    have HX : Hid (x = exN 9 0 emptyT xs) := e3
    clear e1 e2 e3 HEr HSr HF HW
    go_wp2_with fail
    go_at_call 65
    refine HT.out.mono ?_
    rintro e wq ⟨rfl, hwq⟩
    obtain rfl := hwq.symm
    clear hwq HT
    go_wp2_with fail
    go_at_call 64
    refine HWn.out.mono ?_
    rintro e w5 ⟨rfl, hs⟩
    have HS5 : Hid (StK w w5 R C s u (.slice a us.length c) us xs) := hs
    clear hs HWn
    go_wp2
    go_ret
    exact ⟨xs, HX.out, _, us, rfl, HS5.out⟩
   ·have hy : isS [44] (some t1) = true ∧ cutE s t1.fin = some t2 := by
     unfold needS at e3
     split at e3
     ·rename_i h1; exact ⟨h1, e3⟩
     ·cases e3
    obtain ⟨k', t3, h1, h2⟩ := els_step e4
    have H2' : Hid (ElN s ex f' (xs ++ [k']) t3 u x) := h2
    have wk : wellE k' = true := H2'.out.well HW.out k' (by simp)
    have HT : Hid (Calls Tryz.prog 65 #[.pointer (some ⟨R, 0, none⟩), .string ⟨#[44]⟩] wr fun e w' => e = .returned (.bool true) ∧ StK w w' R C s t2 (.slice a us.length c) us xs) := HSr.out.takeY (by rw [tl1]; exact mk_sign 44 rfl) (by rw [tl1]; exact hy.1) hy.2
    have HE : Hid (∀ W, StK w W R C s t2 (.slice a us.length c) us xs → Calls Tryz.prog 35 #[.pointer (some ⟨R, 0, none⟩)] W fun e w' => ∃ p : Option Addr, e = .returned (.pointer p) ∧ StK w w' R C s t3 (.slice a us.length c) us xs ∧ Expr (fun b => w.heap.size ≤ b ∧ (Value.slice a us.length c).ownBlock ≠ some b) w' (.pointer p) k') := fun W hs => hs.read HF.out h1 wk
    clear e1 e3 e4 HEr HSr hy h1 h2 wk HF HW
    go_wp2_with fail
    go_at_call 65
    refine HT.out.mono ?_
    rintro e w4 ⟨rfl, hs⟩
    have HE4 := HE.out _ hs
    clear hs HT HE
    go_wp2_with fail
    go_at_call 35
    refine HE4.mono ?_
    rintro e w5 ⟨p5, rfl, hs, he⟩
    have HS : Hid (StK w w5 R C s t3 (.slice a us.length c) us xs ∧ Expr (fun b => w.heap.size ≤ b ∧ (Value.slice a us.length c).ownBlock ≠ some b) w5 (.pointer p5) k') := ⟨hs, he⟩
    have hown := hs.own
    have hsz5 := hs.gr.size
    clear hs he HE4
    go_wp2_with (at_builtin; refine wpList_append_lies _ rfl _ _ 62 rfl w.heap.size 24 i1 (.pointer none) 1 8 Tryz.underlying62 hj0 hj1 hj2 hj3 rfl (by decide) (.slice a us.length c) us.length us rfl (World.ownsRow.alloc hown _) ⟨w5.heap.size, 0, none⟩ 1 1 [.pointer p5] rfl rfl (cell_one_new w5 _ _) (by intro x hx; simp at hx; subst hx; rfl) (by omega) (by unfold maxLen; omega) (by omega) (by simp; omega) (w5.heap.size + 1) (by simp) ?_)
    intro g9 cap9 w9 hown9 hg9 hat9 hlt9
    have HS9 : Hid (StK w w9 R C s t3 (.slice (some ⟨g9, 0, none⟩) (us ++ [Value.pointer p5]).length cap9) (us ++ [Value.pointer p5]) (xs ++ [k'])) := HS.out.1.put HS.out.2 hown9 hg9 hat9
    clear hown9 hg9 hat9 hlt9 HS hown hsz5
    go_wp2
    go_roundg f'
    case rel => exact ⟨us ++ [Value.pointer p5], xs ++ [k'], some ⟨g9, 0, none⟩, cap9, t3, by simp, by simp; omega, HS9, H2'⟩
    exact e2

end Go.Proofs.YtgmmfpdekefamaaGreatDoor

namespace Go.Proofs.YtgmmfpdekefamaaGreatDoor
open Go.RowKit
set_option linter.unusedVariables false
set_option maxRecDepth 100000

theorem StK.one {w W : World} {R C : Nat} {s : ByteArray} {t : Tok} {u : Value} {x : Ex} (h : StK w W R C s t (.slice none 0 0) [] []) (hu : Expr (fun b => w.heap.size ≤ b ∧ (Value.slice none 0 0).ownBlock ≠ some b) W u x) : StK w (W.alloc (.cells #[u] 24)) R C s t (.slice (some ⟨W.heap.size, 0, none⟩) 1 1) [u] [x] := by
 have hb := alloc_below W (.cells #[u] 24)
 have hsz := h.gr.size
 refine ⟨h.gr.trans (G2.below hb), h.rx.below hb, h.lt, ⟨rfl, .inr ⟨_, 1, #[u], rfl, hsz, allocAtA W _, Nat.le_refl _, by unfold maxLen; omega, rfl, rfl⟩⟩, rfl, fun j hj => ?_⟩
 obtain rfl : j = 0 := by simp at hj; omega
 refine ⟨u, rfl, ?_⟩
 refine hu.moved hb.size fun b hb2 hok => ⟨⟨hok.1, fun e => ?_⟩, hb.block b hb2⟩
 have e2 : W.heap.size = b := by simpa [Value.ownBlock] using e
 omega
theorem arg_next {s : ByteArray} {ex : Tok → RE} {n : Nat} {acc l : List Ex} {t u : Tok} (h : argS s ex (n + 1) acc (some t) = some (l, u)) (ha : acc ≠ []) : ∃ t2 k t3, needS s [44] (some t) = some t2 ∧ ex t2 = some (k, t3) ∧ argS s ex n (acc ++ [k]) (some t3) = some (l, u) := by
 unfold argS at h
 rw [if_neg (by simpa using ha)] at h
 split at h
 ·cases h
 ·rename_i k t3 h1
  obtain ⟨t2, k1, k2⟩ := bind_two h1
  exact ⟨t2, k, t3, k1, k2, h⟩
theorem arg_first {s : ByteArray} {ex : Tok → RE} {n : Nat} {l : List Ex} {o : Option Tok} {u : Tok} (h : argS s ex (n + 1) [] o = some (l, u)) : ∃ t k t3, o = some t ∧ ex t = some (k, t3) ∧ argS s ex n [k] (some t3) = some (l, u) := by
 have h' : (match o.bind ex with
  | none => none
  | some (k, t) => argS s ex n [k] (some t)) = some (l, u) := h
 clear h
 split at h'
 ·cases h'
 ·rename_i k t3 h1
  obtain ⟨t2, k1, k2⟩ := bind_two h1
  exact ⟨t2, k, t3, k1, k2, h'⟩
theorem arg_zero {s : ByteArray} {ex : Tok → RE} {acc l : List Ex} {t u : Tok} (h : argS s ex 0 acc (some t) = some (l, u)) : l = acc ∧ u = t := by
 unfold argS at h
 cases h
 exact ⟨rfl, rfl⟩
theorem arg_sub {s : ByteArray} {ex : Tok → RE} : ∀ (n : Nat) {acc l : List Ex} {t u : Tok}, acc ≠ [] → argS s ex n acc (some t) = some (l, u) → ∀ k ∈ acc, k ∈ l
 | 0, acc, l, t, u, _, h, k, hk => by rw [(arg_zero h).1]; exact hk
 | n + 1, acc, l, t, u, ha, h, k, hk => by
  obtain ⟨t2, k', t3, _, _, h3⟩ := arg_next h ha
  exact arg_sub n (by simp) h3 k (by simp [hk])
theorem call_parts {s : ByteArray} {ex : Tok → RE} {n : Nat} {fn : ByteArray} {t u : Tok} {x : Ex} (h : callS s ex (n + 1) fn (some t) = some (x, u)) : ∃ t1 k t2 l t3, needS s [40] (some t) = some t1 ∧ ex t1 = some (k, t2) ∧ argS s ex n [k] (some t2) = some (l, t3) ∧ needS s [41] (some t3) = some u ∧ x = exN 10 0 fn l := by
 unfold callS at h
 split at h
 ·cases h
 ·rename_i l t3 h1
  obtain ⟨u', k1, k2⟩ := map_some h
  cases k2
  obtain ⟨t1, k, t2, e1, e2, e3⟩ := arg_first h1
  exact ⟨t1, k, t2, l, t3, e1, e2, e3, k1, rfl⟩
set_option maxHeartbeats 8000000 in
theorem rcall_any {s : ByteArray} {R C : Nat} {ex : Tok → RE} (hF : Reads s R C 35 ex) {fn : ByteArray} {N : Nat} (hN : kidsL fn.toList = ((N + 1 : Nat) : Int)) (hN3 : N ≤ 2) {w : World} {t u : Tok} {x : Ex} (h : RX w R C s t) (hx : callS s ex (N + 1) fn (some t) = some (x, u)) (hw : wellE x = true) :
  Calls Tryz.prog 196 #[.pointer (some ⟨R, 0, none⟩), .string fn] w (GotR w R C s x u) := by
 obtain ⟨i1, hj0, hj1, hj2, hj3⟩ := info_parts Tryz.infoPExpr
 obtain ⟨t1, k, t2, l, t9, k1, k2, k3, k4, rfl⟩ := call_parts hx
 have wk : wellE k = true := wellE_kid hw (arg_sub N (by simp) k3 k (by simp))
 have HW : Hid (∀ k ∈ l, wellE k = true) := fun k hk => wellE_kid hw hk
 have H0 : Hid (Calls Tryz.prog 64 #[.pointer (some ⟨R, 0, none⟩), .string ⟨#[40]⟩] w fun e w' => e = .returned (.tuple #[]) ∧ StK w w' R C s t1 (.slice none 0 0) [] []) := (StK.new (StX.new h)).want (by rw [tl1]; exact mk_sign 40 rfl) (by rw [tl1]; exact k1)
 have H1 : Hid (∀ W, StK w W R C s t1 (.slice none 0 0) [] [] → Calls Tryz.prog 35 #[.pointer (some ⟨R, 0, none⟩)] W fun e w' => ∃ p : Option Addr, e = .returned (.pointer p) ∧ StK w w' R C s t2 (.slice none 0 0) [] [] ∧ Expr (fun b => w.heap.size ≤ b ∧ (Value.slice none 0 0).ownBlock ≠ some b) w' (.pointer p) k) := fun W hs => hs.read hF k2 wk
 have HF : Hid (Reads s R C 35 ex) := hF
 have H2 : Hid (argS s ex N [k] (some t2) = some (l, t9)) := k3
 have H9 : Hid (∀ W pv us, StK w W R C s t9 pv us l → Calls Tryz.prog 64 #[.pointer (some ⟨R, 0, none⟩), .string ⟨#[41]⟩] W fun e w' => e = .returned (.tuple #[]) ∧ StK w w' R C s u pv us l) := fun W pv us hs => hs.want (by rw [tl1]; exact mk_sign 41 rfl) (by rw [tl1]; exact k4)
 have HT : Hid (∀ W, Calls Tryz.prog 95 #[.string fn] W fun e w' => e = .returned (.int .i64 ((N : Int) + 1)) ∧ w' = W) := fun W => by have := takes_any fn W; rw [hN] at this; exact this
 clear hx hw h k1 k2 k3 k4 wk hF hN
 go_enter Tryz.func196, Tryz.ntmps196
 go_wp2_with fail
 go_at_call 64
 refine H0.out.mono ?_
 rintro e w1 ⟨rfl, hs⟩
 have HE := H1.out _ hs
 clear hs H0 H1
 go_wp2_with fail
 go_at_call 35
 refine HE.mono ?_
 rintro e w2 ⟨p, rfl, hs, he⟩
 have HS : Hid (StK w (w2.alloc (.cells #[.pointer p] 24)) R C s t2 (.slice (some ⟨w2.heap.size, 0, none⟩) 1 1) [.pointer p] [k]) := StK.one hs he
 clear hs he HE
 go_wp2
 go_loopg [5] N (fun g kv wr => ∃ (us : List Value) (xs : List Ex) (a : Option Addr) (c : Nat) (t1 : Tok) (m : Nat), kv = .slice a us.length c ∧ m = g ∧ us.length + m = N + 1 ∧ Hid (xs ≠ []) ∧ Hid (StK w wr R C s t1 (.slice a us.length c) us xs) ∧ Hid (argS s ex m xs (some t1) = some (l, t9)))
 case atStart => exact ⟨[.pointer p], [k], some ⟨w2.heap.size, 0, none⟩, 1, t2, N, rfl, rfl, by simp; omega, by show _ ≠ _; simp, HS, H2⟩
 case round =>
  clear HS H2
  obtain ⟨us, xs, a, c, t1, m, rfl, hm, hle, HNe, HSr, HAr⟩ := hrel
  cases m with
  | zero =>
   obtain ⟨e1, e2⟩ := arg_zero HAr.out
   subst e1; subst e2
   have hlt : ((us.length : Int) < (N : Int) + 1) = False := eq_false (by omega)
   have HWn := H9.out _ _ _ HSr.out
   have hsl := HSr.out.rx.small
   clear HAr H9 HF HW hm
   go_wp2_with fail
   go_at_call 95
   refine (HT.out _).mono ?_
   rintro e wq ⟨rfl, hwq⟩
   obtain rfl := hwq.symm
   clear hwq HT
   go_wp2_with fail
   go_at_call 64
   refine HWn.mono ?_
   rintro e w5 ⟨rfl, hs⟩
   have HB : Hid (∃ W', w5.alloc (.cells #[.int .i64 10, .int .i64 0, .string fn, .slice a us.length c] 64) = W' ∧ G2 R C w W' ∧ RX W' R C s u ∧ ExB w.heap.size W' (.pointer (some ⟨w5.heap.size, 0, none⟩)) (exN 10 0 fn l)) := hs.built 10 0 fn
   clear hs HWn HSr
   go_wp2
   go_ret
   obtain ⟨W', e1, e2, e3, e4⟩ := HB.out
   rw [e1]
   exact ⟨_, rfl, e2, e3, e4⟩
  | succ m =>
   obtain ⟨t3, k', t4, e1, e2, e3⟩ := arg_next HAr.out HNe.out
   have wk' : wellE k' = true := HW.out _ (arg_sub m (by simp) e3 k' (by simp))
   have H2' : Hid (argS s ex m (xs ++ [k']) (some t4) = some (l, t9)) := e3
   have HWn : Hid (Calls Tryz.prog 64 #[.pointer (some ⟨R, 0, none⟩), .string ⟨#[44]⟩] wr fun e w' => e = .returned (.tuple #[]) ∧ StK w w' R C s t3 (.slice a us.length c) us xs) := HSr.out.want (by rw [tl1]; exact mk_sign 44 rfl) (by rw [tl1]; exact e1)
   have HE : Hid (∀ W, StK w W R C s t3 (.slice a us.length c) us xs → Calls Tryz.prog 35 #[.pointer (some ⟨R, 0, none⟩)] W fun e w' => ∃ p : Option Addr, e = .returned (.pointer p) ∧ StK w w' R C s t4 (.slice a us.length c) us xs ∧ Expr (fun b => w.heap.size ≤ b ∧ (Value.slice a us.length c).ownBlock ≠ some b) w' (.pointer p) k') := fun W hs => hs.read HF.out e2 wk'
   have hlt : ((us.length : Int) < (N : Int) + 1) = True := eq_true (by omega)
   clear HAr H9 HF HW HSr e1 e2 e3 wk'
   go_wp2_with fail
   go_at_call 95
   refine (HT.out _).mono ?_
   rintro e wq ⟨rfl, hwq⟩
   obtain rfl := hwq.symm
   clear hwq HT
   go_wp2_with fail
   go_at_call 64
   refine HWn.out.mono ?_
   rintro e w4 ⟨rfl, hs⟩
   have HE4 := HE.out _ hs
   clear hs HWn HE
   go_wp2_with fail
   go_at_call 35
   refine HE4.mono ?_
   rintro e w5 ⟨p5, rfl, hs, he⟩
   have HS : Hid (StK w w5 R C s t4 (.slice a us.length c) us xs ∧ Expr (fun b => w.heap.size ≤ b ∧ (Value.slice a us.length c).ownBlock ≠ some b) w5 (.pointer p5) k') := ⟨hs, he⟩
   have hown := hs.own
   have hsz5 := hs.gr.size
   clear hs he HE4
   go_wp2_with (at_builtin; refine wpList_append_lies _ rfl _ _ 62 rfl w.heap.size 24 i1 (.pointer none) 1 8 Tryz.underlying62 hj0 hj1 hj2 hj3 rfl (by decide) (.slice a us.length c) us.length us rfl (World.ownsRow.alloc hown _) ⟨w5.heap.size, 0, none⟩ 1 1 [.pointer p5] rfl rfl (cell_one_new w5 _ _) (by intro x hx; simp at hx; subst hx; rfl) (by omega) (by unfold maxLen; omega) (by omega) (by simp; omega) (w5.heap.size + 1) (by simp) ?_)
   intro g9 cap9 w9 hown9 hg9 hat9 hlt9
   have HS9 : Hid (StK w w9 R C s t4 (.slice (some ⟨g9, 0, none⟩) (us ++ [Value.pointer p5]).length cap9) (us ++ [Value.pointer p5]) (xs ++ [k'])) := HS.out.1.put HS.out.2 hown9 hg9 hat9
   clear hown9 hg9 hat9 hlt9 HS hown hsz5
   go_wp2
   go_roundg m
   case rel => exact ⟨us ++ [Value.pointer p5], xs ++ [k'], some ⟨g9, 0, none⟩, cap9, t4, m, by simp, rfl, by simp; omega, by show _ ≠ _; simp, HS9, H2'⟩
   omega

end Go.Proofs.YtgmmfpdekefamaaGreatDoor
