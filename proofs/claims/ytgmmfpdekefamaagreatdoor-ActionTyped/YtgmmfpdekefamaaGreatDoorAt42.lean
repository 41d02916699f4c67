/- Texts of the proof, put together: QLf, QSt, QNeg, QOps, QOpl. -/
import Derived.Test.YtgmmfpdekefamaaGreatDoorAt41
import Derived.Test.YtgmmfpdekefamaaGreatDoorAt36
import Derived.Test.YtgmmfpdekefamaaGreatDoorAt15
import Derived.Test.YtgmmfpdekefamaaGreatDoorAt13
import Derived.Deep.LoopGhost
namespace Go.Proofs.YtgmmfpdekefamaaGreatDoor
open Go.RowKit
set_option linter.unusedVariables false
set_option maxRecDepth 100000

/-- an expression was read, and the reader stands behind it -/
def GotR (w : World) (R C : Nat) (s : ByteArray) (x : Ex) (u : Tok) (e : Ending) (w' : World) : Prop := ∃ p : Option Addr, e = .returned (.pointer p) ∧ G2 R C w w' ∧ RX w' R C s u ∧ ExB w.heap.size w' (.pointer p) x
theorem ExB.g2 {B R C : Nat} {w w' : World} {v : Value} {x : Ex} (h : ExB B w v x) (hg : G2 R C w w') (hR : R < B) (hC : C < B) : ExB B w' v x :=
 h.moved hg.size fun b hb hok => ⟨hok, hg.block b hb (by omega) (by omega)⟩
theorem RX.lt {w : World} {R C : Nat} {s : ByteArray} {t : Tok} (h : RX w R C s t) : R < w.heap.size ∧ C < w.heap.size := ⟨h.rd.lt, h.ct.lt⟩
theorem GotR.from {w0 w : World} {R C : Nat} {s : ByteArray} {x : Ex} {u : Tok} {e : Ending} {w' : World} (h : GotR w R C s x u e w') (hg : G2 R C w0 w) : GotR w0 R C s x u e w' := by
 obtain ⟨p, h1, h2, h3, h4⟩ := h
 exact ⟨p, h1, hg.trans h2, h3, h4.mono hg.size⟩
/-- a reader of expressions, in plain data and in the program -/
def Reads (s : ByteArray) (R C : Nat) (F : Nat) (ex : Tok → RE) : Prop := ∀ (w : World) (t u : Tok) (x : Ex), RX w R C s t → ex t = some (x, u) → wellE x = true → Calls Tryz.prog F #[.pointer (some ⟨R, 0, none⟩)] w (GotR w R C s x u)

set_option maxHeartbeats 4000000 in
theorem leaf_any (k : Int) (fr : Nat) (x : ByteArray) (n : Int) (hk : k = 1 ∨ k = 2 ∨ k = 3 ∨ k = 4) (w : World) :
  Calls Tryz.prog 184 #[.agg #[.int .i64 k, .int .i64 (fr : Int), .string x, .int .i64 n]] w fun e w' => ∃ q, e = .returned (.pointer (some ⟨q, 0, none⟩)) ∧ Below w.heap.size w w' ∧ ExB w.heap.size w' (.pointer (some ⟨q, 0, none⟩)) (if k = 1 ∨ k = 3 then exN k n emptyT [] else exN k 0 x []) := by
 have hb1 := alloc_below w (.cells #[.int .i64 k, .int .i64 (fr : Int), .string x, .int .i64 n] 125)
 rcases hk with rfl | rfl | rfl | rfl
 ·have hb2 := alloc_below (w.alloc (.cells #[.int .i64 1, .int .i64 (fr : Int), .string x, .int .i64 n] 125)) (.cells #[.int .i64 1, .int .i64 n, .string ⟨#[]⟩, .slice none 0 0] 64)
  have HE : Hid (Below w.heap.size w ((w.alloc (.cells #[.int .i64 1, .int .i64 (fr : Int), .string x, .int .i64 n] 125)).alloc (.cells #[.int .i64 1, .int .i64 n, .string ⟨#[]⟩, .slice none 0 0] 64)) ∧ ExB w.heap.size ((w.alloc (.cells #[.int .i64 1, .int .i64 (fr : Int), .string x, .int .i64 n] 125)).alloc (.cells #[.int .i64 1, .int .i64 n, .string ⟨#[]⟩, .slice none 0 0] 64)) (.pointer (some ⟨w.heap.size + 1, 0, none⟩)) (exN 1 n emptyT [])) := by
   refine ⟨hb1.trans (hb2.mono (by rw [alloc_size]; omega)), ex_leaf (a := none) (cap := 0) ?_ (by omega)⟩
   have := allocAtA (w.alloc (.cells #[.int .i64 1, .int .i64 (fr : Int), .string x, .int .i64 n] 125)) (.cells #[.int .i64 1, .int .i64 n, .string ⟨#[]⟩, .slice none 0 0] 64)
   rw [alloc_size] at this
   exact this
  clear hb1 hb2
  go_enter Tryz.func184, Tryz.ntmps184
  go_wp2
  go_ret
  exact ⟨_, rfl, HE.out.1, HE.out.2⟩
 ·have hb2 := alloc_below (w.alloc (.cells #[.int .i64 2, .int .i64 (fr : Int), .string x, .int .i64 n] 125)) (.cells #[.int .i64 2, .int .i64 0, .string x, .slice none 0 0] 64)
  have HE : Hid (Below w.heap.size w ((w.alloc (.cells #[.int .i64 2, .int .i64 (fr : Int), .string x, .int .i64 n] 125)).alloc (.cells #[.int .i64 2, .int .i64 0, .string x, .slice none 0 0] 64)) ∧ ExB w.heap.size ((w.alloc (.cells #[.int .i64 2, .int .i64 (fr : Int), .string x, .int .i64 n] 125)).alloc (.cells #[.int .i64 2, .int .i64 0, .string x, .slice none 0 0] 64)) (.pointer (some ⟨w.heap.size + 1, 0, none⟩)) (exN 2 0 x [])) := by
   refine ⟨hb1.trans (hb2.mono (by rw [alloc_size]; omega)), ex_leaf (a := none) (cap := 0) ?_ (by omega)⟩
   have := allocAtA (w.alloc (.cells #[.int .i64 2, .int .i64 (fr : Int), .string x, .int .i64 n] 125)) (.cells #[.int .i64 2, .int .i64 0, .string x, .slice none 0 0] 64)
   rw [alloc_size] at this
   exact this
  clear hb1 hb2
  go_enter Tryz.func184, Tryz.ntmps184
  go_wp2
  go_ret
  exact ⟨_, rfl, HE.out.1, HE.out.2⟩
 ·have hb2 := alloc_below (w.alloc (.cells #[.int .i64 3, .int .i64 (fr : Int), .string x, .int .i64 n] 125)) (.cells #[.int .i64 3, .int .i64 n, .string ⟨#[]⟩, .slice none 0 0] 64)
  have HE : Hid (Below w.heap.size w ((w.alloc (.cells #[.int .i64 3, .int .i64 (fr : Int), .string x, .int .i64 n] 125)).alloc (.cells #[.int .i64 3, .int .i64 n, .string ⟨#[]⟩, .slice none 0 0] 64)) ∧ ExB w.heap.size ((w.alloc (.cells #[.int .i64 3, .int .i64 (fr : Int), .string x, .int .i64 n] 125)).alloc (.cells #[.int .i64 3, .int .i64 n, .string ⟨#[]⟩, .slice none 0 0] 64)) (.pointer (some ⟨w.heap.size + 1, 0, none⟩)) (exN 3 n emptyT [])) := by
   refine ⟨hb1.trans (hb2.mono (by rw [alloc_size]; omega)), ex_leaf (a := none) (cap := 0) ?_ (by omega)⟩
   have := allocAtA (w.alloc (.cells #[.int .i64 3, .int .i64 (fr : Int), .string x, .int .i64 n] 125)) (.cells #[.int .i64 3, .int .i64 n, .string ⟨#[]⟩, .slice none 0 0] 64)
   rw [alloc_size] at this
   exact this
  clear hb1 hb2
  go_enter Tryz.func184, Tryz.ntmps184
  go_wp2
  go_ret
  exact ⟨_, rfl, HE.out.1, HE.out.2⟩
 ·have hb2 := alloc_below (w.alloc (.cells #[.int .i64 4, .int .i64 (fr : Int), .string x, .int .i64 n] 125)) (.cells #[.int .i64 4, .int .i64 0, .string x, .slice none 0 0] 64)
  have HE : Hid (Below w.heap.size w ((w.alloc (.cells #[.int .i64 4, .int .i64 (fr : Int), .string x, .int .i64 n] 125)).alloc (.cells #[.int .i64 4, .int .i64 0, .string x, .slice none 0 0] 64)) ∧ ExB w.heap.size ((w.alloc (.cells #[.int .i64 4, .int .i64 (fr : Int), .string x, .int .i64 n] 125)).alloc (.cells #[.int .i64 4, .int .i64 0, .string x, .slice none 0 0] 64)) (.pointer (some ⟨w.heap.size + 1, 0, none⟩)) (exN 4 0 x [])) := by
   refine ⟨hb1.trans (hb2.mono (by rw [alloc_size]; omega)), ex_leaf (a := none) (cap := 0) ?_ (by omega)⟩
   have := allocAtA (w.alloc (.cells #[.int .i64 4, .int .i64 (fr : Int), .string x, .int .i64 n] 125)) (.cells #[.int .i64 4, .int .i64 0, .string x, .slice none 0 0] 64)
   rw [alloc_size] at this
   exact this
  clear hb1 hb2
  go_enter Tryz.func184, Tryz.ntmps184
  go_wp2
  go_ret
  exact ⟨_, rfl, HE.out.1, HE.out.2⟩

/-- unit, at what is an expression alone -/
theorem runit_leaf {w : World} {R C : Nat} {s : ByteArray} {t u : Tok} {k n : Int} {x : ByteArray} (h : RX w R C s t) (hk : k = 1 ∨ k = 2 ∨ k = 3 ∨ k = 4) (hp : ptF t = ⟨k, t.fr, x, n⟩) (hu : cutE s t.fin = some u) :
  Calls Tryz.prog 164 #[.pointer (some ⟨R, 0, none⟩)] w (GotR w R C s (if k = 1 ∨ k = 3 then exN k n emptyT [] else exN k 0 x []) u) := by
 have HS : Hid (Calls Tryz.prog 63 #[.pointer (some ⟨R, 0, none⟩)] w fun e w' => e = .returned (.agg #[.int .i64 k, .int .i64 (t.fr : Int), .string x, .int .i64 n]) ∧ G2 R C w w' ∧ RX w' R C s u) := by have := rstep_any h hu; rw [hp] at this; exact this
 have HL : Hid (∀ w1, G2 R C w w1 → RX w1 R C s u → Calls Tryz.prog 184 #[.agg #[.int .i64 k, .int .i64 (t.fr : Int), .string x, .int .i64 n]] w1 (GotR w R C s (if k = 1 ∨ k = 3 then exN k n emptyT [] else exN k 0 x []) u)) := fun w1 hg hx => (leaf_any k t.fr x n hk w1).mono fun e w' ⟨q, q1, q2, q3⟩ => ⟨_, q1, hg.trans (G2.below q2), hx.below q2, q3.mono hg.size⟩
 obtain ⟨c0, c1, c2, c3, c4⟩ := h.rd.cells
 have hlt := h.rd.lt
 rw [hp] at c0 c1 c2 c3
 simp only at c0 c1 c2 c3
 clear h hp hu
 generalize (if k = 1 ∨ k = 3 then exN k n emptyT [] else exN k 0 x []) = y at *
 rcases hk with rfl | rfl | rfl | rfl
 all_goals
  go_enter Tryz.func164, Tryz.ntmps164
  go_wp2_with fail
  go_at_call 63
  refine HS.out.mono ?_
  rintro e w2 ⟨rfl, hG, hX⟩
  have HL2 := HL.out w2 hG hX
  clear hG hX HS HL
  go_wp2_with fail
  go_at_call 184
  refine HL2.mono ?_
  rintro e w3 ⟨p, rfl, h2, h3, h4⟩
  have HG : Hid (G2 R C w w3 ∧ RX w3 R C s u ∧ ExB w.heap.size w3 (.pointer p) y) := ⟨h2, h3, h4⟩
  clear h2 h3 h4 HL2
  go_wp2
  go_ret
  exact ⟨p, rfl, HG.out⟩

end Go.Proofs.YtgmmfpdekefamaaGreatDoor

namespace Go.Proofs.YtgmmfpdekefamaaGreatDoor
open Go.RowKit
set_option linter.unusedVariables false
set_option maxRecDepth 100000

/-- on the way: what was read lies there -/
structure StX (w W : World) (R C : Nat) (s : ByteArray) (t : Tok) (l : List (Value × Ex)) : Prop where
 gr : G2 R C w W
 rx : RX W R C s t
 lt : R < w.heap.size ∧ C < w.heap.size
 ex : ∀ a ∈ l, ExB w.heap.size W a.1 a.2
theorem StX.new {w : World} {R C : Nat} {s : ByteArray} {t : Tok} (h : RX w R C s t) : StX w w R C s t [] := ⟨G2.refl _ _ _, h, h.lt, fun a ha => by cases ha⟩
theorem StX.step {w W W' : World} {R C : Nat} {s : ByteArray} {t u : Tok} {l : List (Value × Ex)} (h : StX w W R C s t l) (hg : G2 R C W W') (hx : RX W' R C s u) : StX w W' R C s u l :=
 ⟨h.gr.trans hg, hx, h.lt, fun a ha => (h.ex a ha).g2 hg h.lt.1 h.lt.2⟩
theorem StX.add {w W W' : World} {R C : Nat} {s : ByteArray} {t u : Tok} {l : List (Value × Ex)} {v : Value} {x : Ex} (h : StX w W R C s t l) (hg : G2 R C W W') (hx : RX W' R C s u) (he : ExB W.heap.size W' v x) : StX w W' R C s u (l ++ [(v, x)]) := by
 have h1 := h.step hg hx
 refine ⟨h1.gr, hx, h.lt, fun a ha => ?_⟩
 rcases List.mem_append.1 ha with ha | ha
 ·exact h1.ex a ha
 ·rw [List.mem_singleton.1 ha]; exact he.mono h.gr.size
theorem StX.want {w W : World} {R C : Nat} {s : ByteArray} {t u : Tok} {l : List (Value × Ex)} (h : StX w W R C s t l) {x : ByteArray} (hX : MkL x.toList) (hu : needS s x.toList (some t) = some u) : Calls Tryz.prog 64 #[.pointer (some ⟨R, 0, none⟩), .string x] W fun e w' => e = .returned (.tuple #[]) ∧ StX w w' R C s u l :=
 (rwant_any h.rx hX hu).mono fun e w' ⟨q1, q2, q3⟩ => ⟨q1, h.step q2 q3⟩
theorem StX.takeY {w W : World} {R C : Nat} {s : ByteArray} {t u : Tok} {l : List (Value × Ex)} (h : StX w W R C s t l) {x : ByteArray} (hX : MkL x.toList) (hn : isS x.toList (some t) = true) (hu : cutE s t.fin = some u) : Calls Tryz.prog 65 #[.pointer (some ⟨R, 0, none⟩), .string x] W fun e w' => e = .returned (.bool true) ∧ StX w w' R C s u l :=
 (rtake_yes h.rx hX hn hu).mono fun e w' ⟨q1, q2, q3⟩ => ⟨q1, h.step q2 q3⟩
theorem StX.name {w W : World} {R C : Nat} {s : ByteArray} {t u : Tok} {l : List (Value × Ex)} (h : StX w W R C s t l) (hu : nameS s (some t) = some u) : Calls Tryz.prog 121 #[.pointer (some ⟨R, 0, none⟩)] W fun e w' => e = .returned (.string t.text) ∧ StX w w' R C s u l :=
 (rname_str h.rx hu).mono fun e w' ⟨q1, q2, q3⟩ => ⟨q1, h.step q2 q3⟩
theorem StX.read {w W : World} {R C : Nat} {s : ByteArray} {t u : Tok} {l : List (Value × Ex)} {F : Nat} {ex : Tok → RE} {x : Ex} (h : StX w W R C s t l) (hF : Reads s R C F ex) (hx : ex t = some (x, u)) (hw : wellE x = true) : Calls Tryz.prog F #[.pointer (some ⟨R, 0, none⟩)] W fun e w' => ∃ p : Option Addr, e = .returned (.pointer p) ∧ StX w w' R C s u (l ++ [(.pointer p, x)]) :=
 (hF W t u x h.rx hx hw).mono fun e w' ⟨p, q1, q2, q3, q4⟩ => ⟨p, q1, h.add q2 q3 q4⟩
theorem StX.built {w W : World} {R C : Nat} {s : ByteArray} {u : Tok} {l : List (Value × Ex)} (h : StX w W R C s u l) (hl : l ≠ []) (kind num : Int) (text : ByteArray) : ∃ W', (W.alloc (.cells (l.map Prod.fst).toArray 24)).alloc (.cells #[.int .i64 kind, .int .i64 num, .string text, .slice (some ⟨W.heap.size, 0, none⟩) l.length l.length] 64) = W' ∧ G2 R C w W' ∧ RX W' R C s u ∧ ExB w.heap.size W' (.pointer (some ⟨W.heap.size + 1, 0, none⟩)) (exN kind num text (l.map Prod.snd)) := by
 obtain ⟨W', h1, h2, h3⟩ := ex_built (B := w.heap.size) (w := W) h.gr.size kind num text (l.map Prod.fst) (l.map Prod.snd) (by simp) (by simpa using hl) (fun j hj => by
  have hj' : j < l.length := by simpa using hj
  refine ⟨l[j].1, by simp [hj'], ?_⟩
  have := h.ex l[j] (List.getElem_mem hj')
  simpa [List.getD, hj'] using this)
 refine ⟨W', ?_, h.gr.trans (G2.below h2), h.rx.below h2, h3⟩
 rw [← h1]
 simp
theorem mk_let : MkL [108, 101, 116] := .inl rfl
theorem mk_if : MkL [105, 102] := .inl rfl
theorem mk_in : MkL [105, 110] := .inl rfl
theorem mk_then : MkL [116, 104, 101, 110] := .inl rfl
theorem mk_else : MkL [101, 108, 115, 101] := .inl rfl
theorem mk_sign (b : UInt8) (h : smallB (b.toNat : Int) = false) : MkL [b] := .inr (.inr ⟨b, [], rfl, h⟩)
theorem tl1 (b : UInt8) : (⟨#[b]⟩ : ByteArray).toList = [b] := Lib.toList_data _

theorem bind_two {α β : Type} {o : Option α} {f : α → Option β} {b : β} (h : o.bind f = some b) : ∃ a, o = some a ∧ f a = some b := by
 cases o with
 | none => cases h
 | some a => exact ⟨a, rfl, h⟩
theorem let_parts {s : ByteArray} {ex : Tok → RE} {t u : Tok} {x : Ex} (h : letS s ex (some t) = some (x, u)) : ∃ t1 t2 t3 t4 v b, nameS s (some t) = some t1 ∧ needS s [61] (some t1) = some t2 ∧ ex t2 = some (v, t3) ∧ needS s inL (some t3) = some t4 ∧ ex t4 = some (b, u) ∧ x = exN 5 0 t.text [v, b] := by
 unfold letS at h
 split at h
 ·cases h
 ·rename_i v t3 h1
  split at h
  ·cases h
  ·rename_i b t4 h2
   obtain ⟨t2, k1, k2⟩ := bind_two h1
   obtain ⟨t4', k3, k4⟩ := bind_two h2
   cases hn : nameS s (some t) with
   | none => rw [hn] at k1; simp [needS, isS] at k1
   | some t1 =>
    rw [hn] at k1
    cases h
    exact ⟨t1, t2, t3, t4', v, b, rfl, k1, k2, k3, k4, rfl⟩
theorem if_parts {s : ByteArray} {ex : Tok → RE} {t u : Tok} {x : Ex} (h : ifS s ex (some t) = some (x, u)) : ∃ t1 t2 t3 t4 a b c, ex t = some (a, t1) ∧ needS s thenL (some t1) = some t2 ∧ ex t2 = some (b, t3) ∧ needS s elseL (some t3) = some t4 ∧ ex t4 = some (c, u) ∧ x = exN 6 0 emptyT [a, b, c] := by
 unfold ifS at h
 split at h
 ·cases h
 ·rename_i a t1 h1
  split at h
  ·cases h
  ·rename_i b t3 h2
   split at h
   ·cases h
   ·rename_i c t5 h3
    obtain ⟨t2, k1, k2⟩ := bind_two h2
    obtain ⟨t4, k3, k4⟩ := bind_two h3
    cases h
    exact ⟨t1, t2, t3, t4, a, b, c, h1, k1, k2, k3, k4, rfl⟩

set_option maxHeartbeats 8000000 in
theorem rlet_any {s : ByteArray} {R C : Nat} {ex : Tok → RE} (hF : Reads s R C 35 ex) {w : World} {t u : Tok} {x : Ex} (h : RX w R C s t) (hx : letS s ex (some t) = some (x, u)) (hw : wellE x = true) : Calls Tryz.prog 66 #[.pointer (some ⟨R, 0, none⟩)] w (GotR w R C s x u) := by
 obtain ⟨t1, t2, t3, t4, v, b, k1, k2, k3, k4, k5, rfl⟩ := let_parts hx
 have wv : wellE v = true := wellE_kid hw (by show v ∈ [v, b]; simp)
 have wb : wellE b = true := wellE_kid hw (by show b ∈ [v, b]; simp)
 have H0 : Hid (StX w w R C s t []) := StX.new h
 have H1 : Hid (∀ W l, StX w W R C s t l → Calls Tryz.prog 121 #[.pointer (some ⟨R, 0, none⟩)] W fun e w' => e = .returned (.string t.text) ∧ StX w w' R C s t1 l) := fun W l hs => hs.name k1
 have H2 : Hid (∀ W l, StX w W R C s t1 l → Calls Tryz.prog 64 #[.pointer (some ⟨R, 0, none⟩), .string ⟨#[61]⟩] W fun e w' => e = .returned (.tuple #[]) ∧ StX w w' R C s t2 l) := fun W l hs => hs.want (by rw [tl1]; exact mk_sign 61 rfl) (by rw [tl1]; exact k2)
 have H3 : Hid (∀ W l, StX w W R C s t2 l → Calls Tryz.prog 35 #[.pointer (some ⟨R, 0, none⟩)] W fun e w' => ∃ p : Option Addr, e = .returned (.pointer p) ∧ StX w w' R C s t3 (l ++ [(.pointer p, v)])) := fun W l hs => hs.read hF k3 wv
 have H4 : Hid (∀ W l, StX w W R C s t3 l → Calls Tryz.prog 64 #[.pointer (some ⟨R, 0, none⟩), .string ⟨#[105, 110]⟩] W fun e w' => e = .returned (.tuple #[]) ∧ StX w w' R C s t4 l) := fun W l hs => hs.want (x := ⟨#[105, 110]⟩) (by rw [Lib.toList_data]; exact mk_in) (by rw [Lib.toList_data]; exact k4)
 have H5 : Hid (∀ W l, StX w W R C s t4 l → Calls Tryz.prog 35 #[.pointer (some ⟨R, 0, none⟩)] W fun e w' => ∃ p : Option Addr, e = .returned (.pointer p) ∧ StX w w' R C s u (l ++ [(.pointer p, b)])) := fun W l hs => hs.read hF k5 wb
 generalize t.text = tx at *
 clear hx hw h k1 k2 k3 k4 k5 hF
 go_enter Tryz.func66, Tryz.ntmps66
 go_wp2_with fail
 go_at_call 121
 refine (H1.out _ _ H0.out).mono ?_
 rintro e w1 ⟨rfl, hs⟩
 have G2' := H2.out _ _ hs
 clear hs H0 H1 H2
 go_wp2_with fail
 go_at_call 64
 refine G2'.mono ?_
 rintro e w2 ⟨rfl, hs⟩
 have G3' := H3.out _ _ hs
 clear hs G2' H3
 go_wp2_with fail
 go_at_call 35
 refine G3'.mono ?_
 rintro e w3 ⟨p1, rfl, hs⟩
 have G4' := H4.out _ _ hs
 clear hs G3' H4
 go_wp2_with fail
 go_at_call 64
 refine G4'.mono ?_
 rintro e w4 ⟨rfl, hs⟩
 have G5' := H5.out _ _ hs
 clear hs G4' H5
 go_wp2_with fail
 go_at_call 35
 refine G5'.mono ?_
 rintro e w5 ⟨p2, rfl, hs⟩
 have HB : Hid (∃ W', (w5.alloc (.cells #[.pointer p1, .pointer p2] 24)).alloc (.cells #[.int .i64 5, .int .i64 0, .string tx, .slice (some ⟨w5.heap.size, 0, none⟩) 2 2] 64) = W' ∧ G2 R C w W' ∧ RX W' R C s u ∧ ExB w.heap.size W' (.pointer (some ⟨w5.heap.size + 1, 0, none⟩)) (exN 5 0 tx [v, b])) := hs.built (by simp) 5 0 tx
 clear hs G5'
 go_wp2
 go_ret
 obtain ⟨W', e1, e2, e3, e4⟩ := HB.out
 rw [e1]
 exact ⟨_, rfl, e2, e3, e4⟩

end Go.Proofs.YtgmmfpdekefamaaGreatDoor

namespace Go.Proofs.YtgmmfpdekefamaaGreatDoor
open Go.RowKit
set_option linter.unusedVariables false
set_option maxRecDepth 100000

set_option maxHeartbeats 8000000 in
theorem rchoice_any {s : ByteArray} {R C : Nat} {ex : Tok → RE} (hF : Reads s R C 35 ex) {w : World} {t u : Tok} {x : Ex} (h : RX w R C s t) (hx : ifS s ex (some t) = some (x, u)) (hw : wellE x = true) : Calls Tryz.prog 67 #[.pointer (some ⟨R, 0, none⟩)] w (GotR w R C s x u) := by
 obtain ⟨t1, t2, t3, t4, a, b, c, k1, k2, k3, k4, k5, rfl⟩ := if_parts hx
 have wa : wellE a = true := wellE_kid hw (by show a ∈ [a, b, c]; simp)
 have wb : wellE b = true := wellE_kid hw (by show b ∈ [a, b, c]; simp)
 have wc : wellE c = true := wellE_kid hw (by show c ∈ [a, b, c]; simp)
 have H0 : Hid (StX w w R C s t []) := StX.new h
 have H1 : Hid (∀ W l, StX w W R C s t l → Calls Tryz.prog 35 #[.pointer (some ⟨R, 0, none⟩)] W fun e w' => ∃ p : Option Addr, e = .returned (.pointer p) ∧ StX w w' R C s t1 (l ++ [(.pointer p, a)])) := fun W l hs => hs.read hF k1 wa
 have H2 : Hid (∀ W l, StX w W R C s t1 l → Calls Tryz.prog 64 #[.pointer (some ⟨R, 0, none⟩), .string ⟨#[116, 104, 101, 110]⟩] W fun e w' => e = .returned (.tuple #[]) ∧ StX w w' R C s t2 l) := fun W l hs => hs.want (x := ⟨#[116, 104, 101, 110]⟩) (by rw [Lib.toList_data]; exact mk_then) (by rw [Lib.toList_data]; exact k2)
 have H3 : Hid (∀ W l, StX w W R C s t2 l → Calls Tryz.prog 35 #[.pointer (some ⟨R, 0, none⟩)] W fun e w' => ∃ p : Option Addr, e = .returned (.pointer p) ∧ StX w w' R C s t3 (l ++ [(.pointer p, b)])) := fun W l hs => hs.read hF k3 wb
 have H4 : Hid (∀ W l, StX w W R C s t3 l → Calls Tryz.prog 64 #[.pointer (some ⟨R, 0, none⟩), .string ⟨#[101, 108, 115, 101]⟩] W fun e w' => e = .returned (.tuple #[]) ∧ StX w w' R C s t4 l) := fun W l hs => hs.want (x := ⟨#[101, 108, 115, 101]⟩) (by rw [Lib.toList_data]; exact mk_else) (by rw [Lib.toList_data]; exact k4)
 have H5 : Hid (∀ W l, StX w W R C s t4 l → Calls Tryz.prog 35 #[.pointer (some ⟨R, 0, none⟩)] W fun e w' => ∃ p : Option Addr, e = .returned (.pointer p) ∧ StX w w' R C s u (l ++ [(.pointer p, c)])) := fun W l hs => hs.read hF k5 wc
 clear hx hw h k1 k2 k3 k4 k5 hF
 go_enter Tryz.func67, Tryz.ntmps67
 go_wp2_with fail
 go_at_call 35
 refine (H1.out _ _ H0.out).mono ?_
 rintro e w1 ⟨p1, rfl, hs⟩
 have G2' := H2.out _ _ hs
 clear hs H0 H1 H2
 go_wp2_with fail
 go_at_call 64
 refine G2'.mono ?_
 rintro e w2 ⟨rfl, hs⟩
 have G3' := H3.out _ _ hs
 clear hs G2' H3
 go_wp2_with fail
 go_at_call 35
 refine G3'.mono ?_
 rintro e w3 ⟨p2, rfl, hs⟩
 have G4' := H4.out _ _ hs
 clear hs G3' H4
 go_wp2_with fail
 go_at_call 64
 refine G4'.mono ?_
 rintro e w4 ⟨rfl, hs⟩
 have G5' := H5.out _ _ hs
 clear hs G4' H5
 go_wp2_with fail
 go_at_call 35
 refine G5'.mono ?_
 rintro e w5 ⟨p3, rfl, hs⟩
 have HB : Hid (∃ W', (w5.alloc (.cells #[.pointer p1, .pointer p2, .pointer p3] 24)).alloc (.cells #[.int .i64 6, .int .i64 0, .string ⟨#[]⟩, .slice (some ⟨w5.heap.size, 0, none⟩) 3 3] 64) = W' ∧ G2 R C w W' ∧ RX W' R C s u ∧ ExB w.heap.size W' (.pointer (some ⟨w5.heap.size + 1, 0, none⟩)) (exN 6 0 emptyT [a, b, c])) := hs.built (by simp) 6 0 emptyT
 clear hs G5'
 go_wp2
 go_ret
 obtain ⟨W', e1, e2, e3, e4⟩ := HB.out
 rw [e1]
 exact ⟨_, rfl, e2, e3, e4⟩

theorem next_some {s : ByteArray} {t : Tok} : nextS s (some t) = cutE s t.fin := rfl
set_option maxHeartbeats 8000000 in
theorem rneg_any {s : ByteArray} {R C : Nat} {ex : Tok → RE} (hU : Reads s R C 164 (atomS s ex)) : ∀ g : Nat, Reads s R C 122 (sgdS s ex g)
 | 0 => fun w t u x h hx hw => by cases hx
 | g + 1 => fun w t u x h hx hw => by
  have ih := rneg_any hU g
  unfold sgdS at hx
  by_cases hm : isS [45] (some t) = true
  ·rw [if_pos hm] at hx
   split at hx
   ·cases hx
   ·rename_i k u' hk
    cases hx
    obtain ⟨t1, k1, k2⟩ := bind_two hk
    rw [next_some] at k1
    have wk : wellE k = true := wellE_kid hw (by show k ∈ [k]; simp)
    have HT : Hid (Calls Tryz.prog 65 #[.pointer (some ⟨R, 0, none⟩), .string ⟨#[45]⟩] w fun e w' => e = .returned (.bool true) ∧ StX w w' R C s t1 []) := (StX.new h).takeY (by rw [tl1]; exact mk_sign 45 rfl) (by rw [tl1]; exact hm) k1
    have H1 : Hid (∀ W l, StX w W R C s t1 l → Calls Tryz.prog 122 #[.pointer (some ⟨R, 0, none⟩)] W fun e w' => ∃ p : Option Addr, e = .returned (.pointer p) ∧ StX w w' R C s u (l ++ [(.pointer p, k)])) := fun W l hs => hs.read ih k2 wk
    clear ih hk k1 k2 wk hw h hm hU
    go_enter Tryz.func122, Tryz.ntmps122
    go_wp2_with fail
    go_at_call 65
    refine HT.out.mono ?_
    rintro e w1 ⟨rfl, hs⟩
    have G1' := H1.out _ _ hs
    clear hs HT H1
    go_wp2_with fail
    go_at_call 122
    refine G1'.mono ?_
    rintro e w5 ⟨p1, rfl, hs⟩
    have HB : Hid (∃ W', (w5.alloc (.cells #[.pointer p1] 24)).alloc (.cells #[.int .i64 8, .int .i64 0, .string ⟨#[]⟩, .slice (some ⟨w5.heap.size, 0, none⟩) 1 1] 64) = W' ∧ G2 R C w W' ∧ RX W' R C s u ∧ ExB w.heap.size W' (.pointer (some ⟨w5.heap.size + 1, 0, none⟩)) (exN 8 0 emptyT [k])) := hs.built (by simp) 8 0 emptyT
    clear hs G1'
    go_wp2
    go_ret
    obtain ⟨W', e1, e2, e3, e4⟩ := HB.out
    rw [e1]
    exact ⟨_, rfl, e2, e3, e4⟩
  ·rw [if_neg hm] at hx
   have hmf : isS [45] (some t) = false := by simpa using hm
   have HT : Hid (Calls Tryz.prog 65 #[.pointer (some ⟨R, 0, none⟩), .string ⟨#[45]⟩] w fun e w' => e = .returned (.bool false) ∧ w' = w) := rtake_no h (by rw [tl1]; exact mk_sign 45 rfl) (by rw [tl1]; exact hmf)
   have HU : Hid (Calls Tryz.prog 164 #[.pointer (some ⟨R, 0, none⟩)] w (GotR w R C s x u)) := hU w t u x h hx hw
   clear ih hx hw h hm hU hmf
   go_enter Tryz.func122, Tryz.ntmps122
   go_wp2_with fail
   go_at_call 65
   refine HT.out.mono ?_
   rintro e wq ⟨rfl, hwq⟩
   obtain rfl := hwq.symm
   clear hwq HT
   go_wp2_with fail
   go_at_call 164
   refine HU.out.mono ?_
   rintro e w5 ⟨p1, rfl, hs⟩
   have HB : Hid (G2 R C w w5 ∧ RX w5 R C s u ∧ ExB w.heap.size w5 (.pointer p1) x) := hs
   clear hs HU
   go_wp2
   go_ret
   exact ⟨_, rfl, HB.out⟩

end Go.Proofs.YtgmmfpdekefamaaGreatDoor

namespace Go.Proofs.YtgmmfpdekefamaaGreatDoor
open Go.RowKit
set_option linter.unusedVariables false
set_option maxRecDepth 100000

theorem lvlP_word {b : UInt8} {l : List UInt8} (h : smallB (b.toNat : Int) = true) : lvlP (b :: l) = 5 := by
 have hb : 97 ≤ b.toNat ∧ b.toNat ≤ 122 := by unfold smallB at h; simp at h; omega
 have k : ∀ (c : UInt8) (m : List UInt8), c.toNat < 97 → ((b :: l) == (c :: m)) = false := fun c m hc => by
  rw [beq_eq_false_iff_ne]
  intro e
  have := (List.cons.inj e).1
  rw [this] at hb
  omega
 unfold lvlP
 rw [k 61 _ (by decide), k 60 _ (by decide), k 43 _ (by decide), k 45 _ (by decide), k 43 _ (by decide), k 42 _ (by decide), k 47 _ (by decide), k 37 _ (by decide)]
 rfl
/-- does an operator of a level come -/
theorem op_cond {s : ByteArray} {p : Nat} {t : Tok} (hp : p ≤ s.size) (h : cutE s p = some t) {L : Int} (h1 : 1 ≤ L) (h3 : L ≤ 3) :
  ((t.kind = 6 ∧ lvlL t.text.toList = L - 1) ∧ ptF t = ⟨6, t.fr, t.text, 0⟩ ∧ lvlP t.text.toList = L) ∨ (¬ (t.kind = 6 ∧ lvlL t.text.toList = L - 1) ∧ ((ptF t).kind ≠ 6 ∨ lvlP (ptF t).text.toList ≠ L)) := by
 have hk := cut_kinds hp h
 show _ ∨ (_ ∧ ((ptK t).kind ≠ 6 ∨ lvlP (ptK t).text.toList ≠ L))
 unfold ptF ptK
 rcases hk with k | k | k | k | ⟨k, b, l, hb, hsm⟩ | k
 ·refine .inr ⟨by omega, .inr ?_⟩
  rw [if_pos k]
  show lvlP ((⟨#[]⟩ : ByteArray).toList) ≠ L
  rw [Lib.toList_data]
  show (5 : Int) ≠ L
  omega
 ·refine .inr ⟨by omega, .inl ?_⟩
  rw [if_neg (by omega), if_pos k]
  show (1 : Int) ≠ 6
  omega
 ·refine .inr ⟨by omega, .inl ?_⟩
  rw [if_neg (by omega), if_neg (by omega), if_neg (by omega), if_pos k]
  show (2 : Int) ≠ 6
  omega
 ·refine .inr ⟨by omega, .inl ?_⟩
  rw [if_neg (by omega), if_neg (by omega), if_pos k]
  unfold plP
  split
  ·show (3 : Int) ≠ 6; omega
  ·show (0 : Int) ≠ 6; omega
 ·refine .inr ⟨by omega, .inr ?_⟩
  rw [if_neg (by omega), if_neg (by omega), if_neg (by omega), if_neg (by omega), if_pos k]
  have : (wdP t.text).text = t.text := by unfold wdP; split <;> rfl
  rw [this, hb, lvlP_word hsm]
  omega
 ·have e := lvl_both t.text.toList
  have hle := lvlL_le t.text.toList
  rw [if_neg (by omega), if_neg (by omega), if_neg (by omega), if_neg (by omega), if_neg (by omega)]
  by_cases hl : lvlL t.text.toList = L - 1
  ·rw [if_neg (by omega)] at e
   exact .inl ⟨⟨k, hl⟩, rfl, by omega⟩
  ·refine .inr ⟨fun h => hl h.2, .inr ?_⟩
   show lvlP t.text.toList ≠ L
   split at e <;> omega
theorem ops_well {s : ByteArray} {lv : Int} {sub : Tok → RE} : ∀ (f : Nat) {e : Ex} {t u : Tok} {x : Ex}, opsS s lv sub f e t = some (x, u) → wellE x = true → wellE e = true
 | 0, e, t, u, x, h, _ => by cases h
 | f + 1, e, t, u, x, h, hw => by
  unfold opsS at h
  split at h
  ·split at h
   ·cases h
   ·rename_i k u' hk
    split at h
    ·cases h
     exact wellE_kid hw (by show e ∈ [e, k]; simp)
    ·have := ops_well f h hw
     exact wellE_kid this (by show e ∈ [e, k]; simp)
  ·cases h; exact hw
/-- one operator -/
theorem ops_step {s : ByteArray} {lv : Int} {sub : Tok → RE} {f : Nat} {e : Ex} {t u : Tok} {x : Ex} (h : opsS s lv sub f e t = some (x, u)) (hw : wellE x = true) :
  (¬ (t.kind = 6 ∧ lvlL t.text.toList = lv) ∧ x = e ∧ u = t) ∨ ((t.kind = 6 ∧ lvlL t.text.toList = lv) ∧ ∃ t1 k t2, cutE s t.fin = some t1 ∧ sub t1 = some (k, t2) ∧ wellE k = true ∧ ((lv = 0 ∧ x = exN 7 0 t.text [e, k] ∧ u = t2) ∨ (lv ≠ 0 ∧ ∃ f', f' < f ∧ opsS s lv sub f' (exN 7 0 t.text [e, k]) t2 = some (x, u)))) := by
 cases f with
 | zero => cases h
 | succ f =>
  unfold opsS at h
  by_cases hc : t.kind = 6 ∧ lvlL t.text.toList = lv
  ·rw [if_pos hc] at h
   split at h
   ·cases h
   ·rename_i k t2 hk
    obtain ⟨t1, k1, k2⟩ := bind_two hk
    refine .inr ⟨hc, t1, k, t2, k1, k2, ?_, ?_⟩
    ·split at h
     ·cases h; exact wellE_kid hw (by show k ∈ [e, k]; simp)
     ·exact wellE_kid (ops_well f h hw) (by show k ∈ [e, k]; simp)
    ·by_cases h0 : lv = 0
     ·rw [if_pos h0] at h
      cases h
      exact .inl ⟨h0, rfl, rfl⟩
     ·rw [if_neg h0] at h
      exact .inr ⟨h0, f, by omega, h⟩
  ·rw [if_neg hc] at h
   cases h
   exact .inl ⟨hc, rfl, rfl⟩

/-- operators of a level and tighter ones -/
def ReadsO (s : ByteArray) (R C : Nat) (L : Int) (ex : Tok → RE) : Prop := ∀ (w : World) (t u : Tok) (x : Ex), RX w R C s t → ex t = some (x, u) → wellE x = true → Calls Tryz.prog 68 #[.pointer (some ⟨R, 0, none⟩), .int .i64 L] w (GotR w R C s x u)
theorem StX.readO {w W : World} {R C : Nat} {s : ByteArray} {t u : Tok} {l : List (Value × Ex)} {L : Int} {ex : Tok → RE} {x : Ex} (h : StX w W R C s t l) (hF : ReadsO s R C L ex) (hx : ex t = some (x, u)) (hw : wellE x = true) : Calls Tryz.prog 68 #[.pointer (some ⟨R, 0, none⟩), .int .i64 L] W fun e w' => ∃ p : Option Addr, e = .returned (.pointer p) ∧ StX w w' R C s u (l ++ [(.pointer p, x)]) :=
 (hF W t u x h.rx hx hw).mono fun e w' ⟨p, q1, q2, q3, q4⟩ => ⟨p, q1, h.add q2 q3 q4⟩
set_option maxHeartbeats 4000000 in
theorem rops_four {s : ByteArray} {R C : Nat} {ex : Tok → RE} (hN : Reads s R C 122 ex) : ReadsO s R C 4 ex := fun w t u x h hx hw => by
 have HU : Hid (Calls Tryz.prog 122 #[.pointer (some ⟨R, 0, none⟩)] w (GotR w R C s x u)) := hN w t u x h hx hw
 clear hx hw h hN
 go_enter Tryz.func68, Tryz.ntmps68
 go_wp2_with fail
 go_at_call 122
 refine HU.out.mono ?_
 rintro e w5 ⟨p1, rfl, hs⟩
 have HB : Hid (G2 R C w w5 ∧ RX w5 R C s u ∧ ExB w.heap.size w5 (.pointer p1) x) := hs
 clear hs HU
 go_wp2
 go_ret
 exact ⟨_, rfl, HB.out⟩

end Go.Proofs.YtgmmfpdekefamaaGreatDoor

namespace Go.Proofs.YtgmmfpdekefamaaGreatDoor
open Go.RowKit
set_option linter.unusedVariables false
set_option maxRecDepth 100000

set_option maxHeartbeats 8000000 in
theorem rops_lvl {s : ByteArray} {R C : Nat} {L : Int} (h1 : 1 ≤ L) (h3 : L ≤ 3) {sub : Tok → RE} (hN : ReadsO s R C (L + 1) sub) : ReadsO s R C L (levS s (L - 1) sub) := fun w t u x h hx hw => by
 unfold levS at hx
 split at hx
 ·cases hx
 ·rename_i e0 t0 hs0
  have we0 := ops_well _ hx hw
  have H0 : Hid (∀ W l, StX w W R C s t l → Calls Tryz.prog 68 #[.pointer (some ⟨R, 0, none⟩), .int .i64 (L + 1)] W fun e w' => ∃ p : Option Addr, e = .returned (.pointer p) ∧ StX w w' R C s t0 (l ++ [(.pointer p, e0)])) := fun W l hs => hs.readO hN hs0 we0
  have HN : Hid (ReadsO s R C (L + 1) sub) := hN
  have HS : Hid (StX w w R C s t []) := StX.new h
  have HX : Hid (opsS s (L - 1) sub (s.size + 1) e0 t0 = some (x, u)) := hx
  have HW : Hid (wellE x = true) := hw
  have h4 : (L == 4) = false := by rw [beq_eq_false_iff_ne]; omega
  have hw1 : IntKind.i64.wrap (L + 1) = L + 1 := by rw [IntKind.wrap_i64]; omega
  have hF := Tryz.fieldText
  clear hx hw h hN hs0 we0
  go_enter Tryz.func68, Tryz.ntmps68
  go_wp2_with fail
  go_at_call 68
  refine (H0.out _ _ HS.out).mono ?_
  rintro e w1 ⟨p0, rfl, hs1⟩
  have HS1 : Hid (StX w w1 R C s t0 [(.pointer p0, e0)]) := hs1
  clear hs1 H0 HS
  go_wp2
  go_loopg [5] (s.size + 1) (fun g ev wr => ∃ (p : Option Addr) (e1 : Ex) (t1 : Tok), ev = .pointer p ∧ Hid (StX w wr R C s t1 [(.pointer p, e1)]) ∧ Hid (opsS s (L - 1) sub g e1 t1 = some (x, u)))
  case atStart => exact ⟨p0, e0, t0, rfl, HS1, HX⟩
  case round =>
   obtain ⟨p, e1, t1, rfl, HSt, HXs⟩ := hrel
   clear HS1 HX
   obtain ⟨q, hq, hcut⟩ := HSt.out.rx.cut
   obtain ⟨c0, c1, c2, c3, c4⟩ := HSt.out.rx.rd.cells
   have hlt := HSt.out.rx.rd.lt
   have hoc := op_cond hq hcut h1 h3
   rcases ops_step HXs.out HW.out with ⟨hno, rfl, rfl⟩ | ⟨hyes, t2, k, t3, k1, k2, wk, hfin⟩
   ·have hk : (ptF u).kind ≠ 6 ∨ lvlP (ptF u).text.toList ≠ L := by
     rcases hoc with ⟨h, _⟩ | ⟨_, h⟩
     ·exact absurd h hno
     ·exact h
    have HR0 : Hid (G2 R C w wr ∧ RX wr R C s u ∧ ExB w.heap.size wr (.pointer p) x) := ⟨HSt.out.gr, HSt.out.rx, HSt.out.ex (.pointer p, x) (by simp)⟩
    clear hoc hcut hq HSt HXs hno HW HN
    generalize ptF u = pt at *
    obtain ⟨kt, ft, xt, nt⟩ := pt
    simp only at c0 c1 c2 c3 hk
    by_cases h6 : kt = 6
    ·subst h6
     have hl : (lvlP xt.toList == L) = false := by
      rw [beq_eq_false_iff_ne]
      rcases hk with h | h
      ·exact absurd rfl h
      ·exact h
     have HLv : Hid (∀ w, Calls Tryz.prog 94 #[.string xt] w fun e w' => e = .returned (.int .i64 (lvlP xt.toList)) ∧ w' = w) := fun w => level_any xt w
     generalize lvlP xt.toList = lp at *
     clear hk
     go_wp2_with fail
     go_at_call 94
     refine (HLv.out _).mono ?_
     rintro e wq ⟨rfl, hwq⟩
     obtain rfl := hwq.symm
     clear hwq HLv
     go_wp2
     go_ret
     exact ⟨_, rfl, HR0.out⟩
    ·have hk2 : (kt == 6) = false := by rw [beq_eq_false_iff_ne]; exact h6
     clear hk h6
     go_wp2
     go_ret
     exact ⟨_, rfl, HR0.out⟩
   ·obtain ⟨hpt, hlv⟩ : ptF t1 = ⟨6, t1.fr, t1.text, 0⟩ ∧ lvlP t1.text.toList = L := by
     rcases hoc with ⟨_, h⟩ | ⟨h, _⟩
     ·exact h
     ·exact absurd hyes h
    rw [hpt] at c0 c1 c2 c3
    simp only at c0 c1 c2 c3
    have HLv : Hid (∀ w, Calls Tryz.prog 94 #[.string t1.text] w fun e w' => e = .returned (.int .i64 L) ∧ w' = w) := fun w => by have := level_any t1.text w; rw [hlv] at this; exact this
    have HStp : Hid (Calls Tryz.prog 63 #[.pointer (some ⟨R, 0, none⟩)] wr fun e w' => e = .returned (.agg #[.int .i64 6, .int .i64 (t1.fr : Int), .string t1.text, .int .i64 0]) ∧ StX w w' R C s t2 [(.pointer p, e1)]) := by
     have := rstep_any HSt.out.rx k1
     rw [hpt] at this
     exact this.mono fun e w' ⟨q1, q2, q3⟩ => ⟨q1, HSt.out.step q2 q3⟩
    have HO : Hid (∀ W l, StX w W R C s t2 l → Calls Tryz.prog 68 #[.pointer (some ⟨R, 0, none⟩), .int .i64 (L + 1)] W fun e w' => ∃ p : Option Addr, e = .returned (.pointer p) ∧ StX w w' R C s t3 (l ++ [(.pointer p, k)])) := fun W l hs => hs.readO HN.out k2 wk
    generalize t1.text = tx at *
    clear hoc hcut hq HXs HW HSt HN hpt hlv hyes k1 k2 wk
    go_wp2_with fail
    go_at_call 94
    refine (HLv.out _).mono ?_
    rintro e wq ⟨rfl, hwq⟩
    obtain rfl := hwq.symm
    clear hwq HLv
    go_wp2_with fail
    go_at_call 63
    refine HStp.out.mono ?_
    rintro e w2 ⟨rfl, hs2⟩
    have HO2 := HO.out _ _ hs2
    clear hs2 HStp HO c0 c1 c2 c3 c4 hlt
    go_wp2_with fail
    go_at_call 68
    refine HO2.mono ?_
    rintro e w5 ⟨p2, rfl, hs⟩
    have hlts := hs.lt
    have HB : Hid (∃ W', (w5.alloc (.cells #[.pointer p, .pointer p2] 24)).alloc (.cells #[.int .i64 7, .int .i64 0, .string tx, .slice (some ⟨w5.heap.size, 0, none⟩) 2 2] 64) = W' ∧ G2 R C w W' ∧ RX W' R C s t3 ∧ ExB w.heap.size W' (.pointer (some ⟨w5.heap.size + 1, 0, none⟩)) (exN 7 0 tx [e1, k])) := hs.built (by simp) 7 0 tx
    clear hs HO2
    rcases hfin with ⟨hL0, rfl, rfl⟩ | ⟨hL0, f', hf', hx'⟩
    ·have hL1 : (L == 1) = true := by rw [beq_iff_eq]; omega
     go_wp2
     go_ret
     obtain ⟨W', b1, b2, b3, b4⟩ := HB.out
     rw [b1]
     exact ⟨_, rfl, b2, b3, b4⟩
    ·have hL1 : (L == 1) = false := by rw [beq_eq_false_iff_ne]; omega
     have HX' : Hid (opsS s (L - 1) sub f' (exN 7 0 tx [e1, k]) t3 = some (x, u)) := hx'
     clear hx'
     go_wp2
     obtain ⟨W', b1, b2, b3, b4⟩ := HB.out
     rw [b1]
     have HS9 : Hid (StX w W' R C s t3 [(.pointer (some ⟨w5.heap.size + 1, 0, none⟩), exN 7 0 tx [e1, k])]) := ⟨b2, b3, hlts, fun a ha => by rw [List.mem_singleton.1 ha]; exact b4⟩
     clear b1 b2 b3 b4 HB
     go_roundg f'
     case rel => exact ⟨_, _, _, rfl, HS9, HX'⟩
     exact hf'

end Go.Proofs.YtgmmfpdekefamaaGreatDoor
