/- Texts of the proof, put together: PEscM, PRead, PatG, DvI, RT, RTB, MLen, MJoin, MMeet, DvJ, RTC, DvK, RTD, MOth, PHas, MSp, MBeh, MOn, MRep, MFind, MFindB, MFindC, MFrom. -/
import Derived.Test.YtbjohedenfindaaGreatDoorPw10
import Derived.Maps.OwnOps
import Derived.Lib.MapLaws
import Derived.Test.YtbjohedenfindaaGreatDoorPw24
import Derived.Test.YtbjohedenfindaaGreatDoorPw25
import Derived.Laws.BitsLemmas
import Derived.Laws.CopyOwn
import Derived.Laws.MakeOwn
import Derived.Test.YtbjohedenfindaaGreatDoorPw02
import Derived.Test.YtbjohedenfindaaGreatDoorPw05
import Derived.Lib.OthersKept
import Derived.Maps.OwnSet
import Derived.Deep.RegionHeld3
namespace Go.Proofs.YtbjohedenfindaaGreatDoor
open Go.RowKit
open Go.Maps (Keyed)
set_option linter.unusedVariables false
set_option maxRecDepth 100000

theorem wpList_insert_own {H : Type} {P : Program} (w : World) {ops : Array Oper} {rest : List Oper} {o : Oper} {a : Act} {Q : Exit → Act → World → Prop}
    (hg : o.guard = none) (m x v : Operand) (t : TypeId) (hop : o.op = Op.insert t m x v)
    (k e : TypeId) (K : Keyed P k) (ht : P.underlying t = some (.map k e)) (R : Value → Option (DataW H × List MemPlace)) (b n : Nat) (D : DataW H)
    (hm : a.eval m = .map (some b)) (hown : w.ownsMap P k R b n D) (hn : n < maxLen) (key val : Value) (kl : Lit) (hx : a.eval x = key) (hv : a.eval v = val) (hkey : keyOf P k key = some kl)
    (d : DataW H) (ps : List MemPlace) (hval : R val = some (d, ps))
    (hK : ∀ w', w'.ownsMap P k R b (n + 1) (D.put kl d) → w.grownBy w' (some b) → wpList P ops Q rest (a.put o.dst undef) w') :
    wpList P ops Q (o :: rest) a w := by
  refine wpList_plain hg fun K' hK' => ?_
  obtain ⟨w', hrun, r1, r2⟩ := hown.update K ht hn hkey hval
  unfold Oper.wp
  simp [execOp, hop, hm, hx, hv, hrun, Result.andThen]
  exact hK' _ _ (hK w' r1 r2)

/-- what a map of numbers by runes says -/
def Says (D : DataW Unit) (f : Int → Option Int) : Prop := Maps.IsMap D ∧ ∀ c : Int, Maps.has D (.int .i32 c) = (f c).isSome ∧ ∀ p, f c = some p → D.atKey (.int .i32 c) (.lit (.int .i64 0)) = .lit (.int .i64 p)
theorem Says.put {D : DataW Unit} {f : Int → Option Int} (h : Says D f) (c p : Int) : Says (D.put (.int .i32 c) (.lit (.int .i64 p))) (fun x => if x = c then some p else f x) := by
  refine ⟨?_, fun x => ?_⟩
  · obtain ⟨es, rfl⟩ := h.1; exact ⟨_, rfl⟩
  · by_cases hx : x = c
    · subst hx
      simp only [if_true]
      exact ⟨by rw [Maps.has_put_same h.1 (show WideAt.IsKeyLit (.int .i32 x) from trivial)]; rfl, fun q hq => by cases hq; exact Maps.atKey_put_same h.1 (show WideAt.IsKeyLit (.int .i32 x) from trivial) _ _⟩
    · simp only [if_neg hx]
      have hne : (Lit.int .i32 x) ≠ .int .i32 c := fun e => hx (by cases e; rfl)
      exact ⟨by rw [Maps.has_put_other hne]; exact (h.2 x).1, fun q hq => by rw [Maps.atKey_put_other hne]; exact (h.2 x).2 q hq⟩
theorem Says.empty : Says (.map []) (fun _ => none) := ⟨⟨[], rfl⟩, fun c => ⟨rfl, fun p hp => by cases hp⟩⟩
theorem Says.congr {D : DataW Unit} {f g : Int → Option Int} (h : Says D f) (e : ∀ c, f c = g c) : Says D g := by
  have : f = g := funext e
  rw [← this]; exact h

def signB : ByteArray := ⟨#[124, 38, 42, 43, 63, 123, 125, 126, 40, 41, 91, 93, 46, 92, 45, 94, 34, 39, 32]⟩
def signL : List Int := [124, 38, 42, 43, 63, 123, 125, 126, 40, 41, 91, 93, 46, 92, 45, 94, 34, 39, 32]
def fThree (c : Int) : Option Int := if c = 116 then some 9 else if c = 114 then some 13 else if c = 110 then some 10 else none
def fUpto (k : Nat) (c : Int) : Option Int := if (signL.take k).contains c then some c else fThree c
theorem sign_dec : ∀ k, k < 19 → Utf8.decode signB k = ((signL.getD k 0).toNat, 1) ∧ 0 ≤ signL.getD k 0 ∧ signL.getD k 0 < 128 := by decide
theorem fUpto_zero (c : Int) : fUpto 0 c = fThree c := by simp [fUpto]
theorem fUpto_succ (k : Nat) (hk : k < 19) (c : Int) : fUpto (k + 1) c = if c = signL.getD k 0 then some (signL.getD k 0) else fUpto k c := by
  have hl : k < signL.length := hk
  have e : signL.getD k 0 = signL[k] := by simp [hl]
  have hc : (signL.take (k + 1)).contains c = ((signL.take k).contains c || decide (c = signL[k])) := by
    rw [List.take_succ_eq_append_getElem hl]
    rw [Bool.eq_iff_iff]
    simp only [List.contains_eq_mem, decide_eq_true_eq, Bool.or_eq_true, List.mem_append, List.mem_singleton]
  unfold fUpto
  rw [hc, e]
  by_cases h : c = signL[k]
  · subst h; simp
  · have : decide (c = signL[k]) = false := by simp [h]
    rw [this, Bool.or_false, if_neg h]
theorem fUpto_all (c : Int) : fUpto 19 c = escOf c := by
  have e : signL.take 19 = signL := by decide
  unfold fUpto escOf fThree
  rw [e]
  show (if signL.contains c then _ else _) = _
  have he : escSign c = signL.contains c := rfl
  rw [he]
  by_cases h : signL.contains c = true
  · rw [if_pos h, if_pos h]
    have h2 : c ∈ signL := by simpa using h
    have : c ≠ 110 ∧ c ≠ 114 ∧ c ≠ 116 := by
      refine ⟨?_, ?_, ?_⟩ <;> (rintro rfl; revert h2; decide)
    simp [this]
  · rw [if_neg h, if_neg h]
    by_cases h1 : c = 110
    · subst h1; decide
    · by_cases h2 : c = 114
      · subst h2; decide
      · by_cases h3 : c = 116
        · subst h3; decide
        · simp [h1, h2, h3]

set_option maxHeartbeats 4000000 in
theorem escapes_any (w : World) : Calls Tryz.prog 41 #[] w fun e w' => e = .returned (.map (some w.heap.size)) ∧ EscMap w' w.heap.size ∧ Below w.heap.size w w' := by
  have hmm := @run_makeMap Tryz.prog
  have wfr : ∀ c : Int, 0 ≤ c → c < 1200000 → keyOf Tryz.prog 21 (.int .i32 c) = some (.int .i32 c) := fun c h0 h1 => Maps.keyOf_int_mk Tryz.underlying21 (WalkArith.wf_i32 (by constructor <;> omega))
  have HK : Hid (∀ c : Int, 0 ≤ c → c < 1200000 → keyOf Tryz.prog 21 (.int .i32 c) = some (.int .i32 c)) := wfr
  clear wfr
  have hm0 := World.ownsMap_made (H := Unit) w Tryz.prog 21 (plainElem Tryz.prog 3)
  have b0 : Below w.heap.size w (w.alloc (.map #[] 0)) := (Below.refl _ w).alloc (Nat.le_refl _) _
  go_enter Tryz.func41, Tryz.ntmps41
  go_wp2_with (first | (refine wpList_insert_own _ rfl _ _ _ 88 rfl 21 3 Tryz.lawRune Tryz.underlying88 _ w.heap.size _ _ rfl hm0 (by unfold maxLen; omega) (.int .i32 110) (.int .i64 10) _ rfl rfl (HK.out 110 (by omega) (by omega)) _ [] (plainElem_int Tryz.underlying3 (show (Lit.int .i64 10).wf = true by decide)) ?_; intro w1 hown1 hg1) | (refine wpList_insert_own _ rfl _ _ _ 88 rfl 21 3 Tryz.lawRune Tryz.underlying88 _ w.heap.size _ _ rfl hown1 (by unfold maxLen; omega) (.int .i32 114) (.int .i64 13) _ rfl rfl (HK.out 114 (by omega) (by omega)) _ [] (plainElem_int Tryz.underlying3 (show (Lit.int .i64 13).wf = true by decide)) ?_; intro w2 hown2 hg2) | (refine wpList_insert_own _ rfl _ _ _ 88 rfl 21 3 Tryz.lawRune Tryz.underlying88 _ w.heap.size _ _ rfl hown2 (by unfold maxLen; omega) (.int .i32 116) (.int .i64 9) _ rfl rfl (HK.out 116 (by omega) (by omega)) _ [] (plainElem_int Tryz.underlying3 (show (Lit.int .i64 9).wf = true by decide)) ?_; intro w3 hown3 hg3))
  have b3 : Below w.heap.size w w3 := ((b0.grown hg1 (by simp) (fun k hk => by cases hk; exact Nat.le_refl _)).grown hg2 (by have := hg1.size; simp at this; omega) (fun k hk => by cases hk; exact Nat.le_refl _)).grown hg3 (by have := hg1.size; have := hg2.size; simp at *; omega) (fun k hk => by cases hk; exact Nat.le_refl _)
  have hs3 : w.heap.size + 1 ≤ w3.heap.size := by have := hg1.size; have := hg2.size; have := hg3.size; simp at *; omega
  have hS3 : Says _ fThree := (((Says.empty.put 110 10).put 114 13).put 116 9).congr fun c => by unfold fThree; rfl
  have HS3 : Hid (Says _ fThree) := hS3
  clear hm0 b0 hg1 hg2 hg3 hown1 hown2 hS3
  generalize (((DataW.map (H := Unit) []).put (Lit.int .i32 110) (.lit (.int .i64 10))).put (Lit.int .i32 114) (.lit (.int .i64 13))).put (Lit.int .i32 116) (.lit (.int .i64 9)) = D3 at *
  go_loopw [3] (fun _ wr => ∃ (k : Nat) (D : DataW Unit), k ≤ 19 ∧ wr.ownsMap Tryz.prog 21 (plainElem Tryz.prog 3) w.heap.size (3 + k) D ∧ Says D (fUpto k) ∧ wr.heap[w3.heap.size]? = some (.stringIter signB k) ∧ Below w.heap.size w wr ∧ w3.heap.size + 1 ≤ wr.heap.size) (fun _ wr => 19 - wr.iterPos w3.heap.size)
  case atStart =>
    refine ⟨0, D3, by omega, hown3.alloc _, HS3.out.congr fun c => (fUpto_zero c).symm, World.iter_heap w3 signB 0, b3.alloc (by omega) _, by simp [World.iter]⟩
  case round =>
    obtain ⟨k, D, hk, hown, hSays, hit, hbw, hsz⟩ := hrel
    have HSa : Hid (Says D (fUpto k)) := hSays
    clear hSays
    by_cases hp : k < 19
    · have hnx : ∀ ty, (Instr.next (.pointer (some ⟨w3.heap.size, 0, none⟩)) true ty).run Tryz.prog wr = _ := fun ty => Lib.run_next_any_at wr w3.heap.size signB k ty hit hp
      obtain ⟨hd, hc0, hc1⟩ := sign_dec k hp
      have hb2 := Lib.below_iterAt (Below.refl w3.heap.size wr) (k := w3.heap.size) (Nat.le_refl _) signB (k + 1)
      have hit2 := Lib.iterAt_heap wr w3.heap.size signB k (k + 1) hit
      have hbw2 := Lib.below_iterAt hbw (k := w3.heap.size) (by omega) signB (k + 1)
      have hsz2 : w3.heap.size + 1 ≤ (wr.iterAt w3.heap.size signB (k + 1)).heap.size := by rw [Lib.iterAt_size]; exact hsz
      have hown2 : (wr.iterAt w3.heap.size signB (k + 1)).ownsMap Tryz.prog 21 (plainElem Tryz.prog 3) w.heap.size (3 + k) D := by
        obtain ⟨es, clock, h1, h2⟩ := hown
        exact ⟨es, clock, (hb2.block w.heap.size (by omega)).trans h1, h2⟩
      have HP : Hid (Says (D.put (.int .i32 (signL.getD k 0)) (.lit (.int .i64 (signL.getD k 0)))) (fUpto (k + 1))) := (HSa.out.put (signL.getD k 0) (signL.getD k 0)).congr fun c => (fUpto_succ k hp c).symm
      simp only [hd] at hnx
      have ec : (((signL.getD k 0).toNat : Nat) : Int) = signL.getD k 0 := by omega
      rw [ec] at hnx
      generalize signL.getD k 0 = c at *
      clear hown hbw hd ec hb2
      go_wp2_with (at_mapUpdate; refine wpList_mapUpdate_own _ rfl _ _ _ 88 rfl 21 3 Tryz.lawRune Tryz.underlying88 _ w.heap.size _ _ rfl hown2 (by unfold maxLen; omega) (.int .i32 c) (.int .i64 c) _ rfl rfl (HK.out c (by omega) (by omega)) _ [] (plainElem_int Tryz.underlying3 (WalkArith.wf_i64 (by constructor <;> omega))) ?_; intro w5 hown5 hg5)
      go_frame
      go_roundw
      case rel =>
        have hit5 : w5.heap[w3.heap.size]? = some (.stringIter signB (k + 1)) := (hg5.block w3.heap.size (by omega) (fun e => by have := Option.some.inj e; omega)).trans hit2
        exact ⟨k + 1, _, by omega, hown5.mono (by omega), HP.out, hit5, hbw2.grown hg5 (by omega) (fun k hk => by have := Option.some.inj hk; omega), by have := hg5.size; omega⟩
      case measure =>
        have hit5 : w5.heap[w3.heap.size]? = some (.stringIter signB (k + 1)) := (hg5.block w3.heap.size (by omega) (fun e => by have := Option.some.inj e; omega)).trans hit2
        simp only [World.iterPos, hit5, hit]
        omega
    · have hk19 : k = 19 := by omega
      subst hk19
      have hnx : ∀ ty, (Instr.next (.pointer (some ⟨w3.heap.size, 0, none⟩)) true ty).run Tryz.prog wr = _ := fun ty => Lib.run_next_end_at wr w3.heap.size signB 19 ty hit (by decide)
      have HE : Hid (EscMap wr w.heap.size) := ⟨22, D, by omega, hown, (HSa.out.congr fUpto_all).2⟩
      clear hown
      go_wp2
      go_ret
      exact ⟨rfl, HE.out, hbw⟩

end Go.Proofs.YtbjohedenfindaaGreatDoor

namespace Go.Proofs.YtbjohedenfindaaGreatDoor
open Go.RowKit
set_option linter.unusedVariables false
set_option maxRecDepth 100000

theorem weigh_all : ∀ n, n ≤ 31 → WeighC n
  | 0, _ => weigh_zero
  | n + 1, hn => by
    intro ok m w v t wi hwi hT hall
    cases m with
    | zero => exact hT.elim
    | succ m =>
      obtain ⟨b, sv, kv, rfl, hb, hN, hset, hkids⟩ := hT
      have e : wi = 30 - (n : Int) := by omega
      subst e
      exact weigh_node n (by omega) (weigh_all n (by omega)) hN hset.rngs hkids hall.1 hall.2

set_option maxHeartbeats 1000000 in
theorem pok_any {ok : Nat → Prop} {w : World} {v : Value} {t : Re} (hT : Tree ok w v t) (hall : AllOk 31 t) :
    Calls Tryz.prog 14 #[v] w fun e w' => e = .returned (.bool (decide (weighS 31 t ≤ 60))) ∧ Below w.heap.size w w' := by
  obtain ⟨m, hm⟩ := hT
  have HC : Hid (Calls Tryz.prog 27 #[v, .int .i64 0] w fun e w' => e = .returned (.int .i64 (weighS 31 t)) ∧ Below w.heap.size w w') := weigh_all 31 (by omega) ok m w v t 0 (by omega) hm hall
  obtain ⟨b, rfl, _⟩ := (show Tree ok w v t from ⟨m, hm⟩).ptr
  generalize weighS 31 t = y at *
  clear hm hall
  by_cases h : y ≤ 60
  · have hd : decide (y ≤ 60) = true := by simp [h]
    rw [hd]
    clear hd
    go_enter Tryz.func14, Tryz.ntmps14
    go_wp2_with fail
    refine HC.out.mono ?_
    rintro e w1 ⟨rfl, hb⟩
    go_wp2
    go_ret
    exact ⟨by simp, hb⟩
  · have hd : decide (y ≤ 60) = false := by simp; omega
    rw [hd]
    go_enter Tryz.func14, Tryz.ntmps14
    go_wp2_with fail
    refine HC.out.mono ?_
    rintro e w1 ⟨rfl, hb⟩
    go_wp2
    go_ret
    exact ⟨by simp, hb⟩

/-- the pattern of a text, if it has one that is not too heavy -/
def readS (s : ByteArray) (mk : List Rg → Bool → List Rg) : Option Re :=
  match wholeS s mk with
  | none => none
  | some t => if weighS 31 t ≤ 60 then some t else none

end Go.Proofs.YtbjohedenfindaaGreatDoor

namespace Go.Proofs.YtbjohedenfindaaGreatDoor
set_option linter.unusedVariables false

def GoodT (t : Re) : Prop := ∀ n, AllOk n t
end Go.Proofs.YtbjohedenfindaaGreatDoor

namespace Go.Proofs.YtbjohedenfindaaGreatDoor
set_option linter.unusedVariables false

/-- a tree as a pattern that lies in memory -/
def reOf (t : Tm) : Re := match t with
  | ⟨k, s, a, b, ks⟩ => ⟨k, s, a, b, (ks.map reOf).map some⟩
theorem reOf_eq (t : Tm) : reOf t = ⟨t.kind, t.set, t.mn, t.mx, (t.kids.map reOf).map some⟩ := by
  obtain ⟨k, s, a, b, ks⟩ := t; rw [reOf]
theorem Re.ind {P : Re → Prop} (h : ∀ t : Re, (∀ k, some k ∈ t.kids → P k) → P t) : ∀ t, P t := fun t => by
  match t with
  | ⟨k, s, a, b, ks⟩ =>
    refine h _ fun u hu => ?_
    have h1 : SizeOf.sizeOf u < SizeOf.sizeOf ks := by
      have h1 := List.sizeOf_lt_of_mem (show some u ∈ ks from hu)
      have h2 : SizeOf.sizeOf (some u) = 1 + SizeOf.sizeOf u := by simp
      omega
    exact Re.ind h u

/-- a tree as it is read -/
def OShape (t : Tm) : Prop :=
  (∃ s, t = setT s) ∨ (∃ l, t = sevT 2 l) ∨ (∃ k l, (k = 3 ∨ k = 4) ∧ t = sevT k l ∧ l ≠ []) ∨
  (∃ x, t = notT x) ∨ (∃ x lo hi, t = repT x lo hi ∧ 0 ≤ lo ∧ (hi = -1 ∨ (lo ≤ hi ∧ 1 ≤ hi)))
def Org (t : Tm) : Prop := match t with
  | ⟨k, s, a, b, ks⟩ => OShape ⟨k, s, a, b, ks⟩ ∧ ∀ x, (h : x ∈ ks) → Org x
theorem org_iff {t : Tm} : Org t ↔ OShape t ∧ ∀ x ∈ t.kids, Org x := by
  obtain ⟨k, s, a, b, ks⟩ := t; rw [Org]
/-! ## Small -/
def wT (t : Tm) : Nat := match t with
  | ⟨k, s, a, b, ks⟩ => if k = 1 then 1 else if k = 6 then (ks.map wT).sum * max (max a b).toNat 1 + 1 else (ks.map wT).sum + 1
theorem wT_eq (t : Tm) : wT t = if t.kind = 1 then 1 else if t.kind = 6 then (t.kids.map wT).sum * max (max t.mn t.mx).toNat 1 + 1 else (t.kids.map wT).sum + 1 := by
  obtain ⟨k, s, a, b, ks⟩ := t; rw [wT]
theorem wT_pos (t : Tm) : 1 ≤ wT t := by rw [wT_eq]; split <;> (try split) <;> omega

end Go.Proofs.YtbjohedenfindaaGreatDoor

namespace Go.Proofs.YtbjohedenfindaaGreatDoor
open Go.RowKit
set_option linter.unusedVariables false
set_option maxRecDepth 100000

def TT (ok : Nat → Prop) (w : World) (v : Value) (t : Tm) : Prop := Tree ok w v (reOf t)
theorem TT.below {ok : Nat → Prop} {w w' : World} {v : Value} {t : Tm} (h : TT ok w v t) (hb : Below w.heap.size w w') : TT ok w' v t :=
  Tree.moved h hb.size fun b hb' hok => ⟨hok, hb.block b hb'⟩
/-- what lies where a tree is -/
structure Node (ok : Nat → Prop) (w : World) (v : Value) (t : Tm) (b : Nat) (sv : Value) (ka : Option Addr) (kc : Nat) : Prop where
  v_eq : v = .pointer (some ⟨b, 0, none⟩)
  lt : b < w.heap.size
  okb : ok b
  c0 : w.cell? ⟨b, 0, none⟩ = some (.int .i64 t.kind)
  c1 : w.cell? ⟨b, 1, none⟩ = some sv
  c2 : w.cell? ⟨b, 2, none⟩ = some (.int .i64 t.mn)
  c3 : w.cell? ⟨b, 3, none⟩ = some (.int .i64 t.mx)
  c4 : w.cell? ⟨b, 4, none⟩ = some (.slice ka t.kids.length kc)
  set : RowR ok w sv t.set
  kid : ∀ j, j < t.kids.length → ∃ g off u, ka = some ⟨g, off, none⟩ ∧ g < w.heap.size ∧ ok g ∧ w.cell? ⟨g, off + j, none⟩ = some u ∧ TT ok w u (t.kids.getD j nothT)
theorem getD_map_re (l : List Tm) (j : Nat) (h : j < l.length) : ((l.map reOf).map some).getD j none = some (reOf (l.getD j nothT)) := by
  simp [List.getD_eq_getElem?_getD, List.getElem?_eq_getElem h]
theorem TT.node {ok : Nat → Prop} {w : World} {v : Value} {t : Tm} (h : TT ok w v t) : ∃ b sv ka kc, Node ok w v t b sv ka kc := by
  obtain ⟨n, h⟩ := h
  cases n with
  | zero => exact h.elim
  | succ n =>
    obtain ⟨b, sv, kv, rfl, hokb, h3, h4, h5⟩ := h
    have hb := (Array.getElem?_eq_some_iff.1 h3).1
    rw [reOf_eq] at h3 h4 h5
    simp only at h3 h4 h5
    have hl : ((t.kids.map reOf).map some).length = t.kids.length := by simp
    have hkv : ∃ ka kc, kv = .slice ka t.kids.length kc ∧ ∀ j, j < t.kids.length → ∃ g off u, ka = some ⟨g, off, none⟩ ∧ g < w.heap.size ∧ ok g ∧ w.cell? ⟨g, off + j, none⟩ = some u ∧ TT ok w u (t.kids.getD j nothT) := by
      rcases h5 with ⟨h, a, c, rfl⟩ | ⟨g, off, c, rfl, hg, hok, hc⟩
      · have : t.kids = [] := by simpa using h
        rw [this]; exact ⟨a, c, rfl, fun j hj => by simp at hj⟩
      · rw [hl] at hc ⊢
        refine ⟨_, _, rfl, fun j hj => ?_⟩
        obtain ⟨u, hu, hp⟩ := hc j hj
        rw [getD_map_re _ _ hj] at hp
        exact ⟨g, off, u, rfl, hg, hok, hu, n, hp⟩
    obtain ⟨ka, kc, rfl, hk⟩ := hkv
    exact ⟨b, sv, ka, kc, rfl, hb, hokb, by simp [World.cell?, h3], by simp [World.cell?, h3], by simp [World.cell?, h3], by simp [World.cell?, h3], by simp [World.cell?, h3], h4, hk⟩
end Go.Proofs.YtbjohedenfindaaGreatDoor

namespace Go.Proofs.YtbjohedenfindaaGreatDoor
open Go.RowKit
set_option linter.unusedVariables false
set_option maxRecDepth 100000

theorem TT.ptr {ok : Nat → Prop} {w : World} {v : Value} {t : Tm} (h : TT ok w v t) : ∃ b, v = .pointer (some ⟨b, 0, none⟩) := by
  obtain ⟨b, _, _, _, h⟩ := h.node; exact ⟨b, h.v_eq⟩
end Go.Proofs.YtbjohedenfindaaGreatDoor

namespace Go.Proofs.YtbjohedenfindaaGreatDoor
open Go.RowKit
set_option linter.unusedVariables false
set_option maxRecDepth 100000

end Go.Proofs.YtbjohedenfindaaGreatDoor

namespace Go.Proofs.YtbjohedenfindaaGreatDoor
open Go.RowKit
set_option linter.unusedVariables false
set_option maxRecDepth 100000

end Go.Proofs.YtbjohedenfindaaGreatDoor

namespace Go.Proofs.YtbjohedenfindaaGreatDoor
open Go.RowKit
set_option linter.unusedVariables false
set_option maxRecDepth 100000

end Go.Proofs.YtbjohedenfindaaGreatDoor

namespace Go.Proofs.YtbjohedenfindaaGreatDoor
set_option linter.unusedVariables false

def NumOk (t : Tm) : Prop := (1 ≤ t.kind ∧ t.kind ≤ 6) ∧ (-1 ≤ t.mn ∧ t.mn ≤ 50) ∧ (-1 ≤ t.mx ∧ t.mx ≤ 50) ∧ t.set.length ≤ 1000000 ∧ (∀ r ∈ t.set, (0 ≤ r.1 ∧ r.1 ≤ 1114111) ∧ 0 ≤ r.2 ∧ r.2 ≤ 1114111) ∧ t.kids.length ≤ 17592186000000
def Sml (t : Tm) : Prop := match t with
  | ⟨k, s, a, b, ks⟩ => NumOk ⟨k, s, a, b, ks⟩ ∧ ∀ x, (h : x ∈ ks) → Sml x
theorem sml_iff {t : Tm} : Sml t ↔ NumOk t ∧ ∀ x ∈ t.kids, Sml x := by
  obtain ⟨k, s, a, b, ks⟩ := t; rw [Sml]
theorem Sml.num {t : Tm} (h : Sml t) : NumOk t := (sml_iff.1 h).1
theorem Sml.kid {t x : Tm} (h : Sml t) (hx : x ∈ t.kids) : Sml x := (sml_iff.1 h).2 x hx
end Go.Proofs.YtbjohedenfindaaGreatDoor

namespace Go.Proofs.YtbjohedenfindaaGreatDoor
open Go.RowKit
set_option linter.unusedVariables false
set_option maxRecDepth 100000

theorem getD_mem (l : List Tm) (k : Nat) (h : k < l.length) : l.getD k nothT ∈ l := by
  rw [List.getD_eq_getElem?_getD, List.getElem?_eq_getElem h]; exact List.getElem_mem h
end Go.Proofs.YtbjohedenfindaaGreatDoor

namespace Go.Proofs.YtbjohedenfindaaGreatDoor
set_option linter.unusedVariables false

end Go.Proofs.YtbjohedenfindaaGreatDoor

namespace Go.Proofs.YtbjohedenfindaaGreatDoor
open Go.RowKit
set_option linter.unusedVariables false
set_option maxRecDepth 100000

theorem below_drew1 {B : Nat} {a w : World} (h : Below B a w) : Below B a w.drew := ⟨h.os, h.tape, h.output, h.size, h.block⟩
theorem below_drewN (w : World) (n : Nat) : Below w.heap.size w (w.drewN n) := below_drew' (Below.refl _ _) n

end Go.Proofs.YtbjohedenfindaaGreatDoor

namespace Go.Proofs.YtbjohedenfindaaGreatDoor
open Go.RowKit
set_option linter.unusedVariables false
set_option maxRecDepth 100000

end Go.Proofs.YtbjohedenfindaaGreatDoor

namespace Go.Proofs.YtbjohedenfindaaGreatDoor
open Go.RowKit
set_option linter.unusedVariables false
set_option maxRecDepth 100000

end Go.Proofs.YtbjohedenfindaaGreatDoor

namespace Go.Proofs.YtbjohedenfindaaGreatDoor
open Go.RowKit
open Go.Maps (Keyed)
set_option linter.unusedVariables false
set_option maxRecDepth 100000

section
variable (zs : List Int) (Φ : Nat → Option Tm) (m : Nat)

end

section
variable {zs : List Int} {Φ : Nat → Option Tm} {m : Nat}

end
end Go.Proofs.YtbjohedenfindaaGreatDoor

namespace Go.Proofs.YtbjohedenfindaaGreatDoor
open Go.RowKit
set_option linter.unusedVariables false
set_option maxRecDepth 100000

section
variable {zs : List Int} {Φ : Nat → Option Tm} {m : Nat}

end
end Go.Proofs.YtbjohedenfindaaGreatDoor

namespace Go.Proofs.YtbjohedenfindaaGreatDoor
open Go.RowKit
set_option linter.unusedVariables false
set_option maxRecDepth 100000

section
variable {zs : List Int} {Φ : Nat → Option Tm} {m : Nat}

end
end Go.Proofs.YtbjohedenfindaaGreatDoor

namespace Go.Proofs.YtbjohedenfindaaGreatDoor
open Go.RowKit
set_option linter.unusedVariables false
set_option maxRecDepth 100000

section
variable {zs : List Int} {Φ : Nat → Option Tm} {m : Nat}

end
end Go.Proofs.YtbjohedenfindaaGreatDoor

namespace Go.Proofs.YtbjohedenfindaaGreatDoor
open Go.RowKit
set_option linter.unusedVariables false
set_option maxRecDepth 100000

section
variable {zs : List Int} {Φ : Nat → Option Tm} {m : Nat}

end
end Go.Proofs.YtbjohedenfindaaGreatDoor

namespace Go.Proofs.YtbjohedenfindaaGreatDoor
open Go.RowKit
set_option linter.unusedVariables false
set_option maxRecDepth 100000

section
variable {zs : List Int} {Φ : Nat → Option Tm} {m : Nat}

/-! ## One of several -/
end
end Go.Proofs.YtbjohedenfindaaGreatDoor

namespace Go.Proofs.YtbjohedenfindaaGreatDoor
open Go.RowKit
set_option linter.unusedVariables false
set_option maxRecDepth 100000

section
variable {zs : List Int} {Φ : Nat → Option Tm} {m : Nat}

/-! ## Both -/
end
end Go.Proofs.YtbjohedenfindaaGreatDoor

namespace Go.Proofs.YtbjohedenfindaaGreatDoor
open Go.RowKit
open Go.Maps (Keyed)
set_option linter.unusedVariables false
set_option maxRecDepth 100000

section
variable {zs : List Int} {Φ : Nat → Option Tm} {m : Nat}

/-- both has two kids at least; not too many kids -/
def Two (t : Tm) : Prop := match t with
  | ⟨k, s, a, b, ks⟩ => ((k = 4 → 2 ≤ ks.length) ∧ ks.length ≤ 10000000) ∧ ∀ x, (h : x ∈ ks) → Two x
theorem two_iff {t : Tm} : Two t ↔ ((t.kind = 4 → 2 ≤ t.kids.length) ∧ t.kids.length ≤ 10000000) ∧ ∀ x ∈ t.kids, Two x := by
  obtain ⟨k, s, a, b, ks⟩ := t; rw [Two]
end
end Go.Proofs.YtbjohedenfindaaGreatDoor
