/- Texts of the proof, put together: GLsS, GEnc, GRep. -/
import Derived.Test.YtmkimaceioacgaaDoorGk24
import Derived.Laws.StructEq
import Derived.Test.YtmkimaceioacgaaDoorGk08
namespace Go.Proofs.YtmkimaceioacgaaDoor
open Go.RowKit
set_option linter.unusedVariables false
set_option maxRecDepth 100000

/-- what tells a name's sentence -/
def SaysT (w : World) (F : Nat) (cap : Value) (N : Nat) (ps : List PdR) : Prop := ∀ (w' : World) (L : List SF) (v : Value) (n : Nat), n < N → L.length = N → (∀ n, OkS (factF L n)) → SntR w' v L → Below w.heap.size w w' → Calls Tryd.prog F #[v, .int .i64 n, cap] w' fun e w'' => e = .returned (sfV (sayT ps (factF L) n)) ∧ Below w'.heap.size w' w''
theorem sf_inj {a b : SF} (h : knF a = knF b) (h2 : txF a = txF b) : a = b := by
  cases a using SF.cs <;> cases b using SF.cs <;> simp [knF, txF] at * <;> exact h2
/-- between rounds -/
structure TsI (w wr : World) (FB TB N : Nat) (cn : Nat → Nat) (ps : List PdR) (av : Value) (L : List SF) (qs : List Int) : Prop where
  row : RowS wr FB L
  wk : WkT ps N L fun n => (n : Int) ∈ qs
  ask : AskM wr FB av qs
  nms : ∀ x ∈ qs, 0 ≤ x ∧ x < N
  lnk : LinksM wr TB N (fun n => TB + 1 + n) cn (fun n k => k < N ∧ linkR ps ps.length k n)
/-- within a round -/
structure TrI (wo wr : World) (FB N : Nat) (ps : List PdR) (qs : List Int) (L0 : List SF) (j : Nat) (gv : Value) (L : List SF) (zs : List Int) : Prop where
  row : RowS wr FB L
  wk : WkT ps N L fun n => (n : Int) ∈ qs.drop j ∨ (n : Int) ∈ zs
  own : OwnI wr wo.heap.size gv zs
  mem : ∀ x ∈ zs, 0 ≤ x ∧ x < N
  len : zs.length ≤ j * 3000000
  dec : zs = [] ∨ rkT L < rkT L0
  le : rkT L ≤ rkT L0
  gr : wo.grownBy wr (some FB)
/-- while the names that rest on one are gone through -/
structure TmI (wo wr : World) (FB N : Nat) (ps : List PdR) (qs : List Int) (j : Nat) (gv : Value) (L : List SF) (zs : List Int) (left : Lit → Bool) (rr m : Nat) : Prop where
  row : RowS wr FB L
  wk : WkT ps N L fun n => (n : Int) ∈ qs.drop (j + 1) ∨ (n : Int) ∈ zs ∨ left (.int .i64 (n : Int)) = true
  own : OwnI wr wo.heap.size gv zs
  ne : gv.ownBlock ≠ some rr
  mem : ∀ x ∈ zs, 0 ≤ x ∧ x < N
  len : zs.length ≤ j * 3000000 + m
  gr : wo.grownBy wr (some FB)
theorem TsI.start {w wr : World} {FB TB N : Nat} {cn : Nat → Nat} {ps : List PdR} {av : Value} {L : List SF} {qs : List Int} (h : TsI w wr FB TB N cn ps av L qs) : TrI wr wr FB N ps qs L 0 (.slice none 0 0) L [] :=
  ⟨h.row, h.wk.weaken fun n _ hn => .inl (by simpa using hn), ⟨rfl, .inl ⟨rfl, rfl⟩⟩, fun x hx => by simp at hx, by simp, .inl rfl, Nat.le_refl _, grown_refl _ _⟩
/-- a name that says nothing new -/
theorem TrI.same {wo wr w5 : World} {FB N : Nat} {ps : List PdR} {qs : List Int} {L0 : List SF} {j : Nat} {gv : Value} {L : List SF} {zs : List Int} (h : TrI wo wr FB N ps qs L0 j gv L zs) (hFB : FB < wo.heap.size) (hj : j < qs.length) {n : Nat} (hn : n < N) (hx : qs.getD j 0 = (n : Int)) (hb : Below wr.heap.size wr w5) (he : sayT ps (factF L) n = factF L n) : TrI wo w5 FB N ps qs L0 (j + 1) gv L zs := by
  have hg := below_grownN hb
  refine ⟨h.row.grown hg (by simp), ?_, h.own.kept hg (by cases hq : gv.ownBlock <;> simp), h.mem, Nat.le_trans h.len (Nat.mul_le_mul_right _ (Nat.le_succ _)), h.dec, h.le, grown_more h.gr hg (fun g e => by simp at e)⟩
  refine h.wk.same (n := n) ?_ ?_
  · exact he.symm
  · intro m hm ho hne
    rcases ho with ho | ho
    · rcases mem_drop_cons hj ho with e | e
      · rw [hx] at e; exact absurd (by omega) hne
      · exact .inl e
    · exact .inr ho
/-- a name that says something new -/
theorem TrI.set {wo wr w5 w7 : World} {FB N : Nat} {ps : List PdR} {qs : List Int} {L0 : List SF} {j : Nat} {gv : Value} {L : List SF} {zs : List Int} (h : TrI wo wr FB N ps qs L0 j gv L zs) (hps : ∀ p ∈ ps, 0 ≤ p.left) (hFB : FB < wo.heap.size) (hj : j < qs.length) {n : Nat} (hn : n < N) (hx : qs.getD j 0 = (n : Int)) (hb : Below wr.heap.size wr w5) (hne : sayT ps (factF L) n ≠ factF L n) (h3 : ∀ p ∈ ps, ∀ s ∈ p.right, s ≤ 300)
    (left : Lit → Bool) (hleft : ∀ k : Nat, k < N → linkR ps ps.length k n → left (.int .i64 (k : Int)) = true) (hg7 : ((w5.setCell ⟨FB, n * 2, none⟩ (.int .i64 (knF (sayT ps (factF L) n)))).setCell ⟨FB, n * 2 + 1, none⟩ (.string (encB (sayT ps (factF L) n)))).grownBy w7 none) (rr : Nat) (hrr : wr.heap.size ≤ rr) :
    TmI wo w7 FB N ps qs j gv (L.set n (sayT ps (factF L) n)) zs left rr 0 ∧ rkT (L.set n (sayT ps (factF L) n)) < rkT L0 := by
  have hg := below_grownN hb
  have hrow5 : RowS w5 FB L := h.row.grown hg (by simp)
  have hs6 : w5.grownBy ((w5.setCell ⟨FB, n * 2, none⟩ (.int .i64 (knF (sayT ps (factF L) n)))).setCell ⟨FB, n * 2 + 1, none⟩ (.string (encB (sayT ps (factF L) n)))) (some FB) := grown_more (set_grown w5 FB (n * 2) _) (set_grown _ FB (n * 2 + 1) _) (fun g e => .inr (by simpa using e.symm))
  have hol : ∀ b, gv.ownBlock = some b → wo.heap.size ≤ b ∧ b < wr.heap.size := fun b hb => h.own.lt b hb
  have hown5 : OwnI w5 wo.heap.size gv zs := h.own.kept hg (by cases hq : gv.ownBlock <;> simp)
  have hown6 : OwnI ((w5.setCell ⟨FB, n * 2, none⟩ (.int .i64 (knF (sayT ps (factF L) n)))).setCell ⟨FB, n * 2 + 1, none⟩ (.string (encB (sayT ps (factF L) n)))) wo.heap.size gv zs := hown5.kept hs6 (.inr fun e => by have := hol FB e; omega)
  refine ⟨⟨(hrow5.set n (by rw [h.wk.len]; exact hn) _).grown hg7 (by simp), ?_, hown6.kept hg7 (by cases hq : gv.ownBlock <;> simp), fun e => by have := hol _ e; omega, h.mem, Nat.le_trans h.len (Nat.le_add_right _ _), ?_⟩, ?_⟩
  · refine h.wk.set hps h3 hn ?_ ?_
    · intro m hm ho hne
      rcases ho with ho | ho
      · rcases mem_drop_cons hj ho with e | e
        · rw [hx] at e; exact absurd (by omega) hne
        · exact .inl e
      · exact .inr (.inl ho)
    · intro m hm hd
      exact .inr (.inr (hleft m hm (dep_link ps hps m n hd)))
  · exact grown_more (grown_more (grown_more h.gr hg (fun g e => by simp at e)) hs6 (fun g e => .inr (by simpa using e.symm))) hg7 (fun g e => by simp at e)
  · have := rkT_set L n (sayT ps (factF L) n) (by rw [h.wk.len]; exact hn) (rkF_lt (sayT_ok h.wk.ok h3 n) (h.wk.ok n) (h.wk.mono n hn) hne)
    have := h.le
    omega
/-- one of the names that rest on it -/
theorem TmI.step {wo wr w3 w9 : World} {FB N : Nat} {ps : List PdR} {qs : List Int} {j : Nat} {gv : Value} {L : List SF} {zs : List Int} {left : Lit → Bool} {rr m q g cap : Nat} {o : Obj} (h : TmI wo wr FB N ps qs j gv L zs left rr m) (hFB : FB < wo.heap.size) (hrr : wo.heap.size ≤ rr) (hrl : rr < wr.heap.size) (hq : q < N) (hg3 : wr.grownBy w3 (some rr))
    (hown : w9.ownsRow wo.heap.size 3 1 (.slice (some ⟨g, 0, none⟩) (zs.length + 1) cap) (zs.length + 1) (zs.map (Value.int .i64) ++ [.int .i64 (q : Int)])) (hg9 : (w3.alloc o).grownBy w9 gv.ownBlock) (hat : gv.ownBlock = some g ∨ g = w3.heap.size + 1) :
    TmI wo w9 FB N ps qs j (.slice (some ⟨g, 0, none⟩) (zs.length + 1) cap) L (zs ++ [(q : Int)]) (fun z => left z && !z.sameKey (.int .i64 (q : Int))) rr (m + 1) := by
  have hol : ∀ b, gv.ownBlock = some b → wo.heap.size ≤ b ∧ b < wr.heap.size := fun b hb => h.own.lt b hb
  have hgA : w3.grownBy (w3.alloc o) none := World.grownBy_alloc w3 o none
  have hs3 := hg3.size
  have g3 : wo.grownBy w3 (some FB) := grown_more h.gr hg3 (fun g e => .inl (by have h1 : rr = g := (by simpa using e); omega))
  have gA : wo.grownBy (w3.alloc o) (some FB) := grown_more g3 hgA (fun g e => by simp at e)
  have g9 : wo.grownBy w9 (some FB) := grown_more gA hg9 (fun g e => .inl (hol g e).1)
  refine ⟨?_, ?_, ?_, ?_, ?_, ?_, g9⟩
  · have r3 : RowS w3 FB L := h.row.grown hg3 (fun e => by have h1 : rr = FB := (by simpa using e); omega)
    have rA : RowS (w3.alloc o) FB L := r3.grown hgA (by simp)
    exact rA.grown hg9 (fun e => by have := hol FB e; omega)
  · refine h.wk.weaken fun n hn ho => ?_
    rcases ho with ho | ho | ho
    · exact .inl ho
    · exact .inr (.inl (by simp [ho]))
    · by_cases e : n = q
      · subst e; exact .inr (.inl (by simp))
      · refine .inr (.inr ?_)
        have : ¬ (n : Int) = (q : Int) := by omega
        simp [ho, Lit.sameKey, this]
  · show w9.ownsRow _ _ _ _ _ _
    simpa using hown
  · intro e
    have e' : g = rr := by simpa [Value.ownBlock] using e
    rcases hat with h1 | h1
    · exact h.ne (by rw [h1, e'])
    · omega
  · intro x hx
    rcases List.mem_append.1 hx with hx | hx
    · exact h.mem x hx
    · obtain rfl : x = (q : Int) := by simpa using hx
      omega
  · rw [List.length_append]; exact Nat.succ_le_succ h.len
theorem TmI.more {wo wr : World} {FB N : Nat} {ps : List PdR} {qs : List Int} {j : Nat} {gv : Value} {L : List SF} {zs : List Int} {left : Lit → Bool} {rr m m' : Nat} (h : TmI wo wr FB N ps qs j gv L zs left rr m) (hm : m ≤ m') : TmI wo wr FB N ps qs j gv L zs left rr m' := ⟨h.row, h.wk, h.own, h.ne, h.mem, Nat.le_trans h.len (Nat.add_le_add_left hm _), h.gr⟩
/-- they are all gone through -/
theorem TmI.done {wo wr : World} {FB N : Nat} {ps : List PdR} {qs : List Int} {L0 : List SF} {j : Nat} {gv : Value} {L : List SF} {zs : List Int} {left : Lit → Bool} {rr m : Nat} (h : TmI wo wr FB N ps qs j gv L zs left rr m) (hl : ∀ k, left k = false) (hm : m ≤ 3000000) (hrk : rkT L < rkT L0) : TrI wo wr FB N ps qs L0 (j + 1) gv L zs := by
  refine ⟨h.row, h.wk.weaken fun n hn ho => ?_, h.own, h.mem, Nat.le_trans h.len (by rw [Nat.succ_mul]; exact Nat.add_le_add_left hm _), .inr hrk, Nat.le_of_lt hrk, h.gr⟩
  rcases ho with ho | ho | ho
  · exact .inl ho
  · exact .inr ho
  · rw [hl] at ho; cases ho
/-- the next round -/
theorem TrI.next {w wo wr w8 w9 : World} {FB TB N : Nat} {cn : Nat → Nat} {ps : List PdR} {av gv v' : Value} {qs zs : List Int} {L0 L : List SF} (h : TrI wo wr FB N ps qs L0 qs.length gv L zs) (h0 : TsI w wo FB TB N cn ps av L0 qs) (hFT : FB < TB) (hg8 : wr.grownBy w8 gv.ownBlock) (hg9 : w8.grownBy w9 gv.ownBlock)
    (hask : AskM w9 FB v' (Lib.compact (zs.mergeSort fun x y => decide (x ≤ y)))) :
    TsI w w9 FB TB N cn ps v' L (Lib.compact (zs.mergeSort fun x y => decide (x ≤ y))) ∧ (Lib.compact (zs.mergeSort fun x y => decide (x ≤ y))).length ≤ N ∧ wo.grownBy w9 (some FB) ∧ 2 * rkT L + anyV v' < 2 * rkT L0 + 1 := by
  have hol : ∀ b, gv.ownBlock = some b → wo.heap.size ≤ b ∧ b < wr.heap.size := fun b hb => h.own.lt b hb
  have hFl := h0.row.lt
  have hmem : ∀ x, x ∈ Lib.compact (zs.mergeSort fun x y => decide (x ≤ y)) ↔ x ∈ zs := fun x => (mem_compact _ x).trans (mem_sortI zs x)
  have hne : gv.ownBlock ≠ some FB := fun e => by have := hol FB e; omega
  have hg : wo.grownBy w9 (some FB) := grown_more (grown_more h.gr hg8 (fun g e => .inl (hol g e).1)) hg9 (fun g e => .inl (hol g e).1)
  have hnm : ∀ x ∈ Lib.compact (zs.mergeSort fun x y => decide (x ≤ y)), 0 ≤ x ∧ x < N := fun x hx => h.mem x ((hmem x).1 hx)
  refine ⟨⟨(h.row.grown hg8 hne).grown hg9 hne, ?_, hask, hnm, h0.lnk.grown hg (by omega) (fun n hn => by show TB + 1 + n ≠ FB; omega)⟩, ?_, hg, ?_⟩
  · refine h.wk.weaken fun n hn ho => ?_
    rcases ho with ho | ho
    · simp at ho
    · exact (hmem _).2 ho
  · have := strict_len _ 0 N (strict_compact _ (sorted_sortI zs)) hnm (by omega)
    omega
  · have hle := h.le
    rcases h.dec with e | e
    · obtain ⟨a, c, hv⟩ := hask.slice
      have : Lib.compact (zs.mergeSort fun x y => decide (x ≤ y)) = [] := by
        apply List.eq_nil_iff_forall_not_mem.2
        intro x hx
        have := (hmem x).1 hx
        rw [e] at this; simp at this
      rw [this] at hv
      rw [hv]
      show 2 * rkT L + 0 < _
      omega
    · have : anyV v' ≤ 1 := by unfold anyV; split <;> omega
      omega

end Go.Proofs.YtmkimaceioacgaaDoor

namespace Go.Proofs.YtmkimaceioacgaaDoor
open Go.RowKit
set_option linter.unusedVariables false

def decL : List UInt8 → List Int
  | a :: b :: r => ((a.toNat * 256 + b.toNat : Nat) : Int) :: decL r
  | _ => []
theorem byteU_nat (x : Int) (h0 : 0 ≤ x) (h1 : x < 256) : (byteU x).toNat = x.toNat := by
  unfold byteU
  rw [UInt8.toNat_ofNat']
  exact Nat.mod_eq_of_lt (by omega)
theorem decL_enc : ∀ (l : List Int), (∀ x ∈ l, 0 ≤ x ∧ x ≤ 300) → decL (encL l) = l
  | [], _ => rfl
  | x :: l, h => by
    have hx := h x (by simp)
    have ih := decL_enc l fun y hy => h y (by simp [hy])
    have e : encL (x :: l) = byteU (x / 256) :: byteU (x % 256) :: encL l := by simp [encL]
    rw [e]
    show (((byteU (x / 256)).toNat * 256 + (byteU (x % 256)).toNat : Nat) : Int) :: decL (encL l) = x :: l
    rw [ih, byteU_nat _ (by omega) (by omega), byteU_nat _ (by omega) (by omega)]
    congr 1
    omega
theorem encB_list (a : SF) : (encB a).toList = encL (txF a) := by
  rw [ByteArray.toList_eq]; rfl
theorem sf_eq {a b : SF} (ha : OkS a) (hb : OkS b) (h : knF a = knF b) (h2 : encL (txF a) = encL (txF b)) : a = b := by
  refine sf_inj h ?_
  have h3 : ∀ c : SF, OkS c → ∀ x ∈ txF c, 0 ≤ x ∧ x ≤ 300 := fun c hc x hx => by
    cases c using SF.cs with
    | told l => exact (hc l rfl).2 x hx
    | non => simp [txF] at hx
    | long => simp [txF] at hx
  rw [← decL_enc _ (h3 a ha), ← decL_enc _ (h3 b hb), h2]
theorem sfC_inj : ∀ (L L' : List SF), (∀ a ∈ L, OkS a) → (∀ a ∈ L', OkS a) → sfC L = sfC L' → L = L'
  | [], [], _, _, _ => rfl
  | [], _ :: _, _, _, h => by simp [sfC] at h
  | _ :: _, [], _, _, h => by simp [sfC] at h
  | a :: L, b :: L', ha, hb, h => by
    have e1 : sfC (a :: L) = .int .i64 (knF a) :: .string (encB a) :: sfC L := by simp [sfC]
    have e2 : sfC (b :: L') = .int .i64 (knF b) :: .string (encB b) :: sfC L' := by simp [sfC]
    rw [e1, e2] at h
    injection h with h1 h
    injection h with h2 h
    have h1' : knF a = knF b := by injection h1
    have h2' : encB a = encB b := by injection h2
    have h3 : encL (txF a) = encL (txF b) := by rw [← encB_list, ← encB_list, h2']
    rw [sf_eq (ha a (by simp)) (hb b (by simp)) h1' h3, sfC_inj L L' (fun c hc => ha c (by simp [hc])) (fun c hc => hb c (by simp [hc])) h]
theorem okS_mem {L : List SF} (h : ∀ n, OkS (factF L n)) : ∀ a ∈ L, OkS a := fun a ha => by
  obtain ⟨i, hi, rfl⟩ := List.mem_iff_getElem.1 ha
  have := h i
  unfold factF at this
  simpa [List.getD, hi] using this
/-- what cells of sentences say -/
def decS : List Value → List SF
  | .int _ k :: .string b :: r => (if k = 0 then SF.non else if k = 1 then SF.long else SF.told (decL b.toList)) :: decS r
  | _ => []
theorem decS_sfC : ∀ (L : List SF), (∀ a ∈ L, OkS a) → decS (sfC L) = L
  | [], _ => rfl
  | a :: L, h => by
    have ih := decS_sfC L (fun b hb => h b (List.mem_cons_of_mem _ hb))
    have ha := h a List.mem_cons_self
    have e : sfC (a :: L) = .int .i64 (knF a) :: .string (encB a) :: sfC L := rfl
    rw [e, decS, ih]
    congr 1
    cases a using SF.cs with
    | non => rfl
    | long => rfl
    | told l =>
      have e2 : (encB (some (some l))).toList = encL l := encB_list _
      show (if (2 : Int) = 0 then SF.non else if (2 : Int) = 1 then SF.long else SF.told (decL (encB (some (some l))).toList)) = some (some l)
      rw [if_neg (by decide), if_neg (by decide), e2, decL_enc l (ha l rfl).2]
def rdRowS (w : World) (D : Nat) : List SF := match w.heap[D]? with
  | some (.cells cs _ _) => decS cs.toList
  | _ => []
theorem RowS.rd {w : World} {D : Nat} {L : List SF} (h : RowS w D L) (hok : ∀ n, OkS (factF L n)) : rdRowS w D = L := by
  unfold RowS at h
  unfold rdRowS
  rw [h]
  exact decS_sfC L (okS_mem hok)
theorem okS_len {a : SF} (h : OkS a) : (txF a).length ≤ 1000 := by
  cases a using SF.cs with
  | told l => exact (h l rfl).1
  | non => simp [txF]
  | long => simp [txF]
theorem encL_len (l : List Int) : (encL l).length = l.length * 2 := by
  induction l with
  | nil => rfl
  | cons x l ih => simp [encL] at ih ⊢; omega

end Go.Proofs.YtmkimaceioacgaaDoor

namespace Go.Proofs.YtmkimaceioacgaaDoor
open Go.RowKit
set_option linter.unusedVariables false
set_option maxRecDepth 100000

theorem Tryd.infoIntSz : (Tryd.prog.info? 3).map (·.size) = some 1 := by kernel_rfl

set_option maxHeartbeats 1000000 in
theorem repeatI_any (x : Int) (b off c N : Nat) (hN : N ≤ 300) (w : World) (hb : b < w.heap.size) (hc : w.cell? ⟨b, off, none⟩ = some (.int .i64 x)) :
    Calls Tryd.prog 65 #[.slice (some ⟨b, off, none⟩) 1 c, .int .i64 N] w fun e w' => e = .returned (.slice (some ⟨w.heap.size, 0, none⟩) N N) ∧ Row w' w.heap.size (List.replicate N x) ∧ Below w.heap.size w w' := by
  have hmk := makeInts N (by omega) w
  have hmul := Tryd.bits_Mul 1 N (by omega) (by omega) w
  rw [show (1 * N / 18446744073709551616 : Nat) = 0 by omega, show (1 * N % 18446744073709551616 : Nat) = N by omega] at hmul
  have HR0 : Hid ((w.alloc (.cells (intsA (List.replicate N 0)) 3)).heap[w.heap.size]? = some (.cells (repZ (.int .i64 x) (.int .i64 0) 0 N).toArray 3 (0, 0))) := by
    show (w.heap.push _)[w.heap.size]? = _
    rw [Array.getElem?_push_size]
    simp [repZ, intsA]
  have hb0 := alloc_below w (.cells (intsA (List.replicate N 0)) 3)
  have hs0 := alloc_size w (.cells (intsA (List.replicate N 0)) 3)
  go_enter Tryd.func65, Tryd.ntmps65
  go_wp2_with fail
  refine hmul.mono ?_
  rintro e w1 ⟨rfl, hw1⟩
  rw [hw1]
  clear hmul hw1 w1
  go_wp2_with (refine wpList_copy_splice rfl _ _ 23 23 rfl 3 Tryd.underlying23 Tryd.infoIntSz _ _ _ _ _ _ rfl rfl w.heap.size 0 (repZ (.int .i64 x) (.int .i64 0) 0 N) 3 HR0.out (List.replicate (Nat.min 1 N) (.int .i64 x)) ?c0 ?c1 ?c2 ?c3 w.heap.size w hb0 (Nat.le_refl _) ?_)
  case c0 => simp
  case c1 =>
    intro h0
    intro j v hj
    have hj' := List.mem_of_getElem? hj
    have hlt := (List.getElem?_eq_some_iff.1 hj).1
    obtain rfl : v = .int .i64 x := List.eq_of_mem_replicate hj'
    have hm : Nat.min 1 N ≤ 1 := Nat.min_le_left _ _
    simp only [List.length_replicate] at hlt
    obtain rfl : j = 0 := by omega
    exact hc
  case c2 =>
    rw [repZ_len _ _ _ _ (Nat.zero_le _), List.length_replicate, Nat.zero_add]
    exact Nat.min_le_right _ _
  case c3 => intro v hv; rw [List.eq_of_mem_replicate hv]; rfl
  intro w2 HG2 hB2
  obtain ⟨m, hm⟩ : ∃ m, m = Nat.min 1 N := ⟨_, rfl⟩
  have HM : Hid (m = Nat.min 1 N) := hm
  have hm1 : m ≤ 1 := by rw [hm]; exact Nat.min_le_left _ _
  have hmN : m ≤ N := by rw [hm]; exact Nat.min_le_right _ _
  have hmz : 0 < N → 0 < m := fun h => by rw [hm]; exact Nat.lt_min.2 ⟨by omega, h⟩
  have HG3 : Hid (w2.heap[w.heap.size]? = some (.cells (repZ (.int .i64 x) (.int .i64 0) m N).toArray 3 (0, 0))) := by
    have := HG2.out
    rw [← hm, repZ_splice _ _ 0 m N (by omega), Nat.zero_add] at this
    exact this
  try simp only [List.length_replicate]
  rw [← hm]
  clear HG2 HR0 hb0 hs0 hmk hm
  go_wp2
  clear HM
  go_loopw [8] (fun nv wr => ∃ n : Nat, n ≤ N ∧ (0 < N → 0 < n) ∧ nv = .int .i64 n ∧ Hid (wr.heap[w.heap.size]? = some (.cells (repZ (.int .i64 x) (.int .i64 0) n N).toArray 3 (0, 0))) ∧ Below w.heap.size w wr) (fun nv _ => N - (intOf nv).toNat)
  case atStart => exact ⟨m, hmN, hmz, rfl, HG3, hB2⟩
  case round =>
    clear HG3 hB2 hmz hmN hm1
    obtain ⟨n, hn, hnz, rfl, HG, hbw⟩ := hrel
    by_cases hlt : n < N
    · have hn0 : 0 < n := hnz (by omega)
      obtain ⟨m, hm⟩ : ∃ m, m = Nat.min n (N - n) := ⟨_, rfl⟩
      have hm1 : m ≤ n := by rw [hm]; exact Nat.min_le_left _ _
      have hm2 : m ≤ N - n := by rw [hm]; exact Nat.min_le_right _ _
      have hm0 : 0 < m := by rw [hm]; exact Nat.lt_min.2 ⟨hn0, by omega⟩
      have HM : Hid (m = Nat.min n (N - n)) := hm
      clear hm
      have hDlt : w.heap.size < wr.heap.size := (Array.getElem?_eq_some_iff.1 HG.out).1
      have HCL : Hid (∀ j v, (List.replicate m (Value.int .i64 x))[j]? = some v → wr.drew.cell? ((⟨w.heap.size, 0, none⟩ : Addr).add j) = some v) := fun j v hj => by
        have hj1 := (List.getElem?_eq_some_iff.1 hj).1
        simp only [List.length_replicate] at hj1
        obtain rfl : v = .int .i64 x := List.eq_of_mem_replicate (List.mem_of_getElem? hj)
        have hadd : (⟨w.heap.size, 0, none⟩ : Addr).add j = ⟨w.heap.size, j, none⟩ := by unfold Addr.add; split <;> simp_all
        rw [hadd]
        show wr.cell? _ = _
        rw [cell_of_row wr w.heap.size j _ 3 (0, 0) HG.out]
        simpa using repZ_get (.int .i64 x) (.int .i64 0) n N j (by omega)
      have HGD : Hid (wr.drew.heap[w.heap.size]? = some (.cells (repZ (.int .i64 x) (.int .i64 0) n N).toArray 3 (0, 0))) := HG.out
      have hbd : Below w.heap.size w wr.drew := hbw.trans ⟨rfl, rfl, rfl, Nat.le_refl _, fun _ _ => rfl⟩
      clear HG
      have hNn : ¬ N = n := by omega
      have HW : Hid (IntKind.i64.wrap ((n : Int) + (m : Int)) = ((n + m : Nat) : Int)) := by
        show _ = _
        rw [IntKind.wrap_i64]; omega
      go_wp2
      go_region_law (refine step_copy_splice rfl (.tmp 41) (.tmp 44) 23 23 rfl 3 Tryd.underlying23 Tryd.infoIntSz (some ⟨w.heap.size, n, none⟩) (some ⟨w.heap.size, 0, none⟩) (N - n) (N - n) n N (by simp [Act.eval, Act.put]) (by simp [Act.eval, Act.put]) w.heap.size n (repZ (.int .i64 x) (.int .i64 0) n N) 3 HGD.out (List.replicate m (.int .i64 x)) (by rw [List.length_replicate]; exact HM.out) (fun _ => ⟨rfl, _, rfl, HCL.out⟩) (by rw [repZ_len _ _ _ _ hn, List.length_replicate]; omega) (by intro v hv; rw [List.eq_of_mem_replicate hv]; rfl) w.heap.size w hbd (Nat.le_refl _) ?_; intro w4 hg4 hb4)
      all_goals
        have HG4 : Hid (w4.heap[w.heap.size]? = some (.cells (repZ (.int .i64 x) (.int .i64 0) (n + m) N).toArray 3 (0, 0))) := by
          have := hg4.out
          rw [repZ_splice _ _ n m N (by omega)] at this
          exact this
        clear hg4 HGD HCL
        try simp only [List.length_replicate]
        go_simp
        go_wp2
        go_roundw
        case rel => exact ⟨n + m, by omega, fun _ => by omega, by rw [HW.out], HG4, hb4⟩
        case measure => rw [HW.out]; simp [intOf]; omega
    · obtain rfl : n = N := by omega
      have HE : Hid (Row wr w.heap.size (List.replicate n x)) := by
        show _ = _
        rw [HG.out]
        simp [repZ, intsA]
      clear HG
      go_wp2
      go_ret
      exact ⟨rfl, HE.out, hbw⟩

end Go.Proofs.YtmkimaceioacgaaDoor
