/- Texts of the proof, put together: GLs0, GRepB, GLsB. -/
import Derived.Test.YtmkimaceioacgaaDoorGk07
import Derived.Test.YtmkimaceioacgaaDoorGk08
import Derived.Test.YtmkimaceioacgaaDoorGk05
namespace Go.Proofs.YtmkimaceioacgaaDoor
open Go.RowKit
set_option linter.unusedVariables false
set_option maxRecDepth 100000

theorem grown_more {wo wr w' : World} {FB : Nat} {row : Option Nat} (h : wo.grownBy wr (some FB)) (h' : wr.grownBy w' row) (hrow : ∀ g, row = some g → wo.heap.size ≤ g ∨ g = FB) : wo.grownBy w' (some FB) :=
  ⟨h'.os.trans h.os, h'.tape.trans h.tape, h'.output.trans h.output, Nat.le_trans h.size h'.size, fun k hk hne => by
    refine (h'.block k (Nat.lt_of_lt_of_le hk h.size) ?_).trans (h.block k hk hne)
    intro e
    rcases hrow k e.symm with h1 | h1
    · omega
    · exact hne (by rw [h1])⟩
theorem grown_refl (w : World) (row : Option Nat) : w.grownBy w row := ⟨rfl, rfl, rfl, Nat.le_refl _, fun _ _ _ => rfl⟩
theorem below_grownN {wr w' : World} (hb : Below wr.heap.size wr w') : wr.grownBy w' none := ⟨hb.os, hb.tape, hb.output, hb.size, fun k hk _ => hb.block k hk⟩
theorem set_grown (w : World) (FB j : Nat) (x : Value) : w.grownBy (w.setCell ⟨FB, j, none⟩ x) (some FB) :=
  ⟨rfl, rfl, rfl, by simp, fun k hk hne => Below.heap_setCell _ _ _ _ (fun e => hne (by simpa using e))⟩
def anyV : Value → Nat
  | .slice _ 0 _ => 0
  | _ => 1
theorem anyV_pos (a : Option Addr) (n c : Nat) (h : n ≠ 0) : anyV (.slice a n c) = 1 := by
  cases n with
  | zero => exact absurd rfl h
  | succ k => rfl
theorem mem_drop_cons {qs : List Int} {j : Nat} (hj : j < qs.length) {x : Int} (h : x ∈ qs.drop j) : x = qs.getD j 0 ∨ x ∈ qs.drop (j + 1) := by
  rw [List.drop_eq_getElem_cons hj] at h
  rcases List.mem_cons.1 h with h | h
  · exact .inl (by rw [h]; simp [List.getD, hj])
  · exact .inr h
theorem Row.grown {w w' : World} {D : Nat} {L : List Int} {row : Option Nat} (h : Row w D L) (hg : w.grownBy w' row) (hne : row ≠ some D) : Row w' D L := (hg.block D h.lt (fun e => hne e.symm)).trans h
end Go.Proofs.YtmkimaceioacgaaDoor

namespace Go.Proofs.YtmkimaceioacgaaDoor
open Go.RowKit
set_option linter.unusedVariables false
set_option maxRecDepth 100000

theorem Tryd.infoBoolSz : (Tryd.prog.info? 4).map (·.size) = some 1 := by kernel_rfl

set_option maxHeartbeats 1000000 in
theorem repeatB_any (x : Bool) (b off c N : Nat) (hN : N ≤ 300) (w : World) (hb : b < w.heap.size) (hc : w.cell? ⟨b, off, none⟩ = some (.bool x)) :
    Calls Tryd.prog 66 #[.slice (some ⟨b, off, none⟩) 1 c, .int .i64 N] w fun e w' => e = .returned (.slice (some ⟨w.heap.size, 0, none⟩) N N) ∧ RowB w' w.heap.size (List.replicate N x) ∧ Below w.heap.size w w' := by
  have hmk := makeBoolsT N (by omega) w
  have hmul := Tryd.bits_Mul 1 N (by omega) (by omega) w
  rw [show (1 * N / 18446744073709551616 : Nat) = 0 by omega, show (1 * N % 18446744073709551616 : Nat) = N by omega] at hmul
  have HR0 : Hid ((w.alloc (.cells (boolsA (List.replicate N false)) 4)).heap[w.heap.size]? = some (.cells (repZ (.bool x) (.bool false) 0 N).toArray 4 (0, 0))) := by
    show (w.heap.push _)[w.heap.size]? = _
    rw [Array.getElem?_push_size]
    simp [repZ, boolsA]
  have hb0 := alloc_below w (.cells (boolsA (List.replicate N false)) 4)
  have hs0 := alloc_size w (.cells (boolsA (List.replicate N false)) 4)
  go_enter Tryd.func66, Tryd.ntmps66
  go_wp2_with fail
  refine hmul.mono ?_
  rintro e w1 ⟨rfl, hw1⟩
  rw [hw1]
  clear hmul hw1 w1
  go_wp2_with (refine wpList_copy_splice rfl _ _ 31 31 rfl 4 Tryd.underlying31 Tryd.infoBoolSz _ _ _ _ _ _ rfl rfl w.heap.size 0 (repZ (.bool x) (.bool false) 0 N) 4 HR0.out (List.replicate (Nat.min 1 N) (.bool x)) ?c0 ?c1 ?c2 ?c3 w.heap.size w hb0 (Nat.le_refl _) ?_)
  case c0 => simp
  case c1 =>
    intro h0
    intro j v hj
    have hj' := List.mem_of_getElem? hj
    have hlt := (List.getElem?_eq_some_iff.1 hj).1
    obtain rfl : v = .bool x := List.eq_of_mem_replicate hj'
    have hm : Nat.min 1 N ≤ 1 := Nat.min_le_left _ _
    simp only [List.length_replicate] at hlt
    obtain rfl : j = 0 := by omega
    exact hc
  case c2 =>
    rw [repZ_len _ _ _ _ (Nat.zero_le _), List.length_replicate, Nat.zero_add]
    exact Nat.min_le_right _ _
  case c3 => intro v hv; rw [List.eq_of_mem_replicate hv]; rfl
  intro w2 HG2 hB2
  obtain ⟨m, hm⟩ : ∃ m, m = Nat.min 1 N := ⟨_, rfl⟩
  have HM : Hid (m = Nat.min 1 N) := hm
  have hm1 : m ≤ 1 := by rw [hm]; exact Nat.min_le_left _ _
  have hmN : m ≤ N := by rw [hm]; exact Nat.min_le_right _ _
  have hmz : 0 < N → 0 < m := fun h => by rw [hm]; exact Nat.lt_min.2 ⟨by omega, h⟩
  have HG3 : Hid (w2.heap[w.heap.size]? = some (.cells (repZ (.bool x) (.bool false) m N).toArray 4 (0, 0))) := by
    have := HG2.out
    rw [← hm, repZ_splice _ _ 0 m N (by omega), Nat.zero_add] at this
    exact this
  try simp only [List.length_replicate]
  rw [← hm]
  clear HG2 HR0 hb0 hs0 hmk hm
  go_wp2
  clear HM
  go_loopw [8] (fun nv wr => ∃ n : Nat, n ≤ N ∧ (0 < N → 0 < n) ∧ nv = .int .i64 n ∧ Hid (wr.heap[w.heap.size]? = some (.cells (repZ (.bool x) (.bool false) n N).toArray 4 (0, 0))) ∧ Below w.heap.size w wr) (fun nv _ => N - (intOf nv).toNat)
  case atStart => exact ⟨m, hmN, hmz, rfl, HG3, hB2⟩
  case round =>
    clear HG3 hB2 hmz hmN hm1
    obtain ⟨n, hn, hnz, rfl, HG, hbw⟩ := hrel
    by_cases hlt : n < N
    · have hn0 : 0 < n := hnz (by omega)
      obtain ⟨m, hm⟩ : ∃ m, m = Nat.min n (N - n) := ⟨_, rfl⟩
      have hm1 : m ≤ n := by rw [hm]; exact Nat.min_le_left _ _
      have hm2 : m ≤ N - n := by rw [hm]; exact Nat.min_le_right _ _
      have hm0 : 0 < m := by rw [hm]; exact Nat.lt_min.2 ⟨hn0, by omega⟩
      have HM : Hid (m = Nat.min n (N - n)) := hm
      clear hm
      have hDlt : w.heap.size < wr.heap.size := (Array.getElem?_eq_some_iff.1 HG.out).1
      have HCL : Hid (∀ j v, (List.replicate m (Value.bool x))[j]? = some v → wr.drew.cell? ((⟨w.heap.size, 0, none⟩ : Addr).add j) = some v) := fun j v hj => by
        have hj1 := (List.getElem?_eq_some_iff.1 hj).1
        simp only [List.length_replicate] at hj1
        obtain rfl : v = .bool x := List.eq_of_mem_replicate (List.mem_of_getElem? hj)
        have hadd : (⟨w.heap.size, 0, none⟩ : Addr).add j = ⟨w.heap.size, j, none⟩ := by unfold Addr.add; split <;> simp_all
        rw [hadd]
        show wr.cell? _ = _
        rw [cell_of_row wr w.heap.size j _ 4 (0, 0) HG.out]
        simpa using repZ_get (.bool x) (.bool false) n N j (by omega)
      have HGD : Hid (wr.drew.heap[w.heap.size]? = some (.cells (repZ (.bool x) (.bool false) n N).toArray 4 (0, 0))) := HG.out
      have hbd : Below w.heap.size w wr.drew := hbw.trans ⟨rfl, rfl, rfl, Nat.le_refl _, fun _ _ => rfl⟩
      clear HG
      have hNn : ¬ N = n := by omega
      have HW : Hid (IntKind.i64.wrap ((n : Int) + (m : Int)) = ((n + m : Nat) : Int)) := by
        show _ = _
        rw [IntKind.wrap_i64]; omega
      go_wp2
      go_region_law (refine step_copy_splice rfl (.tmp 41) (.tmp 44) 31 31 rfl 4 Tryd.underlying31 Tryd.infoBoolSz (some ⟨w.heap.size, n, none⟩) (some ⟨w.heap.size, 0, none⟩) (N - n) (N - n) n N (by simp [Act.eval, Act.put]) (by simp [Act.eval, Act.put]) w.heap.size n (repZ (.bool x) (.bool false) n N) 4 HGD.out (List.replicate m (.bool x)) (by rw [List.length_replicate]; exact HM.out) (fun _ => ⟨rfl, _, rfl, HCL.out⟩) (by rw [repZ_len _ _ _ _ hn, List.length_replicate]; omega) (by intro v hv; rw [List.eq_of_mem_replicate hv]; rfl) w.heap.size w hbd (Nat.le_refl _) ?_; intro w4 hg4 hb4)
      all_goals
        have HG4 : Hid (w4.heap[w.heap.size]? = some (.cells (repZ (.bool x) (.bool false) (n + m) N).toArray 4 (0, 0))) := by
          have := hg4.out
          rw [repZ_splice _ _ n m N (by omega)] at this
          exact this
        clear hg4 HGD HCL
        try simp only [List.length_replicate]
        go_simp
        go_wp2
        go_roundw
        case rel => exact ⟨n + m, by omega, fun _ => by omega, by rw [HW.out], HG4, hb4⟩
        case measure => rw [HW.out]; simp [intOf]; omega
    · obtain rfl : n = N := by omega
      have HE : Hid (RowB wr w.heap.size (List.replicate n x)) := by
        show _ = _
        rw [HG.out]
        simp [repZ, boolsA]
      clear HG
      go_wp2
      go_ret
      exact ⟨rfl, HE.out, hbw⟩

end Go.Proofs.YtmkimaceioacgaaDoor

namespace Go.Proofs.YtmkimaceioacgaaDoor
open Go.RowKit
set_option linter.unusedVariables false
set_option maxRecDepth 100000

theorem RowB.grown {w w' : World} {D : Nat} {L : List Bool} {row : Option Nat} (h : RowB w D L) (hg : w.grownBy w' row) (hne : row ≠ some D) : RowB w' D L := (hg.block D h.lt (fun e => hne e.symm)).trans h
abbrev SayB := (Nat → Bool) → Nat → Bool
/-- facts follow from facts: from more, more; from those of the names on which a name rests; and what follows is so -/
structure SayOk (N : Nat) (say : SayB) (R : Nat → Nat → Prop) (P : Nat → Prop) : Prop where
  mono : ∀ f g : Nat → Bool, (∀ n, f n = true → g n = true) → ∀ n, say f n = true → say g n = true
  dep : ∀ (f g : Nat → Bool) (n : Nat), n < N → (∀ k, R n k → f k = g k) → say f n = say g n
  sound : ∀ f : Nat → Bool, (∀ n, f n = true → P n) → ∀ n, n < N → say f n = true → P n
/-- what holds while names wait -/
structure WkB (say : SayB) (P : Nat → Prop) (N : Nat) (L : List Bool) (opn : Nat → Prop) : Prop where
  len : L.length = N
  sound : ∀ n, factB L n = true → P n
  mono : ∀ n, n < N → factB L n = true → say (factB L) n = true
  closed : ∀ n, n < N → ¬ opn n → factB L n = say (factB L) n
theorem WkB.weaken {say : SayB} {P : Nat → Prop} {N : Nat} {L : List Bool} {o o' : Nat → Prop} (h : WkB say P N L o) (hw : ∀ n, n < N → o n → o' n) : WkB say P N L o' :=
  ⟨h.len, h.sound, h.mono, fun n hn ho => h.closed n hn fun h' => ho (hw n hn h')⟩
theorem factB_none (N n : Nat) : factB (List.replicate N false) n = false := by
  unfold factB
  by_cases hn : n < N
  · simp [List.getD, hn]
  · simp [List.getD, List.getElem?_eq_none (show (List.replicate N false).length ≤ n by simp; omega)]
theorem WkB.start (say : SayB) (P : Nat → Prop) (N : Nat) (o : Nat → Prop) (ho : ∀ n, n < N → o n) : WkB say P N (List.replicate N false) o :=
  ⟨by simp, fun n h => (by rw [factB_none] at h; cases h), fun n _ h => (by rw [factB_none] at h; cases h), fun n hn hno => absurd (ho n hn) hno⟩
/-- a name that says nothing new -/
theorem WkB.same {say : SayB} {P : Nat → Prop} {N : Nat} {L : List Bool} {o o' : Nat → Prop} (h : WkB say P N L o) {n : Nat} (he : factB L n = say (factB L) n) (hw : ∀ m, m < N → o m → m ≠ n → o' m) : WkB say P N L o' :=
  ⟨h.len, h.sound, h.mono, fun m hm ho => by
    by_cases e : m = n
    · rw [e]; exact he
    · exact h.closed m hm fun h' => ho (hw m hm h' e)⟩
/-- a name that says something new -/
theorem WkB.set {say : SayB} {P : Nat → Prop} {R : Nat → Nat → Prop} {N : Nat} {L : List Bool} {o o' : Nat → Prop} (h : WkB say P N L o) (hk : SayOk N say R P) {n : Nat} (hn : n < N) (hs : say (factB L) n = true) (hw : ∀ m, m < N → o m → m ≠ n → o' m) (hd : ∀ m, m < N → R m n → o' m) : WkB say P N (L.set n true) o' := by
  have hf := factB_set h.len hn true
  have hle : ∀ m, factB L m = true → factB (L.set n true) m = true := fun m hm => by
    rw [hf]; split
    · rfl
    · exact hm
  refine ⟨by rw [List.length_set]; exact h.len, fun m hm => ?_, fun m hm hfm => ?_, fun m hm ho => ?_⟩
  · rw [hf] at hm
    by_cases e : m = n
    · rw [e]; exact hk.sound _ h.sound n hn hs
    · rw [if_neg e] at hm; exact h.sound m hm
  · rw [hf] at hfm
    refine hk.mono _ _ hle m ?_
    by_cases e : m = n
    · rw [e]; exact hs
    · rw [if_neg e] at hfm; exact h.mono m hm hfm
  · have hsame : say (factB (L.set n true)) m = say (factB L) m := by
      refine hk.dep _ _ m hm fun k hr => ?_
      rw [hf, if_neg]
      intro e
      exact ho (hd m hm (e ▸ hr))
    rw [hsame, hf]
    by_cases e : m = n
    · rw [if_pos e, e]; exact hs.symm
    · rw [if_neg e]
      exact h.closed m hm fun h' => ho (hw m hm h' e)
/-- how much may still be found -/
def rkB (L : List Bool) : Nat := (L.map fun b => if b then 0 else 1).sum
theorem rkB_set : ∀ (L : List Bool) (n : Nat), n < L.length → factB L n = false → rkB (L.set n true) < rkB L
  | [], n, hn, _ => by simp at hn
  | x :: L, 0, _, h => by
    obtain rfl : x = false := by simpa [factB] using h
    show 0 + rkB L < 1 + rkB L
    omega
  | x :: L, n + 1, hn, h => by
    have := rkB_set L n (by simpa using hn) (by simpa [factB] using h)
    show (if x then 0 else 1) + rkB (L.set n true) < (if x then 0 else 1) + rkB L
    omega
/-- what tells a name's fact -/
def SaysG (w : World) (F : Nat) (c1 c2 : Value) (N : Nat) (say : SayB) : Prop := ∀ (w' : World) (L : List Bool) (B n : Nat), n < N → L.length = N → RowB w' B L → Below w.heap.size w w' → Calls Tryd.prog F #[.slice (some ⟨B, 0, none⟩) N N, .int .i64 n, c1, c2] w' fun e w'' => e = .returned (.bool (say (factB L) n)) ∧ Below w'.heap.size w' w''
def boolOf : Value → Bool
  | .bool b => b
  | _ => false
def rdB (w : World) (D : Nat) : List Bool :=
  match w.heap[D]? with
  | some (.cells cs _ _) => cs.toList.map boolOf
  | _ => []
theorem RowB.rd {w : World} {D : Nat} {L : List Bool} (h : RowB w D L) : rdB w D = L := by
  unfold RowB at h
  unfold rdB
  rw [h]
  simp only [boolsA, List.map_map]
  have : (boolOf ∘ fun z => Value.bool z) = id := by funext z; rfl
  rw [this, List.map_id]
/-- between rounds -/
structure BsI (w wr : World) (FB TB N : Nat) (cn : Nat → Nat) (say : SayB) (P : Nat → Prop) (R : Nat → Nat → Prop) (K : Nat) (av : Value) (L : List Bool) (qs : List Int) : Prop where
  row : RowB wr FB L
  wk : WkB say P N L fun n => (n : Int) ∈ qs
  ask : AskM wr FB av qs
  nms : ∀ x ∈ qs, 0 ≤ x ∧ x < N
  lnk : LinksM wr TB N (fun n => TB + 1 + n) cn (fun n k => k < N ∧ R k n)
/-- within a round -/
structure BrI (wo wr : World) (FB N : Nat) (say : SayB) (P : Nat → Prop) (R : Nat → Nat → Prop) (K : Nat) (qs : List Int) (L0 : List Bool) (j : Nat) (gv : Value) (L : List Bool) (zs : List Int) : Prop where
  row : RowB wr FB L
  wk : WkB say P N L fun n => (n : Int) ∈ qs.drop j ∨ (n : Int) ∈ zs
  own : OwnI wr wo.heap.size gv zs
  mem : ∀ x ∈ zs, 0 ≤ x ∧ x < N
  len : zs.length ≤ j * K
  dec : zs = [] ∨ rkB L < rkB L0
  le : rkB L ≤ rkB L0
  gr : wo.grownBy wr (some FB)
/-- while the names that rest on one are gone through -/
structure BmI (wo wr : World) (FB N : Nat) (say : SayB) (P : Nat → Prop) (R : Nat → Nat → Prop) (K : Nat) (qs : List Int) (j : Nat) (gv : Value) (L : List Bool) (zs : List Int) (left : Lit → Bool) (rr m : Nat) : Prop where
  row : RowB wr FB L
  wk : WkB say P N L fun n => (n : Int) ∈ qs.drop (j + 1) ∨ (n : Int) ∈ zs ∨ left (.int .i64 (n : Int)) = true
  own : OwnI wr wo.heap.size gv zs
  ne : gv.ownBlock ≠ some rr
  mem : ∀ x ∈ zs, 0 ≤ x ∧ x < N
  len : zs.length ≤ j * K + m
  gr : wo.grownBy wr (some FB)
theorem BsI.start {w wr : World} {FB TB N : Nat} {cn : Nat → Nat} {say : SayB} {P : Nat → Prop} {R : Nat → Nat → Prop} {K : Nat} {av : Value} {L : List Bool} {qs : List Int} (h : BsI w wr FB TB N cn say P R K av L qs) : BrI wr wr FB N say P R K qs L 0 (.slice none 0 0) L [] :=
  ⟨h.row, h.wk.weaken fun n _ hn => .inl (by simpa using hn), ⟨rfl, .inl ⟨rfl, rfl⟩⟩, fun x hx => by simp at hx, by simp, .inl rfl, Nat.le_refl _, grown_refl _ _⟩
/-- a name that says nothing new -/
theorem BrI.same {wo wr w5 : World} {FB N : Nat} {say : SayB} {P : Nat → Prop} {R : Nat → Nat → Prop} {K : Nat} {qs : List Int} {L0 : List Bool} {j : Nat} {gv : Value} {L : List Bool} {zs : List Int} (h : BrI wo wr FB N say P R K qs L0 j gv L zs) (hFB : FB < wo.heap.size) (hj : j < qs.length) {n : Nat} (hn : n < N) (hx : qs.getD j 0 = (n : Int)) (hb : Below wr.heap.size wr w5) (he : say (factB L) n = factB L n) : BrI wo w5 FB N say P R K qs L0 (j + 1) gv L zs := by
  have hg := below_grownN hb
  refine ⟨h.row.grown hg (by simp), ?_, h.own.kept hg (by cases hq : gv.ownBlock <;> simp), h.mem, Nat.le_trans h.len (Nat.mul_le_mul_right _ (Nat.le_succ _)), h.dec, h.le, grown_more h.gr hg (fun g e => by simp at e)⟩
  refine h.wk.same (n := n) he.symm ?_
  intro m hm ho hne
  rcases ho with ho | ho
  · rcases mem_drop_cons hj ho with e | e
    · rw [hx] at e; exact absurd (by omega) hne
    · exact .inl e
  · exact .inr ho
theorem BrI.news {wo wr : World} {FB N : Nat} {say : SayB} {P : Nat → Prop} {R : Nat → Nat → Prop} {K : Nat} {qs : List Int} {L0 : List Bool} {j : Nat} {gv : Value} {L : List Bool} {zs : List Int} (h : BrI wo wr FB N say P R K qs L0 j gv L zs) {n : Nat} (hn : n < N) (hne : say (factB L) n ≠ factB L n) : say (factB L) n = true ∧ factB L n = false := by
  have := h.wk.mono n hn
  cases e1 : say (factB L) n <;> cases e2 : factB L n <;> simp_all
/-- a name that says something new -/
theorem BrI.set {wo wr w5 w7 : World} {FB N : Nat} {say : SayB} {P : Nat → Prop} {R : Nat → Nat → Prop} {K : Nat} {qs : List Int} {L0 : List Bool} {j : Nat} {gv : Value} {L : List Bool} {zs : List Int} (h : BrI wo wr FB N say P R K qs L0 j gv L zs) (hk : SayOk N say R P) (hFB : FB < wo.heap.size) (hj : j < qs.length) {n : Nat} (hn : n < N) (hx : qs.getD j 0 = (n : Int)) (hb : Below wr.heap.size wr w5) (hne : say (factB L) n ≠ factB L n)
    (left : Lit → Bool) (hleft : ∀ k : Nat, k < N → R k n → left (.int .i64 (k : Int)) = true) (hg7 : (w5.setCell ⟨FB, n, none⟩ (.bool (say (factB L) n))).grownBy w7 none) (rr : Nat) (hrr : wr.heap.size ≤ rr) :
    BmI wo w7 FB N say P R K qs j gv (L.set n (say (factB L) n)) zs left rr 0 ∧ rkB (L.set n (say (factB L) n)) < rkB L0 := by
  obtain ⟨hs, hf⟩ := h.news hn hne
  rw [hs] at hg7 ⊢
  have hg := below_grownN hb
  have hrow5 : RowB w5 FB L := h.row.grown hg (by simp)
  have hs6 := set_grown w5 FB n (.bool true)
  have hol : ∀ b, gv.ownBlock = some b → wo.heap.size ≤ b ∧ b < wr.heap.size := fun b hb => h.own.lt b hb
  have hown5 : OwnI w5 wo.heap.size gv zs := h.own.kept hg (by cases hq : gv.ownBlock <;> simp)
  have hown6 : OwnI (w5.setCell ⟨FB, n, none⟩ (.bool true)) wo.heap.size gv zs := hown5.kept hs6 (.inr fun e => by have := hol FB e; omega)
  refine ⟨⟨(hrow5.set n _).grown hg7 (by simp), ?_, hown6.kept hg7 (by cases hq : gv.ownBlock <;> simp), fun e => by have := hol _ e; omega, h.mem, Nat.le_trans h.len (Nat.le_add_right _ _), ?_⟩, ?_⟩
  · refine h.wk.set hk hn hs ?_ ?_
    · intro m hm ho hne
      rcases ho with ho | ho
      · rcases mem_drop_cons hj ho with e | e
        · rw [hx] at e; exact absurd (by omega) hne
        · exact .inl e
      · exact .inr (.inl ho)
    · intro m hm hd
      exact .inr (.inr (hleft m hm hd))
  · exact grown_more (grown_more (grown_more h.gr hg (fun g e => by simp at e)) hs6 (fun g e => .inr (by simpa using e.symm))) hg7 (fun g e => by simp at e)
  · have := rkB_set L n (by rw [h.wk.len]; exact hn) hf
    have := h.le
    omega
/-- one of the names that rest on it -/
theorem BmI.step {wo wr w3 w9 : World} {FB N : Nat} {say : SayB} {P : Nat → Prop} {R : Nat → Nat → Prop} {K : Nat} {qs : List Int} {j : Nat} {gv : Value} {L : List Bool} {zs : List Int} {left : Lit → Bool} {rr m q g cap : Nat} {o : Obj} (h : BmI wo wr FB N say P R K qs j gv L zs left rr m) (hFB : FB < wo.heap.size) (hrr : wo.heap.size ≤ rr) (hrl : rr < wr.heap.size) (hq : q < N) (hg3 : wr.grownBy w3 (some rr))
    (hown : w9.ownsRow wo.heap.size 3 1 (.slice (some ⟨g, 0, none⟩) (zs.length + 1) cap) (zs.length + 1) (zs.map (Value.int .i64) ++ [.int .i64 (q : Int)])) (hg9 : (w3.alloc o).grownBy w9 gv.ownBlock) (hat : gv.ownBlock = some g ∨ g = w3.heap.size + 1) :
    BmI wo w9 FB N say P R K qs j (.slice (some ⟨g, 0, none⟩) (zs.length + 1) cap) L (zs ++ [(q : Int)]) (fun z => left z && !z.sameKey (.int .i64 (q : Int))) rr (m + 1) := by
  have hol : ∀ b, gv.ownBlock = some b → wo.heap.size ≤ b ∧ b < wr.heap.size := fun b hb => h.own.lt b hb
  have hgA : w3.grownBy (w3.alloc o) none := World.grownBy_alloc w3 o none
  have hs3 := hg3.size
  have g3 : wo.grownBy w3 (some FB) := grown_more h.gr hg3 (fun g e => .inl (by have h1 : rr = g := (by simpa using e); omega))
  have gA : wo.grownBy (w3.alloc o) (some FB) := grown_more g3 hgA (fun g e => by simp at e)
  have g9 : wo.grownBy w9 (some FB) := grown_more gA hg9 (fun g e => .inl (hol g e).1)
  refine ⟨?_, ?_, ?_, ?_, ?_, ?_, g9⟩
  · have r3 : RowB w3 FB L := h.row.grown hg3 (fun e => by
      have : rr = FB := by simpa using e
      omega)
    have rA : RowB (w3.alloc o) FB L := r3.grown hgA (by simp)
    exact rA.grown hg9 (fun e => by have := hol FB e; omega)
  · refine h.wk.weaken fun n hn ho => ?_
    rcases ho with ho | ho | ho
    · exact .inl ho
    · exact .inr (.inl (by simp [ho]))
    · by_cases e : n = q
      · subst e; exact .inr (.inl (by simp))
      · refine .inr (.inr ?_)
        have : ¬ (n : Int) = (q : Int) := by omega
        simp [ho, Lit.sameKey, this]
  · show w9.ownsRow _ _ _ _ _ _
    simpa using hown
  · intro e
    have e' : g = rr := by simpa [Value.ownBlock] using e
    rcases hat with h1 | h1
    · exact h.ne (by rw [h1, e'])
    · omega
  · intro x hx
    rcases List.mem_append.1 hx with hx | hx
    · exact h.mem x hx
    · obtain rfl : x = (q : Int) := by simpa using hx
      omega
  · rw [List.length_append]; exact Nat.succ_le_succ h.len
theorem BmI.more {wo wr : World} {FB N : Nat} {say : SayB} {P : Nat → Prop} {R : Nat → Nat → Prop} {K : Nat} {qs : List Int} {j : Nat} {gv : Value} {L : List Bool} {zs : List Int} {left : Lit → Bool} {rr m m' : Nat} (h : BmI wo wr FB N say P R K qs j gv L zs left rr m) (hm : m ≤ m') : BmI wo wr FB N say P R K qs j gv L zs left rr m' := ⟨h.row, h.wk, h.own, h.ne, h.mem, Nat.le_trans h.len (Nat.add_le_add_left hm _), h.gr⟩
/-- they are all gone through -/
theorem BmI.done {wo wr : World} {FB N : Nat} {say : SayB} {P : Nat → Prop} {R : Nat → Nat → Prop} {K : Nat} {qs : List Int} {L0 : List Bool} {j : Nat} {gv : Value} {L : List Bool} {zs : List Int} {left : Lit → Bool} {rr m : Nat} (h : BmI wo wr FB N say P R K qs j gv L zs left rr m) (hl : ∀ k, left k = false) (hm : m ≤ K) (hrk : rkB L < rkB L0) : BrI wo wr FB N say P R K qs L0 (j + 1) gv L zs := by
  refine ⟨h.row, h.wk.weaken fun n hn ho => ?_, h.own, h.mem, Nat.le_trans h.len (by rw [Nat.succ_mul]; exact Nat.add_le_add_left hm _), .inr hrk, Nat.le_of_lt hrk, h.gr⟩
  rcases ho with ho | ho | ho
  · exact .inl ho
  · exact .inr ho
  · rw [hl] at ho; cases ho
/-- the next round -/
theorem BrI.next {w wo wr w8 w9 : World} {FB TB N : Nat} {cn : Nat → Nat} {say : SayB} {P : Nat → Prop} {R : Nat → Nat → Prop} {K : Nat} {av gv v' : Value} {qs zs : List Int} {L0 L : List Bool} (h : BrI wo wr FB N say P R K qs L0 qs.length gv L zs) (h0 : BsI w wo FB TB N cn say P R K av L0 qs) (hFT : FB < TB) (hg8 : wr.grownBy w8 gv.ownBlock) (hg9 : w8.grownBy w9 gv.ownBlock)
    (hask : AskM w9 FB v' (Lib.compact (zs.mergeSort fun x y => decide (x ≤ y)))) :
    BsI w w9 FB TB N cn say P R K v' L (Lib.compact (zs.mergeSort fun x y => decide (x ≤ y))) ∧ (Lib.compact (zs.mergeSort fun x y => decide (x ≤ y))).length ≤ N ∧ wo.grownBy w9 (some FB) ∧ 2 * rkB L + anyV v' < 2 * rkB L0 + 1 := by
  have hol : ∀ b, gv.ownBlock = some b → wo.heap.size ≤ b ∧ b < wr.heap.size := fun b hb => h.own.lt b hb
  have hFl := h0.row.lt
  have hmem : ∀ x, x ∈ Lib.compact (zs.mergeSort fun x y => decide (x ≤ y)) ↔ x ∈ zs := fun x => (mem_compact _ x).trans (mem_sortI zs x)
  have hne : gv.ownBlock ≠ some FB := fun e => by have := hol FB e; omega
  have hg : wo.grownBy w9 (some FB) := grown_more (grown_more h.gr hg8 (fun g e => .inl (hol g e).1)) hg9 (fun g e => .inl (hol g e).1)
  have hnm : ∀ x ∈ Lib.compact (zs.mergeSort fun x y => decide (x ≤ y)), 0 ≤ x ∧ x < N := fun x hx => h.mem x ((hmem x).1 hx)
  refine ⟨⟨(h.row.grown hg8 hne).grown hg9 hne, ?_, hask, hnm, h0.lnk.grown hg (by omega) (fun n hn => by show TB + 1 + n ≠ FB; omega)⟩, ?_, hg, ?_⟩
  · refine h.wk.weaken fun n hn ho => ?_
    rcases ho with ho | ho
    · simp at ho
    · exact (hmem _).2 ho
  · have := strict_len _ 0 N (strict_compact _ (sorted_sortI zs)) hnm (by omega)
    omega
  · have hle := h.le
    rcases h.dec with e | e
    · obtain ⟨a, c, hv⟩ := hask.slice
      have : Lib.compact (zs.mergeSort fun x y => decide (x ≤ y)) = [] := by
        apply List.eq_nil_iff_forall_not_mem.2
        intro x hx
        have := (hmem x).1 hx
        rw [e] at this; simp at this
      rw [this] at hv
      rw [hv]
      show 2 * rkB L + 0 < _
      omega
    · have : anyV v' ≤ 1 := by unfold anyV; split <;> omega
      omega

end Go.Proofs.YtmkimaceioacgaaDoor
