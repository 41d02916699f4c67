/- The law GrammarShort. -/
import Derived.Test.YtbgnhegfabpjnaaGRfW
import Derived.Test.YtbgnhegfabpjnaaGShY
import Derived.Test.YtbgnhegfabpjnaaGShR
namespace Go.Proofs.Ytbgnhegfabpjnaa
open Go.RowKit
set_option linter.unusedVariables false
set_option maxRecDepth 100000

theorem optI_inj {a b : Int} (ha : -1 ≤ a) (hb : -1 ≤ b) (h : optI a = optI b) : a = b := by
  unfold optI at h
  by_cases h1 : a < 0
  · by_cases h2 : b < 0
    · omega
    · rw [if_pos h1, if_neg h2] at h; simp at h
  · by_cases h2 : b < 0
    · rw [if_neg h1, if_pos h2] at h; simp at h
    · rw [if_neg h1, if_neg h2] at h
      injection h with h
      omega
theorem lens_same {N : Nat} {L L' : List Int} (h1 : L.length = N) (h2 : L'.length = N) (l1 : ∀ n, -1 ≤ L.getD n (-1)) (l2 : ∀ n, -1 ≤ L'.getD n (-1)) (h : ∀ n, factO L n = factO L' n) : L = L' := by
  apply List.ext_getElem (by rw [h1, h2])
  intro i hi hj
  have := optI_inj (l1 i) (l2 i) (h i)
  simpa [List.getD, hi, hj] using this
theorem sf_told (a : SF) : txF a = (toldF a).getD [] ∧ decide (knF a = 2) = (toldF a).isSome := by
  cases a with
  | non => exact ⟨rfl, rfl⟩
  | long => exact ⟨rfl, rfl⟩
  | told l => exact ⟨rfl, rfl⟩

set_option maxHeartbeats 2000000 in
theorem law_big (g : Gm) (n : Int) (pv lv sv : Value) (w : World) (h : GrM w g pv lv sv) (hs : smallG g = false) :
    Calls Try.prog 3 #[gv g pv lv sv, .int .i64 n] w fun e w' => e = .returned (.bool true) ∧ Below w.heap.size w w' := by
  have hB0 := boxG_below w g pv lv sv
  have hB2 := boxG_box w g pv lv sv
  have hC := small_any g pv lv sv (boxG w g pv lv sv) (h.below hB0)
  rw [hs] at hC
  obtain ⟨q0, q1, q2, q3, q4, q5, q6⟩ := hB2
  unfold boxG gv gvs at hC
  unfold boxG gvs at hB0 q0 q1 q2 q3 q4 q5 q6
  unfold gv gvs
  go_enter Try.func3, Try.ntmps3
  go_wp2_with fail
  refine hC.mono ?_
  rintro e w2 ⟨rfl, hb2⟩
  have hb := hB0.trans (hb2.mono hB0.size)
  clear hC q0 q1 q2 q3 q4 q5 q6
  go_wp2
  go_ret
  exact ⟨rfl, hb⟩

set_option maxHeartbeats 8000000 in
theorem law_no (g : Gm) (n : Int) (pv lv sv : Value) (w : World) (h : GrM w g pv lv sv) (hwf : WfG g) (hs : smallG g = true) (hno : gOkB g = false) :
    Calls Try.prog 3 #[gv g pv lv sv, .int .i64 n] w fun e w' => e = .returned (.bool true) ∧ Below w.heap.size w w' := by
  have hB0 := boxG_below w g pv lv sv
  have hB1 := boxG_size w g pv lv sv
  have hB2 := boxG_box w g pv lv sv
  have HBX : Hid (BoxG (boxG w g pv lv sv) w.heap.size g pv lv sv) := hB2
  have hC1 := small_any g pv lv sv (boxG w g pv lv sv) (h.below hB0)
  rw [hs] at hC1
  have HC2 : Hid (∀ w', Below w.heap.size w w' → Calls Try.prog 5 #[gv g pv lv sv] w' fun e w'' => e = .returned (.bool false) ∧ Below w'.heap.size w' w'') := fun w' hb => by
    have := gok_any g pv lv sv w' (h.below hb)
    rw [hno] at this
    exact this
  have HC3 : Hid (∀ w', Below w.heap.size w w' → Calls Try.prog 6 #[gv g pv lv sv] w' fun e w'' => e = .returned (.slice none 0 0) ∧ Below w'.heap.size w' w'') := fun w' hb => pshort_no g pv lv sv w' (h.below hb) hwf hno
  have HC4 : Hid (∀ w', Below w.heap.size w w' → Calls Try.prog 7 #[gv g pv lv sv, .int .i64 n] w' fun e w'' => e = .returned (.tuple #[.slice none 0 0, .bool false]) ∧ Below w'.heap.size w' w'') := fun w' hb => pshortest_no g n pv lv sv w' (h.below hb) hwf hno
  obtain ⟨q0, q1, q2, q3, q4, q5, q6⟩ := hB2
  unfold boxG gv gvs at hC1
  unfold gv gvs at HC2 HC3 HC4 ⊢
  unfold boxG gvs at hB0 hB1 q0 q1 q2 q3 q4 q5 q6 HBX
  go_enter Try.func3, Try.ntmps3
  go_wp2_with fail
  refine hC1.mono ?_
  rintro e w2 ⟨rfl, hb2⟩
  generalize w.alloc (.cells #[.int .i64 g.terms, .int .i64 g.names, .int .i64 g.start, pv, lv, sv] 25) = w0 at *
  rw [hB1] at hb2
  clear hC1 q0 q1 q2 q3 q4 q5 q6
  obtain ⟨q0, q1, q2, q3, q4, q5, q6⟩ := HBX.out.below (Nat.lt_succ_self _) hb2
  have hbw2 := hB0.trans (hb2.mono (Nat.le_succ _))
  have hC2 := HC2.out w2 hbw2
  have HB1 : Hid (w0.heap.size = w.heap.size + 1) := hB1
  clear hB1
  go_wp2_with fail
  refine hC2.mono ?_
  rintro e w3 ⟨rfl, hb3⟩
  clear hC2 q1 q2 q3 q4 q5 q6
  have hb03 : Below (w.heap.size + 1) w0 w3 := hb2.trans (hb3.mono (by omega))
  clear q0
  obtain ⟨q0, q1, q2, q3, q4, q5, q6⟩ := HBX.out.below (Nat.lt_succ_self _) hb03
  have hC3 := HC3.out w3 (hB0.trans (hb03.mono (Nat.le_succ _)))
  go_wp2_with fail
  refine hC3.mono ?_
  rintro e w4 ⟨rfl, hb4⟩
  clear hC3 q1 q2 q3 q4 q5 q6
  have hb04 : Below (w.heap.size + 1) w0 w4 := hb03.trans (hb4.mono (by omega))
  clear q0
  obtain ⟨q0, q1, q2, q3, q4, q5, q6⟩ := HBX.out.below (Nat.lt_succ_self _) hb04
  have hC4 := HC4.out w4 (hB0.trans (hb04.mono (Nat.le_succ _)))
  go_wp2_with fail
  refine hC4.mono ?_
  rintro e w5 ⟨rfl, hb5⟩
  have hb05 : Below (w.heap.size + 1) w0 w5 := hb04.trans (hb5.mono (by omega))
  have hb5' := hB0.trans (hb05.mono (Nat.le_succ _))
  clear hC4 q0 q1 q2 q3 q4 q5 q6
  go_wp2
  go_ret
  exact ⟨rfl, hb5'⟩

/-- what the document's Shortest answers -/
def RefC (ps : List PdR) (N : Nat) (n : Int) (v : Value) (found : Bool) (w : World) : Prop := ((n < 0 ∨ (N : Int) ≤ n) ∧ v = .slice none 0 0 ∧ found = false) ∨ ∃ (k : Nat) (F : List (Option (List Int))), n = (k : Int) ∧ k < N ∧ found = (factU F k).isSome ∧ IntsR w v ((factU F k).getD []) ∧ RfI ps N F ∧ ∀ p ∈ ps, ClU F p
/-- what the program's Shortest answers -/
def PrgC (ps : List PdR) (N : Nat) (n : Int) (v : Value) (found : Bool) (w : World) : Prop := ((n < 0 ∨ (N : Int) ≤ n) ∧ v = .slice none 0 0 ∧ found = false) ∨ ∃ (k : Nat) (L : List SF), n = (k : Int) ∧ k < N ∧ found = decide (knF (factF L k) = 2) ∧ IntsR w v (txF (factF L k)) ∧ WkT ps N L fun _ => False
theorem both_same {ps : List PdR} {N : Nat} (hps : ∀ p ∈ ps, 0 ≤ p.left) (hN : ∀ p ∈ ps, p.left < N) {n : Int} {v v' : Value} {f f' : Bool} {w w' : World} (h : PrgC ps N n v f w) (h' : RefC ps N n v' f' w') : f = f' ∧ ∃ l : List Int, l.length ≤ 1000000 ∧ IntsR w v l ∧ IntsR w' v' l := by
  have hnil : ∀ W : World, IntsR W (.slice none 0 0) [] := fun W => ⟨none, 0, rfl, .inl rfl⟩
  rcases h with ⟨h1, rfl, rfl⟩ | ⟨k, L, rfl, hk, rfl, hI, hW⟩
  · rcases h' with ⟨_, rfl, rfl⟩ | ⟨k', F, hk', hkN, _⟩
    · exact ⟨rfl, [], by simp, hnil _, hnil _⟩
    · omega
  · rcases h' with ⟨h2, _, _⟩ | ⟨k', F, hk', _, rfl, hI', hR, hC⟩
    · omega
    · obtain rfl : k = k' := by omega
      have e := sents_unique (hW.final hps hN) hW.sound (closed_of hC) hR.sound k
      obtain ⟨e1, e2⟩ := sf_told (factF L k)
      rw [e1, e] at hI
      refine ⟨by rw [e2, e], _, ?_, hI, hI'⟩
      cases e3 : factU F k with
      | none => simp
      | some l => exact Nat.le_trans (hR.ok k l e3).1 (by omega)

set_option maxHeartbeats 8000000 in
theorem law_yes (t s : Int) (N : Nat) (ps : List PdR) (ls ss : List Int) (n : Int) (hn64 : I64 n) (pv lv sv : Value) (w : World) (hG : GOkM N ps) (hN1 : 1 ≤ N) (h3 : ∀ p ∈ ps, ∀ x ∈ p.right, x ≤ 300) (h : GrM w ⟨t, N, s, ps, ls, ss⟩ pv lv sv) (hwf : WfG ⟨t, N, s, ps, ls, ss⟩) (hs : smallG ⟨t, N, s, ps, ls, ss⟩ = true) (hyes : gOkB ⟨t, N, s, ps, ls, ss⟩ = true) :
    Calls Try.prog 3 #[gv ⟨t, N, s, ps, ls, ss⟩ pv lv sv, .int .i64 n] w fun e w' => e = .returned (.bool true) ∧ Below w.heap.size w w' := by
  have hps0 : ∀ p ∈ ps, 0 ≤ p.left := fun p hp => (hG.mem hp).1.1
  have hpsN : ∀ p ∈ ps, p.left < N := fun p hp => (hG.mem hp).1.2.1
  have hprN : ∀ q ∈ prsS ps, q.left < N := fun q hq => by
    obtain ⟨p, hp, rfl⟩ := List.mem_map.1 hq
    have h1 := hps0 p hp
    have h2 := hpsN p hp
    show p.left.toNat < N
    omega
  have HBS : Hid (∀ {v v' : Value} {f f' : Bool} {w w' : World}, PrgC ps N n v f w → RefC ps N n v' f' w' → f = f' ∧ ∃ l : List Int, l.length ≤ 1000000 ∧ IntsR w v l ∧ IntsR w' v' l) := fun h h' => both_same hps0 hpsN h h'
  have hB0 := boxG_below w ⟨t, N, s, ps, ls, ss⟩ pv lv sv
  have hB1 := boxG_size w ⟨t, N, s, ps, ls, ss⟩ pv lv sv
  have hB2 := boxG_box w ⟨t, N, s, ps, ls, ss⟩ pv lv sv
  have HBX : Hid (BoxG (boxG w ⟨t, N, s, ps, ls, ss⟩ pv lv sv) w.heap.size ⟨t, N, s, ps, ls, ss⟩ pv lv sv) := hB2
  have hC1 := small_any ⟨t, N, s, ps, ls, ss⟩ pv lv sv (boxG w ⟨t, N, s, ps, ls, ss⟩ pv lv sv) (h.below hB0)
  rw [hs] at hC1
  have HC2 : Hid (∀ w', Below w.heap.size w w' → Calls Try.prog 5 #[gv ⟨t, N, s, ps, ls, ss⟩ pv lv sv] w' fun e w'' => e = .returned (.bool true) ∧ Below w'.heap.size w' w'') := fun w' hb => by
    have := gok_any ⟨t, N, s, ps, ls, ss⟩ pv lv sv w' (h.below hb)
    rw [hyes] at this
    exact this
  have HC3 : Hid (∀ w', Below w.heap.size w w' → Calls Try.prog 6 #[gv ⟨t, N, s, ps, ls, ss⟩ pv lv sv] w' fun e w'' => ∃ B L, e = .returned (.slice (some ⟨B, 0, none⟩) N N) ∧ Row w'' B L ∧ WkI (prsS ps) N L (fun _ => False) ∧ Below w'.heap.size w' w'') := fun w' hb => pshort_yes t s N ps ls ss pv lv sv w' hG (h.below hb) hwf hyes
  have HC4 : Hid (∀ w', Below w.heap.size w w' → Calls Try.prog 7 #[gv ⟨t, N, s, ps, ls, ss⟩ pv lv sv, .int .i64 n] w' fun e w'' => ∃ (va : Option Addr) (vn vc : Nat) (f : Bool), e = .returned (.tuple #[.slice va vn vc, .bool f]) ∧ PrgC ps N n (.slice va vn vc) f w'' ∧ Below w'.heap.size w' w'') := fun w' hb => by
    by_cases hh : n < 0 ∨ (N : Int) ≤ n
    · refine (pshortest_out ⟨t, N, s, ps, ls, ss⟩ n pv lv sv w' (h.below hb) hwf hyes hh).mono ?_
      rintro e w'' ⟨rfl, hb'⟩
      exact ⟨none, 0, 0, false, rfl, .inl ⟨hh, rfl, rfl⟩, hb'⟩
    · obtain ⟨k, rfl⟩ : ∃ k : Nat, n = (k : Int) := ⟨n.toNat, by omega⟩
      refine (pshortest_yes t s N k ps ls ss pv lv sv w' hG hN1 h3 (h.below hb) hwf hyes (by omega)).mono ?_
      rintro e w'' ⟨v, L, rfl, hI, hW, hb'⟩
      obtain ⟨va, vc, rfl⟩ := hI.slice
      exact ⟨va, _, vc, _, rfl, .inr ⟨k, L, rfl, by omega, rfl, hI, hW⟩, hb'⟩
  have HC5 : Hid (∀ w', Below w.heap.size w w' → Calls Try.prog 8 #[gv ⟨t, N, s, ps, ls, ss⟩ pv lv sv, .int .i64 n] w' fun e w'' => ∃ (va : Option Addr) (vn vc : Nat) (f : Bool), e = .returned (.tuple #[.slice va vn vc, .bool f]) ∧ RefC ps N n (.slice va vn vc) f w'' ∧ Below w'.heap.size w' w'') := fun w' hb => by
    by_cases hh : n < 0 ∨ (N : Int) ≤ n
    · refine (rshortest_out ⟨t, N, s, ps, ls, ss⟩ n pv lv sv w' hh).mono ?_
      rintro e w'' ⟨rfl, hb'⟩
      exact ⟨none, 0, 0, false, rfl, .inl ⟨hh, rfl, rfl⟩, hb'⟩
    · obtain ⟨k, rfl⟩ : ∃ k : Nat, n = (k : Int) := ⟨n.toNat, by omega⟩
      refine (rshortest_any t s N k ps ls ss pv lv sv w' hG h3 (by omega) (h.prods.below hb)).mono ?_
      rintro e w'' ⟨v, F, rfl, hI, hR, hC, hb'⟩
      obtain ⟨va, vc, rfl⟩ := hI.slice
      exact ⟨va, _, vc, _, rfl, .inr ⟨k, F, rfl, by omega, rfl, hI, hR, hC⟩, hb'⟩
  have HC6 : Hid (∀ w' B L, Below w.heap.size w w' → Row w' B L → WkI (prsS ps) N L (fun _ => False) → Calls Try.prog 10 #[gv ⟨t, N, s, ps, ls, ss⟩ pv lv sv] w' fun e w'' => ∃ (va : Option Addr) (vc : Nat), e = .returned (.slice va N vc) ∧ IntsR w'' (.slice va N vc) L ∧ Below w'.heap.size w' w'') := fun w' B L hb hrow hwk => by
    refine (rshort_any t s N ps ls ss pv lv sv w' hG.n hG.len (fun m hm => (hG.pd m hm).1) (h.prods.below hb)).mono ?_
    rintro e w'' ⟨v, L', rfl, hI, hl, hlo, hf, hb'⟩
    obtain rfl : L = L' := lens_same hwk.lens.len hl hwk.lens.lo hlo (fun m => (hwk.final hprN m).trans (hf m).symm)
    obtain ⟨va, vc, rfl⟩ := hI.slice
    rw [hl] at hI ⊢
    exact ⟨va, vc, rfl, hI, hb'⟩
  have hN300 := hG.n
  clear h hG hN1 h3 hwf hs hyes hps0 hpsN hprN
  obtain ⟨q0, q1, q2, q3, q4, q5, q6⟩ := hB2
  unfold boxG gv gvs at hC1
  unfold gv gvs at HC2 HC3 HC4 HC5 HC6 ⊢
  unfold boxG gvs at hB0 hB1 q0 q1 q2 q3 q4 q5 q6 HBX
  simp only at *
  go_enter Try.func3, Try.ntmps3
  go_wp2_with fail
  refine hC1.mono ?_
  rintro e w2 ⟨rfl, hb2⟩
  generalize w.alloc (.cells #[.int .i64 t, .int .i64 N, .int .i64 s, pv, lv, sv] 25) = w0 at *
  rw [hB1] at hb2
  clear hC1 q0 q1 q2 q3 q4 q5 q6
  obtain ⟨q0, q1, q2, q3, q4, q5, q6⟩ := HBX.out.below (Nat.lt_succ_self _) hb2
  simp only at q0 q1 q2 q3 q4 q5 q6
  have hC2 := HC2.out w2 (hB0.trans (hb2.mono (Nat.le_succ _)))
  have HB1 : Hid (w0.heap.size = w.heap.size + 1) := hB1
  clear hB1
  go_wp2_with fail
  refine hC2.mono ?_
  rintro e w3 ⟨rfl, hb3⟩
  have hb03 : Below (w.heap.size + 1) w0 w3 := hb2.trans (hb3.mono (by omega))
  clear hC2 q0 q1 q2 q3 q4 q5 q6
  obtain ⟨q0, q1, q2, q3, q4, q5, q6⟩ := HBX.out.below (Nat.lt_succ_self _) hb03
  simp only at q0 q1 q2 q3 q4 q5 q6
  have hC3 := HC3.out w3 (hB0.trans (hb03.mono (Nat.le_succ _)))
  go_wp2_with fail
  refine hC3.mono ?_
  rintro e w4 ⟨B, L, rfl, hrow, hwk, hb4⟩
  have hb04 : Below (w.heap.size + 1) w0 w4 := hb03.trans (hb4.mono (by omega))
  clear hC3 q0 q1 q2 q3 q4 q5 q6
  obtain ⟨q0, q1, q2, q3, q4, q5, q6⟩ := HBX.out.below (Nat.lt_succ_self _) hb04
  simp only at q0 q1 q2 q3 q4 q5 q6
  have hC4 := HC4.out w4 (hB0.trans (hb04.mono (Nat.le_succ _)))
  have HRow : Hid (Row w4 B L) := hrow
  have HWk : Hid (WkI (prsS ps) N L fun _ => False) := hwk
  clear hrow hwk
  go_wp2_with fail
  refine hC4.mono ?_
  rintro e w5 ⟨va, vn, vc, f, rfl, hPC, hb5⟩
  have hb05 : Below (w.heap.size + 1) w0 w5 := hb04.trans (hb5.mono (by omega))
  have HPC : Hid (PrgC ps N n (.slice va vn vc) f w5) := hPC
  clear hC4 q0 q1 q2 q3 q4 q5 q6 hPC
  obtain ⟨q0, q1, q2, q3, q4, q5, q6⟩ := HBX.out.below (Nat.lt_succ_self _) hb05
  simp only at q0 q1 q2 q3 q4 q5 q6
  have hC5 := HC5.out w5 (hB0.trans (hb05.mono (Nat.le_succ _)))
  go_wp2_with fail
  refine hC5.mono ?_
  rintro e w6 ⟨ra, rn, rc, f', rfl, hRC, hb6⟩
  have hb06 : Below (w.heap.size + 1) w0 w6 := hb05.trans (hb6.mono (by omega))
  obtain ⟨hff, l, hll, hl1, hl2⟩ := HBS.out HPC.out hRC
  have HL1 : Hid (IntsR w5 (.slice va vn vc) l) := hl1
  have HL2 : Hid (IntsR w6 (.slice ra rn rc) l) := hl2
  subst hff
  clear hC5 q0 q1 q2 q3 q4 q5 q6 hRC hl1 hl2 HPC
  obtain ⟨q0, q1, q2, q3, q4, q5, q6⟩ := HBX.out.below (Nat.lt_succ_self _) hb06
  simp only at q0 q1 q2 q3 q4 q5 q6
  have hrow6 : Row w6 B L := (HRow.out.grown (below_grownN hb5) (by simp)).grown (below_grownN hb6) (by simp)
  have hC6 := HC6.out w6 B L (hB0.trans (hb06.mono (Nat.le_succ _))) hrow6 HWk.out
  have hLlen : L.length = N := HWk.out.lens.len
  have HR6 : Hid (IntsR w6 (.slice (some ⟨B, 0, none⟩) N N) L) := by
    have := hrow6.ints
    rw [hLlen] at this
    exact this
  have hLl : L.length ≤ 1000000 := by rw [hLlen]; omega
  have HLl : Hid (L.length ≤ 1000000) := hLl
  clear hrow6 HRow hLlen hLl
  go_wp2_with fail
  refine hC6.mono ?_
  rintro e w7 ⟨xa, xc, rfl, hI7, hb7⟩
  have hb07 : Below (w.heap.size + 1) w0 w7 := hb06.trans (hb7.mono (by omega))
  clear hC6 q0 q1 q2 q3 q4 q5 q6
  have hS1 := same_any (.slice (some ⟨B, 0, none⟩) N N) (.slice xa N xc) L L w7 HLl.out (HR6.out.below hb7) hI7
  rw [decide_eq_true rfl] at hS1
  clear hI7
  go_wp2_with fail
  refine hS1.mono ?_
  rintro e w8 ⟨rfl, hb8⟩
  have hb08 : Below (w.heap.size + 1) w0 w8 := hb07.trans (hb8.mono (by have := hb07.size; have := HB1.out; omega))
  clear hS1
  have hS2 := same_any (.slice va vn vc) (.slice ra rn rc) l l w8 hll (((HL1.out.below hb6).below hb7).below hb8) ((HL2.out.below hb7).below hb8)
  rw [decide_eq_true rfl] at hS2
  go_wp2_with fail
  refine hS2.mono ?_
  rintro e w9 ⟨rfl, hb9⟩
  have hb09 : Below (w.heap.size + 1) w0 w9 := hb08.trans (hb9.mono (by have := hb08.size; have := HB1.out; omega))
  have hbf := hB0.trans (hb09.mono (Nat.le_succ _))
  clear hS2
  cases f
  all_goals
    go_wp2
    go_ret
    exact ⟨rfl, hbf⟩

end Go.Proofs.Ytbgnhegfabpjnaa
