/- Texts of the proof, put together: WPutK. -/
import Derived.Test.YtbjohedenfindaaGreatDoorPw43
namespace Go.Proofs.YtbjohedenfindaaGreatDoor
open Go.RowKit
open Go.Maps (Keyed)
set_option linter.unusedVariables false
set_option linter.unusedSimpArgs false
set_option maxRecDepth 100000

theorem PW.drew {W0 w : World} {b M : Nat} {X : List Nat} (h : PW W0 b M X w) : PW W0 b M X w.drew := h.below (below_drew1 (Below.refl _ _))
/-- the cells of a node, in whatever world behind -/
def NodeC (W0 : World) (q : Nat) (k : Int) (sv : Value) (mn mx : Int) (kv : Value) : Prop := q < W0.heap.size ∧ W0.cell? ⟨q, 0, none⟩ = some (.int .i64 k) ∧ W0.cell? ⟨q, 1, none⟩ = some sv ∧ W0.cell? ⟨q, 2, none⟩ = some (.int .i64 mn) ∧ W0.cell? ⟨q, 3, none⟩ = some (.int .i64 mx) ∧ W0.cell? ⟨q, 4, none⟩ = some kv
theorem NodeC.at_ {W0 w : World} {q b M : Nat} {k mn mx : Int} {sv kv : Value} {X : List Nat} (h : NodeC W0 q k sv mn mx kv) (hP : PW W0 b M X w) : w.cell? ⟨q, 0, none⟩ = some (.int .i64 k) ∧ w.cell? ⟨q, 1, none⟩ = some sv ∧ w.cell? ⟨q, 2, none⟩ = some (.int .i64 mn) ∧ w.cell? ⟨q, 3, none⟩ = some (.int .i64 mx) ∧ w.cell? ⟨q, 4, none⟩ = some kv := by
  obtain ⟨h0, h1, h2, h3, h4, h5⟩ := h
  exact ⟨(hP.cell (p := ⟨q, 0, none⟩) h0).trans h1, (hP.cell (p := ⟨q, 1, none⟩) h0).trans h2, (hP.cell (p := ⟨q, 2, none⟩) h0).trans h3, (hP.cell (p := ⟨q, 3, none⟩) h0).trans h4, (hP.cell (p := ⟨q, 4, none⟩) h0).trans h5⟩

/-- what a call leaves that writes these bytes -/
def WrC (W0 : World) (b M : Nat) (fn : Nat) (args : Array Value) (e : Ending) (T : List Nat) : Prop := ∀ X w, PW W0 b M X w → X.length + T.length ≤ 65536 → Calls Tryz.prog fn args w fun e' w' => e' = e ∧ PW W0 b M (X ++ T) w'

set_option maxHeartbeats 4000000 in
theorem put_setN {W0 w : World} {q b M place : Nat} {mn mx : Int} {sv kv : Value} {X T : List Nat} (hP : PW W0 b M X w) (hN : NodeC W0 q 1 sv mn mx kv) (hpl : place ≤ 4) (hw : place ≤ 4) (hX : X.length + ((T)).length ≤ 65536) (HB : Hid (∀ X w, PW W0 b M X w → Calls Tryz.prog 57 #[.pointer (some ⟨b, 0, none⟩), sv] w fun e w' => e = .returned (.string (bytesB T)) ∧ PW W0 b M X w')) :
    Calls Tryz.prog 29 #[.pointer (some ⟨b, 0, none⟩), .pointer (some ⟨q, 0, none⟩), .int .i64 (place : Int)] w fun e w' => e = .returned (.tuple #[]) ∧ PW W0 b M (X ++ (T)) w' := by
  have HN : Hid (NodeC W0 q 1 sv mn mx kv) := hN
  have HL : Hid (Calls Tryz.prog 30 #[.pointer (some ⟨b, 0, none⟩)] w fun e w' => e = .returned (.int .i64 X.length) ∧ w' = w) := hP.len
  have HPl : Hid (∀ w', Calls Tryz.prog 54 #[.int .i64 1] w' fun e w'' => e = .returned (.int .i64 4) ∧ w'' = w') := place_any 1
  try simp only [List.length_append, List.length_cons, List.length_singleton, List.length_nil] at hX
  have hX1 : X.length ≤ 65536 := by omega
  have H0 : Hid (PW W0 b M X w) := hP
  obtain ⟨c0, c1, c2, c3, c4⟩ := hN.at_ hP
  have hqb : Hid True := trivial
  clear hN hP
  go_enter Tryz.func29, Tryz.ntmps29
  go_wp2_with fail
  go_at_call 30
  refine HL.out.mono ?_
  rintro e w' ⟨rfl, rfl⟩
  clear HL
  go_wp2_with fail
  go_at_call 54
  refine (HPl.out _).mono ?_
  rintro e w' ⟨rfl, rfl⟩
  have HSt : Hid (∀ w', PW W0 b M X w' → Calls Tryz.prog 56 #[.pointer (some ⟨b, 0, none⟩), .string (bytesB T)] w' fun e w'' => (∃ n : Int, e = .returned (.tuple #[.int .i64 n, .nilIface])) ∧ PW W0 b M (X ++ T) w'') := fun w' h => h.str T (by omega)
  have HCl : Hid (∀ w' Y, PW W0 b M Y w' → w'.cell? ⟨q, 1, none⟩ = some sv) := fun w' Y h => (HN.out.at_ h).2.1
  go_wp2_with fail
  go_region_held3 (fun w' => w'.cell? ⟨q, 1, none⟩ = some sv) (go_keep) ((first | (go_at_call 57; refine (HB.out X _ ?_).mono ?_; exact H0.out.drew; rintro e w1 ⟨rfl, hP1⟩; have f1 := HCl.out w1 _ hP1) | (go_at_call 56; refine (HSt.out w1 hP1).mono ?_; rintro e w2 ⟨⟨n, rfl⟩, hP2⟩; have f2 := HCl.out w2 _ hP2)))
  all_goals
    have HF : Hid (PW W0 b M (X ++ T) w2) := hP2
    clear hP1 hP2 H0
    go_wp2
    go_end0
    exact ⟨rfl, HF.out⟩

set_option maxHeartbeats 4000000 in
theorem put_rowN {W0 w : World} {q b M place : Nat} {mn mx : Int} {sv kv : Value} {X T : List Nat} (hP : PW W0 b M X w) (hN : NodeC W0 q 2 sv mn mx kv) (hpl : place ≤ 4) (hw : place ≤ 2) (hX : X.length + ((T)).length ≤ 65536) (HB : Hid (WrC W0 b M 58 #[.pointer (some ⟨b, 0, none⟩), kv] (.returned (.tuple #[])) T)) :
    Calls Tryz.prog 29 #[.pointer (some ⟨b, 0, none⟩), .pointer (some ⟨q, 0, none⟩), .int .i64 (place : Int)] w fun e w' => e = .returned (.tuple #[]) ∧ PW W0 b M (X ++ (T)) w' := by
  have HN : Hid (NodeC W0 q 2 sv mn mx kv) := hN
  have HL : Hid (Calls Tryz.prog 30 #[.pointer (some ⟨b, 0, none⟩)] w fun e w' => e = .returned (.int .i64 X.length) ∧ w' = w) := hP.len
  have HPl : Hid (∀ w', Calls Tryz.prog 54 #[.int .i64 2] w' fun e w'' => e = .returned (.int .i64 2) ∧ w'' = w') := place_any 2
  try simp only [List.length_append, List.length_cons, List.length_singleton, List.length_nil] at hX
  have hX1 : X.length ≤ 65536 := by omega
  have H0 : Hid (PW W0 b M X w) := hP
  obtain ⟨c0, c1, c2, c3, c4⟩ := hN.at_ hP
  have hqb : Hid True := trivial
  clear hN hP
  go_enter Tryz.func29, Tryz.ntmps29
  go_wp2_with fail
  go_at_call 30
  refine HL.out.mono ?_
  rintro e w' ⟨rfl, rfl⟩
  clear HL
  go_wp2_with fail
  go_at_call 54
  refine (HPl.out _).mono ?_
  rintro e w' ⟨rfl, rfl⟩
  go_wp2_with fail
  go_at_call 58
  refine (HB.out _ _ H0.out (by (try simp only [List.length_append, List.length_cons, List.length_singleton, List.length_nil]); omega)).mono ?_
  rintro e w1 ⟨rfl, hP1⟩
  have H1 : Hid (PW W0 b M (X ++ T) w1) := hP1
  clear c0 c1 c2 c3 c4
  obtain ⟨c0, c1, c2, c3, c4⟩ := HN.out.at_ hP1
  clear hP1
  have HF : Hid (PW W0 b M (X ++ (T)) w1) := by
    show PW _ _ _ _ _
    have := H1.out
    simpa only [List.append_assoc, List.cons_append, List.nil_append] using this
  clear H0 H1
  go_wp2
  go_end0
  exact ⟨rfl, HF.out⟩

set_option maxHeartbeats 4000000 in
theorem put_rowW {W0 w : World} {q b M place : Nat} {mn mx : Int} {sv kv : Value} {X T : List Nat} (hP : PW W0 b M X w) (hN : NodeC W0 q 2 sv mn mx kv) (hpl : place ≤ 4) (hw : 2 < place) (hX : X.length + (40 :: ((T) ++ [41])).length ≤ 65536) (HB : Hid (WrC W0 b M 58 #[.pointer (some ⟨b, 0, none⟩), kv] (.returned (.tuple #[])) T)) :
    Calls Tryz.prog 29 #[.pointer (some ⟨b, 0, none⟩), .pointer (some ⟨q, 0, none⟩), .int .i64 (place : Int)] w fun e w' => e = .returned (.tuple #[]) ∧ PW W0 b M (X ++ 40 :: ((T) ++ [41])) w' := by
  have HN : Hid (NodeC W0 q 2 sv mn mx kv) := hN
  have HL : Hid (Calls Tryz.prog 30 #[.pointer (some ⟨b, 0, none⟩)] w fun e w' => e = .returned (.int .i64 X.length) ∧ w' = w) := hP.len
  have HPl : Hid (∀ w', Calls Tryz.prog 54 #[.int .i64 2] w' fun e w'' => e = .returned (.int .i64 2) ∧ w'' = w') := place_any 2
  try simp only [List.length_append, List.length_cons, List.length_singleton, List.length_nil] at hX
  have hX1 : X.length ≤ 65536 := by omega
  have H0 : Hid (PW W0 b M X w) := hP
  obtain ⟨c0, c1, c2, c3, c4⟩ := hN.at_ hP
  have hqb : Hid True := trivial
  clear hN hP
  go_enter Tryz.func29, Tryz.ntmps29
  go_wp2_with fail
  go_at_call 30
  refine HL.out.mono ?_
  rintro e w' ⟨rfl, rfl⟩
  clear HL
  go_wp2_with fail
  go_at_call 54
  refine (HPl.out _).mono ?_
  rintro e w' ⟨rfl, rfl⟩
  go_wp2_with fail
  go_at_call 55
  refine (H0.out.byte 40 (by omega) (by omega)).mono ?_
  rintro e w1 ⟨rfl, hP1⟩
  have H1 : Hid (PW W0 b M (X ++ [40]) w1) := hP1
  clear c0 c1 c2 c3 c4
  obtain ⟨c0, c1, c2, c3, c4⟩ := HN.out.at_ hP1
  clear hP1
  go_wp2_with fail
  go_at_call 58
  refine (HB.out _ _ H1.out (by (try simp only [List.length_append, List.length_cons, List.length_singleton, List.length_nil]); omega)).mono ?_
  rintro e w2 ⟨rfl, hP2⟩
  have H2 : Hid (PW W0 b M ((X ++ [40]) ++ T) w2) := hP2
  clear c0 c1 c2 c3 c4
  obtain ⟨c0, c1, c2, c3, c4⟩ := HN.out.at_ hP2
  clear hP2
  go_wp2_with fail
  go_at_call 55
  refine (H2.out.byte 41 (by omega) (by (try simp only [List.length_append, List.length_cons, List.length_singleton, List.length_nil]); omega)).mono ?_
  rintro e w3 ⟨rfl, hP3⟩
  have H3 : Hid (PW W0 b M (((X ++ [40]) ++ T) ++ [41]) w3) := hP3
  clear c0 c1 c2 c3 c4
  obtain ⟨c0, c1, c2, c3, c4⟩ := HN.out.at_ hP3
  clear hP3
  have HF : Hid (PW W0 b M (X ++ 40 :: ((T) ++ [41])) w3) := by
    show PW _ _ _ _ _
    have := H3.out
    simpa only [List.append_assoc, List.cons_append, List.nil_append] using this
  clear H0 H1 H2 H3
  go_wp2
  go_end0
  exact ⟨rfl, HF.out⟩

set_option maxHeartbeats 4000000 in
theorem put_orN {W0 w : World} {q b M place : Nat} {mn mx : Int} {sv kv : Value} {X T : List Nat} (hP : PW W0 b M X w) (hN : NodeC W0 q 3 sv mn mx kv) (hpl : place ≤ 4) (hw : place ≤ 0) (hX : X.length + ((T)).length ≤ 65536) (HB : Hid (WrC W0 b M 59 #[.pointer (some ⟨b, 0, none⟩), kv, .int .u8 124, .int .i64 1] (.returned (.tuple #[])) T)) :
    Calls Tryz.prog 29 #[.pointer (some ⟨b, 0, none⟩), .pointer (some ⟨q, 0, none⟩), .int .i64 (place : Int)] w fun e w' => e = .returned (.tuple #[]) ∧ PW W0 b M (X ++ (T)) w' := by
  have HN : Hid (NodeC W0 q 3 sv mn mx kv) := hN
  have HL : Hid (Calls Tryz.prog 30 #[.pointer (some ⟨b, 0, none⟩)] w fun e w' => e = .returned (.int .i64 X.length) ∧ w' = w) := hP.len
  have HPl : Hid (∀ w', Calls Tryz.prog 54 #[.int .i64 3] w' fun e w'' => e = .returned (.int .i64 0) ∧ w'' = w') := place_any 3
  try simp only [List.length_append, List.length_cons, List.length_singleton, List.length_nil] at hX
  have hX1 : X.length ≤ 65536 := by omega
  have H0 : Hid (PW W0 b M X w) := hP
  obtain ⟨c0, c1, c2, c3, c4⟩ := hN.at_ hP
  have hqb : Hid True := trivial
  clear hN hP
  go_enter Tryz.func29, Tryz.ntmps29
  go_wp2_with fail
  go_at_call 30
  refine HL.out.mono ?_
  rintro e w' ⟨rfl, rfl⟩
  clear HL
  go_wp2_with fail
  go_at_call 54
  refine (HPl.out _).mono ?_
  rintro e w' ⟨rfl, rfl⟩
  go_wp2_with fail
  go_at_call 59
  refine (HB.out _ _ H0.out (by (try simp only [List.length_append, List.length_cons, List.length_singleton, List.length_nil]); omega)).mono ?_
  rintro e w1 ⟨rfl, hP1⟩
  have H1 : Hid (PW W0 b M (X ++ T) w1) := hP1
  clear c0 c1 c2 c3 c4
  obtain ⟨c0, c1, c2, c3, c4⟩ := HN.out.at_ hP1
  clear hP1
  have HF : Hid (PW W0 b M (X ++ (T)) w1) := by
    show PW _ _ _ _ _
    have := H1.out
    simpa only [List.append_assoc, List.cons_append, List.nil_append] using this
  clear H0 H1
  go_wp2
  go_end0
  exact ⟨rfl, HF.out⟩

set_option maxHeartbeats 4000000 in
theorem put_orW {W0 w : World} {q b M place : Nat} {mn mx : Int} {sv kv : Value} {X T : List Nat} (hP : PW W0 b M X w) (hN : NodeC W0 q 3 sv mn mx kv) (hpl : place ≤ 4) (hw : 0 < place) (hX : X.length + (40 :: ((T) ++ [41])).length ≤ 65536) (HB : Hid (WrC W0 b M 59 #[.pointer (some ⟨b, 0, none⟩), kv, .int .u8 124, .int .i64 1] (.returned (.tuple #[])) T)) :
    Calls Tryz.prog 29 #[.pointer (some ⟨b, 0, none⟩), .pointer (some ⟨q, 0, none⟩), .int .i64 (place : Int)] w fun e w' => e = .returned (.tuple #[]) ∧ PW W0 b M (X ++ 40 :: ((T) ++ [41])) w' := by
  have HN : Hid (NodeC W0 q 3 sv mn mx kv) := hN
  have HL : Hid (Calls Tryz.prog 30 #[.pointer (some ⟨b, 0, none⟩)] w fun e w' => e = .returned (.int .i64 X.length) ∧ w' = w) := hP.len
  have HPl : Hid (∀ w', Calls Tryz.prog 54 #[.int .i64 3] w' fun e w'' => e = .returned (.int .i64 0) ∧ w'' = w') := place_any 3
  try simp only [List.length_append, List.length_cons, List.length_singleton, List.length_nil] at hX
  have hX1 : X.length ≤ 65536 := by omega
  have H0 : Hid (PW W0 b M X w) := hP
  obtain ⟨c0, c1, c2, c3, c4⟩ := hN.at_ hP
  have hqb : Hid True := trivial
  clear hN hP
  go_enter Tryz.func29, Tryz.ntmps29
  go_wp2_with fail
  go_at_call 30
  refine HL.out.mono ?_
  rintro e w' ⟨rfl, rfl⟩
  clear HL
  go_wp2_with fail
  go_at_call 54
  refine (HPl.out _).mono ?_
  rintro e w' ⟨rfl, rfl⟩
  go_wp2_with fail
  go_at_call 55
  refine (H0.out.byte 40 (by omega) (by omega)).mono ?_
  rintro e w1 ⟨rfl, hP1⟩
  have H1 : Hid (PW W0 b M (X ++ [40]) w1) := hP1
  clear c0 c1 c2 c3 c4
  obtain ⟨c0, c1, c2, c3, c4⟩ := HN.out.at_ hP1
  clear hP1
  go_wp2_with fail
  go_at_call 59
  refine (HB.out _ _ H1.out (by (try simp only [List.length_append, List.length_cons, List.length_singleton, List.length_nil]); omega)).mono ?_
  rintro e w2 ⟨rfl, hP2⟩
  have H2 : Hid (PW W0 b M ((X ++ [40]) ++ T) w2) := hP2
  clear c0 c1 c2 c3 c4
  obtain ⟨c0, c1, c2, c3, c4⟩ := HN.out.at_ hP2
  clear hP2
  go_wp2_with fail
  go_at_call 55
  refine (H2.out.byte 41 (by omega) (by (try simp only [List.length_append, List.length_cons, List.length_singleton, List.length_nil]); omega)).mono ?_
  rintro e w3 ⟨rfl, hP3⟩
  have H3 : Hid (PW W0 b M (((X ++ [40]) ++ T) ++ [41]) w3) := hP3
  clear c0 c1 c2 c3 c4
  obtain ⟨c0, c1, c2, c3, c4⟩ := HN.out.at_ hP3
  clear hP3
  have HF : Hid (PW W0 b M (X ++ 40 :: ((T) ++ [41])) w3) := by
    show PW _ _ _ _ _
    have := H3.out
    simpa only [List.append_assoc, List.cons_append, List.nil_append] using this
  clear H0 H1 H2 H3
  go_wp2
  go_end0
  exact ⟨rfl, HF.out⟩

set_option maxHeartbeats 4000000 in
theorem put_andN {W0 w : World} {q b M place : Nat} {mn mx : Int} {sv kv : Value} {X T : List Nat} (hP : PW W0 b M X w) (hN : NodeC W0 q 4 sv mn mx kv) (hpl : place ≤ 4) (hw : place ≤ 1) (hX : X.length + ((T)).length ≤ 65536) (HB : Hid (WrC W0 b M 59 #[.pointer (some ⟨b, 0, none⟩), kv, .int .u8 38, .int .i64 2] (.returned (.tuple #[])) T)) :
    Calls Tryz.prog 29 #[.pointer (some ⟨b, 0, none⟩), .pointer (some ⟨q, 0, none⟩), .int .i64 (place : Int)] w fun e w' => e = .returned (.tuple #[]) ∧ PW W0 b M (X ++ (T)) w' := by
  have HN : Hid (NodeC W0 q 4 sv mn mx kv) := hN
  have HL : Hid (Calls Tryz.prog 30 #[.pointer (some ⟨b, 0, none⟩)] w fun e w' => e = .returned (.int .i64 X.length) ∧ w' = w) := hP.len
  have HPl : Hid (∀ w', Calls Tryz.prog 54 #[.int .i64 4] w' fun e w'' => e = .returned (.int .i64 1) ∧ w'' = w') := place_any 4
  try simp only [List.length_append, List.length_cons, List.length_singleton, List.length_nil] at hX
  have hX1 : X.length ≤ 65536 := by omega
  have H0 : Hid (PW W0 b M X w) := hP
  obtain ⟨c0, c1, c2, c3, c4⟩ := hN.at_ hP
  have hqb : Hid True := trivial
  clear hN hP
  go_enter Tryz.func29, Tryz.ntmps29
  go_wp2_with fail
  go_at_call 30
  refine HL.out.mono ?_
  rintro e w' ⟨rfl, rfl⟩
  clear HL
  go_wp2_with fail
  go_at_call 54
  refine (HPl.out _).mono ?_
  rintro e w' ⟨rfl, rfl⟩
  go_wp2_with fail
  go_at_call 59
  refine (HB.out _ _ H0.out (by (try simp only [List.length_append, List.length_cons, List.length_singleton, List.length_nil]); omega)).mono ?_
  rintro e w1 ⟨rfl, hP1⟩
  have H1 : Hid (PW W0 b M (X ++ T) w1) := hP1
  clear c0 c1 c2 c3 c4
  obtain ⟨c0, c1, c2, c3, c4⟩ := HN.out.at_ hP1
  clear hP1
  have HF : Hid (PW W0 b M (X ++ (T)) w1) := by
    show PW _ _ _ _ _
    have := H1.out
    simpa only [List.append_assoc, List.cons_append, List.nil_append] using this
  clear H0 H1
  go_wp2
  go_end0
  exact ⟨rfl, HF.out⟩

set_option maxHeartbeats 4000000 in
theorem put_andW {W0 w : World} {q b M place : Nat} {mn mx : Int} {sv kv : Value} {X T : List Nat} (hP : PW W0 b M X w) (hN : NodeC W0 q 4 sv mn mx kv) (hpl : place ≤ 4) (hw : 1 < place) (hX : X.length + (40 :: ((T) ++ [41])).length ≤ 65536) (HB : Hid (WrC W0 b M 59 #[.pointer (some ⟨b, 0, none⟩), kv, .int .u8 38, .int .i64 2] (.returned (.tuple #[])) T)) :
    Calls Tryz.prog 29 #[.pointer (some ⟨b, 0, none⟩), .pointer (some ⟨q, 0, none⟩), .int .i64 (place : Int)] w fun e w' => e = .returned (.tuple #[]) ∧ PW W0 b M (X ++ 40 :: ((T) ++ [41])) w' := by
  have HN : Hid (NodeC W0 q 4 sv mn mx kv) := hN
  have HL : Hid (Calls Tryz.prog 30 #[.pointer (some ⟨b, 0, none⟩)] w fun e w' => e = .returned (.int .i64 X.length) ∧ w' = w) := hP.len
  have HPl : Hid (∀ w', Calls Tryz.prog 54 #[.int .i64 4] w' fun e w'' => e = .returned (.int .i64 1) ∧ w'' = w') := place_any 4
  try simp only [List.length_append, List.length_cons, List.length_singleton, List.length_nil] at hX
  have hX1 : X.length ≤ 65536 := by omega
  have H0 : Hid (PW W0 b M X w) := hP
  obtain ⟨c0, c1, c2, c3, c4⟩ := hN.at_ hP
  have hqb : Hid True := trivial
  clear hN hP
  go_enter Tryz.func29, Tryz.ntmps29
  go_wp2_with fail
  go_at_call 30
  refine HL.out.mono ?_
  rintro e w' ⟨rfl, rfl⟩
  clear HL
  go_wp2_with fail
  go_at_call 54
  refine (HPl.out _).mono ?_
  rintro e w' ⟨rfl, rfl⟩
  go_wp2_with fail
  go_at_call 55
  refine (H0.out.byte 40 (by omega) (by omega)).mono ?_
  rintro e w1 ⟨rfl, hP1⟩
  have H1 : Hid (PW W0 b M (X ++ [40]) w1) := hP1
  clear c0 c1 c2 c3 c4
  obtain ⟨c0, c1, c2, c3, c4⟩ := HN.out.at_ hP1
  clear hP1
  go_wp2_with fail
  go_at_call 59
  refine (HB.out _ _ H1.out (by (try simp only [List.length_append, List.length_cons, List.length_singleton, List.length_nil]); omega)).mono ?_
  rintro e w2 ⟨rfl, hP2⟩
  have H2 : Hid (PW W0 b M ((X ++ [40]) ++ T) w2) := hP2
  clear c0 c1 c2 c3 c4
  obtain ⟨c0, c1, c2, c3, c4⟩ := HN.out.at_ hP2
  clear hP2
  go_wp2_with fail
  go_at_call 55
  refine (H2.out.byte 41 (by omega) (by (try simp only [List.length_append, List.length_cons, List.length_singleton, List.length_nil]); omega)).mono ?_
  rintro e w3 ⟨rfl, hP3⟩
  have H3 : Hid (PW W0 b M (((X ++ [40]) ++ T) ++ [41]) w3) := hP3
  clear c0 c1 c2 c3 c4
  obtain ⟨c0, c1, c2, c3, c4⟩ := HN.out.at_ hP3
  clear hP3
  have HF : Hid (PW W0 b M (X ++ 40 :: ((T) ++ [41])) w3) := by
    show PW _ _ _ _ _
    have := H3.out
    simpa only [List.append_assoc, List.cons_append, List.nil_append] using this
  clear H0 H1 H2 H3
  go_wp2
  go_end0
  exact ⟨rfl, HF.out⟩

set_option maxHeartbeats 4000000 in
theorem put_notN {W0 w : World} {q b M place g off c : Nat} {mn mx : Int} {sv u : Value} {X T : List Nat} (hP : PW W0 b M X w) (hN : NodeC W0 q 5 sv mn mx (.slice (some ⟨g, off, none⟩) 1 c)) (hpl : place ≤ 4) (hw : place ≤ 4) (hX : X.length + ((126 :: T)).length ≤ 65536) (HB : Hid (KidC W0 b M u 4 T)) (hg : g < W0.heap.size) (HU : Hid (W0.cell? ⟨g, off, none⟩ = some u)) :
    Calls Tryz.prog 29 #[.pointer (some ⟨b, 0, none⟩), .pointer (some ⟨q, 0, none⟩), .int .i64 (place : Int)] w fun e w' => e = .returned (.tuple #[]) ∧ PW W0 b M (X ++ (126 :: T)) w' := by
  have HN : Hid (NodeC W0 q 5 sv mn mx (.slice (some ⟨g, off, none⟩) 1 c)) := hN
  have HL : Hid (Calls Tryz.prog 30 #[.pointer (some ⟨b, 0, none⟩)] w fun e w' => e = .returned (.int .i64 X.length) ∧ w' = w) := hP.len
  have HPl : Hid (∀ w', Calls Tryz.prog 54 #[.int .i64 5] w' fun e w'' => e = .returned (.int .i64 4) ∧ w'' = w') := place_any 5
  try simp only [List.length_append, List.length_cons, List.length_singleton, List.length_nil] at hX
  have hX1 : X.length ≤ 65536 := by omega
  have H0 : Hid (PW W0 b M X w) := hP
  obtain ⟨c0, c1, c2, c3, c4⟩ := hN.at_ hP
  have hqb : Hid True := trivial
  clear hN hP
  go_enter Tryz.func29, Tryz.ntmps29
  go_wp2_with fail
  go_at_call 30
  refine HL.out.mono ?_
  rintro e w' ⟨rfl, rfl⟩
  clear HL
  go_wp2_with fail
  go_at_call 54
  refine (HPl.out _).mono ?_
  rintro e w' ⟨rfl, rfl⟩
  go_wp2_with fail
  go_at_call 55
  refine (H0.out.byte 126 (by omega) (by (try simp only [List.length_append, List.length_cons, List.length_singleton, List.length_nil]); omega)).mono ?_
  rintro e w1 ⟨rfl, hP1⟩
  have H1 : Hid (PW W0 b M (X ++ [126]) w1) := hP1
  clear c0 c1 c2 c3 c4
  obtain ⟨c0, c1, c2, c3, c4⟩ := HN.out.at_ hP1
  clear hP1
  have hu := (H1.out.cell (p := ⟨g, off, none⟩) hg).trans HU.out
  go_wp2_with fail
  go_at_call 29
  refine (HB.out _ _ H1.out (by (try simp only [List.length_append, List.length_cons, List.length_singleton, List.length_nil]); omega)).mono ?_
  rintro e w2 ⟨rfl, hP2⟩
  have H2 : Hid (PW W0 b M ((X ++ [126]) ++ T) w2) := hP2
  clear c0 c1 c2 c3 c4
  obtain ⟨c0, c1, c2, c3, c4⟩ := HN.out.at_ hP2
  clear hP2
  have HF : Hid (PW W0 b M (X ++ (126 :: T)) w2) := by
    show PW _ _ _ _ _
    have := H2.out
    simpa only [List.append_assoc, List.cons_append, List.nil_append] using this
  clear H0 H1 H2
  go_wp2
  go_end0
  exact ⟨rfl, HF.out⟩

set_option maxHeartbeats 4000000 in
theorem put_repN {W0 w : World} {q b M place g off c : Nat} {mn mx : Int} {sv u : Value} {X T : List Nat} (hP : PW W0 b M X w) (hN : NodeC W0 q 6 sv mn mx (.slice (some ⟨g, off, none⟩) 1 c)) (hpl : place ≤ 4) (hw : place ≤ 3) (hX : X.length + ((T ++ timesB mn mx)).length ≤ 65536) (HB : Hid (KidC W0 b M u 3 T)) (hg : g < W0.heap.size) (HU : Hid (W0.cell? ⟨g, off, none⟩ = some u)) (hok : TimesOk mn mx) :
    Calls Tryz.prog 29 #[.pointer (some ⟨b, 0, none⟩), .pointer (some ⟨q, 0, none⟩), .int .i64 (place : Int)] w fun e w' => e = .returned (.tuple #[]) ∧ PW W0 b M (X ++ (T ++ timesB mn mx)) w' := by
  have HN : Hid (NodeC W0 q 6 sv mn mx (.slice (some ⟨g, off, none⟩) 1 c)) := hN
  have HL : Hid (Calls Tryz.prog 30 #[.pointer (some ⟨b, 0, none⟩)] w fun e w' => e = .returned (.int .i64 X.length) ∧ w' = w) := hP.len
  have HPl : Hid (∀ w', Calls Tryz.prog 54 #[.int .i64 6] w' fun e w'' => e = .returned (.int .i64 3) ∧ w'' = w') := place_any 6
  try simp only [List.length_append, List.length_cons, List.length_singleton, List.length_nil] at hX
  have hX1 : X.length ≤ 65536 := by omega
  have H0 : Hid (PW W0 b M X w) := hP
  obtain ⟨c0, c1, c2, c3, c4⟩ := hN.at_ hP
  have hqb : Hid True := trivial
  have HT : Hid (∀ w', Calls Tryz.prog 60 #[.int .i64 mn, .int .i64 mx] w' fun e w'' => e = .returned (.string (bytesB (timesB mn mx))) ∧ w'' = w') := wtimes_any hok
  clear hok
  clear hN hP
  go_enter Tryz.func29, Tryz.ntmps29
  go_wp2_with fail
  go_at_call 30
  refine HL.out.mono ?_
  rintro e w' ⟨rfl, rfl⟩
  clear HL
  go_wp2_with fail
  go_at_call 54
  refine (HPl.out _).mono ?_
  rintro e w' ⟨rfl, rfl⟩
  have hu := (H0.out.cell (p := ⟨g, off, none⟩) hg).trans HU.out
  go_wp2_with fail
  go_at_call 29
  refine (HB.out _ _ H0.out (by (try simp only [List.length_append, List.length_cons, List.length_singleton, List.length_nil]); omega)).mono ?_
  rintro e w1 ⟨rfl, hP1⟩
  have H1 : Hid (PW W0 b M (X ++ T) w1) := hP1
  clear c0 c1 c2 c3 c4
  obtain ⟨c0, c1, c2, c3, c4⟩ := HN.out.at_ hP1
  clear hP1
  clear hu
  have HSt : Hid (∀ w', PW W0 b M ((X ++ T)) w' → Calls Tryz.prog 56 #[.pointer (some ⟨b, 0, none⟩), .string (bytesB (timesB mn mx))] w' fun e w'' => (∃ n : Int, e = .returned (.tuple #[.int .i64 n, .nilIface])) ∧ PW W0 b M ((X ++ T) ++ timesB mn mx) w'') := fun w' h => h.str (timesB mn mx) (by (try simp only [List.length_append, List.length_cons, List.length_singleton, List.length_nil]); omega)
  have HCl : Hid (∀ w' Y, PW W0 b M Y w' → w'.cell? ⟨q, 2, none⟩ = some (.int .i64 mn) ∧ w'.cell? ⟨q, 3, none⟩ = some (.int .i64 mx)) := fun w' Y h => ⟨(HN.out.at_ h).2.2.1, (HN.out.at_ h).2.2.2.1⟩
  go_wp2_with fail
  go_region_held3 (fun w' => w'.cell? ⟨q, 2, none⟩ = some (.int .i64 mn) ∧ w'.cell? ⟨q, 3, none⟩ = some (.int .i64 mx)) (go_keep) ((first | (go_at_call 60; refine (HT.out _).mono ?_; rintro e w8 ⟨rfl, rfl⟩) | (go_at_call 56; refine (HSt.out _ ?_).mono ?_; exact H1.out.drew; rintro e w9 ⟨⟨n, rfl⟩, hP9⟩; have f2 := HCl.out w9 _ hP9; obtain ⟨f2, f3⟩ := f2)))
  all_goals
    have HF : Hid (PW W0 b M (X ++ (T ++ timesB mn mx)) w9) := by
      show PW _ _ _ _ _
      simpa only [List.append_assoc, List.cons_append, List.nil_append] using hP9
    clear H0 H1 hP9
    go_wp2
    go_end0
    exact ⟨rfl, HF.out⟩

set_option maxHeartbeats 4000000 in
theorem put_repW {W0 w : World} {q b M place g off c : Nat} {mn mx : Int} {sv u : Value} {X T : List Nat} (hP : PW W0 b M X w) (hN : NodeC W0 q 6 sv mn mx (.slice (some ⟨g, off, none⟩) 1 c)) (hpl : place ≤ 4) (hw : 3 < place) (hX : X.length + (40 :: ((T ++ timesB mn mx) ++ [41])).length ≤ 65536) (HB : Hid (KidC W0 b M u 3 T)) (hg : g < W0.heap.size) (HU : Hid (W0.cell? ⟨g, off, none⟩ = some u)) (hok : TimesOk mn mx) :
    Calls Tryz.prog 29 #[.pointer (some ⟨b, 0, none⟩), .pointer (some ⟨q, 0, none⟩), .int .i64 (place : Int)] w fun e w' => e = .returned (.tuple #[]) ∧ PW W0 b M (X ++ 40 :: ((T ++ timesB mn mx) ++ [41])) w' := by
  have HN : Hid (NodeC W0 q 6 sv mn mx (.slice (some ⟨g, off, none⟩) 1 c)) := hN
  have HL : Hid (Calls Tryz.prog 30 #[.pointer (some ⟨b, 0, none⟩)] w fun e w' => e = .returned (.int .i64 X.length) ∧ w' = w) := hP.len
  have HPl : Hid (∀ w', Calls Tryz.prog 54 #[.int .i64 6] w' fun e w'' => e = .returned (.int .i64 3) ∧ w'' = w') := place_any 6
  try simp only [List.length_append, List.length_cons, List.length_singleton, List.length_nil] at hX
  have hX1 : X.length ≤ 65536 := by omega
  have H0 : Hid (PW W0 b M X w) := hP
  obtain ⟨c0, c1, c2, c3, c4⟩ := hN.at_ hP
  have hqb : Hid True := trivial
  have HT : Hid (∀ w', Calls Tryz.prog 60 #[.int .i64 mn, .int .i64 mx] w' fun e w'' => e = .returned (.string (bytesB (timesB mn mx))) ∧ w'' = w') := wtimes_any hok
  clear hok
  clear hN hP
  go_enter Tryz.func29, Tryz.ntmps29
  go_wp2_with fail
  go_at_call 30
  refine HL.out.mono ?_
  rintro e w' ⟨rfl, rfl⟩
  clear HL
  go_wp2_with fail
  go_at_call 54
  refine (HPl.out _).mono ?_
  rintro e w' ⟨rfl, rfl⟩
  go_wp2_with fail
  go_at_call 55
  refine (H0.out.byte 40 (by omega) (by omega)).mono ?_
  rintro e w1 ⟨rfl, hP1⟩
  have H1 : Hid (PW W0 b M (X ++ [40]) w1) := hP1
  clear c0 c1 c2 c3 c4
  obtain ⟨c0, c1, c2, c3, c4⟩ := HN.out.at_ hP1
  clear hP1
  have hu := (H1.out.cell (p := ⟨g, off, none⟩) hg).trans HU.out
  go_wp2_with fail
  go_at_call 29
  refine (HB.out _ _ H1.out (by (try simp only [List.length_append, List.length_cons, List.length_singleton, List.length_nil]); omega)).mono ?_
  rintro e w2 ⟨rfl, hP2⟩
  have H2 : Hid (PW W0 b M ((X ++ [40]) ++ T) w2) := hP2
  clear c0 c1 c2 c3 c4
  obtain ⟨c0, c1, c2, c3, c4⟩ := HN.out.at_ hP2
  clear hP2
  clear hu
  have HSt : Hid (∀ w', PW W0 b M (((X ++ [40]) ++ T)) w' → Calls Tryz.prog 56 #[.pointer (some ⟨b, 0, none⟩), .string (bytesB (timesB mn mx))] w' fun e w'' => (∃ n : Int, e = .returned (.tuple #[.int .i64 n, .nilIface])) ∧ PW W0 b M (((X ++ [40]) ++ T) ++ timesB mn mx) w'') := fun w' h => h.str (timesB mn mx) (by (try simp only [List.length_append, List.length_cons, List.length_singleton, List.length_nil]); omega)
  have HCl : Hid (∀ w' Y, PW W0 b M Y w' → w'.cell? ⟨q, 2, none⟩ = some (.int .i64 mn) ∧ w'.cell? ⟨q, 3, none⟩ = some (.int .i64 mx)) := fun w' Y h => ⟨(HN.out.at_ h).2.2.1, (HN.out.at_ h).2.2.2.1⟩
  go_wp2_with fail
  go_region_held3 (fun w' => w'.cell? ⟨q, 2, none⟩ = some (.int .i64 mn) ∧ w'.cell? ⟨q, 3, none⟩ = some (.int .i64 mx)) (go_keep) ((first | (go_at_call 60; refine (HT.out _).mono ?_; rintro e w8 ⟨rfl, rfl⟩) | (go_at_call 56; refine (HSt.out _ ?_).mono ?_; exact H2.out.drew; rintro e w9 ⟨⟨n, rfl⟩, hP9⟩; have f2 := HCl.out w9 _ hP9; obtain ⟨f2, f3⟩ := f2)))
  all_goals
    have HQ : Hid (PW W0 b M (((X ++ [40]) ++ T) ++ timesB mn mx) w9) := hP9
    clear hP9 H0 H1 H2 c0 c1 c2 c3 c4
    go_wp2_with fail
    go_at_call 55
    refine (HQ.out.byte 41 (by omega) (by (try simp only [List.length_append, List.length_cons, List.length_singleton, List.length_nil]); omega)).mono ?_
    rintro e w10 ⟨rfl, hP10⟩
    have HF : Hid (PW W0 b M (X ++ 40 :: ((T ++ timesB mn mx) ++ [41])) w10) := by
      show PW _ _ _ _ _
      simpa only [List.append_assoc, List.cons_append, List.nil_append] using hP10
    clear hP10 HQ
    go_wp2
    go_end0
    exact ⟨rfl, HF.out⟩

end Go.Proofs.YtbjohedenfindaaGreatDoor
