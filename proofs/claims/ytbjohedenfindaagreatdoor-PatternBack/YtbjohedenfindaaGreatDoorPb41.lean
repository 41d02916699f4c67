/- Texts of the proof, put together: WPutK, WPutA. -/
import Derived.Test.YtbjohedenfindaaGreatDoorPb40
import Derived.Test.YtbjohedenfindaaGreatDoorPb36
namespace Go.Proofs.YtbjohedenfindaaGreatDoor
open Go.RowKit
open Go.Maps (Keyed)
set_option linter.unusedVariables false
set_option linter.unusedSimpArgs false
set_option maxRecDepth 100000

theorem PW.drew {W0 w : World} {b M : Nat} {X : List Nat} (h : PW W0 b M X w) : PW W0 b M X w.drew := h.below (below_drew1 (Below.refl _ _))
/-- the cells of a node, in whatever world behind -/
def NodeC (W0 : World) (q : Nat) (k : Int) (sv : Value) (mn mx : Int) (kv : Value) : Prop := q < W0.heap.size ∧ W0.cell? ⟨q, 0, none⟩ = some (.int .i64 k) ∧ W0.cell? ⟨q, 1, none⟩ = some sv ∧ W0.cell? ⟨q, 2, none⟩ = some (.int .i64 mn) ∧ W0.cell? ⟨q, 3, none⟩ = some (.int .i64 mx) ∧ W0.cell? ⟨q, 4, none⟩ = some kv
theorem NodeC.at_ {W0 w : World} {q b M : Nat} {k mn mx : Int} {sv kv : Value} {X : List Nat} (h : NodeC W0 q k sv mn mx kv) (hP : PW W0 b M X w) : w.cell? ⟨q, 0, none⟩ = some (.int .i64 k) ∧ w.cell? ⟨q, 1, none⟩ = some sv ∧ w.cell? ⟨q, 2, none⟩ = some (.int .i64 mn) ∧ w.cell? ⟨q, 3, none⟩ = some (.int .i64 mx) ∧ w.cell? ⟨q, 4, none⟩ = some kv := by
  obtain ⟨h0, h1, h2, h3, h4, h5⟩ := h
  exact ⟨(hP.cell (p := ⟨q, 0, none⟩) h0).trans h1, (hP.cell (p := ⟨q, 1, none⟩) h0).trans h2, (hP.cell (p := ⟨q, 2, none⟩) h0).trans h3, (hP.cell (p := ⟨q, 3, none⟩) h0).trans h4, (hP.cell (p := ⟨q, 4, none⟩) h0).trans h5⟩

/-- what a call leaves that writes these bytes -/
def WrC (W0 : World) (b M : Nat) (fn : Nat) (args : Array Value) (e : Ending) (T : List Nat) : Prop := ∀ X w, PW W0 b M X w → X.length + T.length ≤ 65536 → Calls Tryz.prog fn args w fun e' w' => e' = e ∧ PW W0 b M (X ++ T) w'

set_option maxHeartbeats 4000000 in
theorem put_setN {W0 w : World} {q b M place : Nat} {mn mx : Int} {sv kv : Value} {X T : List Nat} (hP : PW W0 b M X w) (hN : NodeC W0 q 1 sv mn mx kv) (hpl : place ≤ 4) (hw : place ≤ 4) (hX : X.length + ((T)).length ≤ 65536) (HB : Hid (∀ X w, PW W0 b M X w → Calls Tryz.prog 57 #[.pointer (some ⟨b, 0, none⟩), sv] w fun e w' => e = .returned (.string (bytesB T)) ∧ PW W0 b M X w')) :
    Calls Tryz.prog 29 #[.pointer (some ⟨b, 0, none⟩), .pointer (some ⟨q, 0, none⟩), .int .i64 (place : Int)] w fun e w' => e = .returned (.tuple #[]) ∧ PW W0 b M (X ++ (T)) w' := by
  have HN : Hid (NodeC W0 q 1 sv mn mx kv) := hN
  have HL : Hid (Calls Tryz.prog 30 #[.pointer (some ⟨b, 0, none⟩)] w fun e w' => e = .returned (.int .i64 X.length) ∧ w' = w) := hP.len
  have HPl : Hid (∀ w', Calls Tryz.prog 54 #[.int .i64 1] w' fun e w'' => e = .returned (.int .i64 4) ∧ w'' = w') := place_any 1
  try simp only [List.length_append, List.length_cons, List.length_singleton, List.length_nil] at hX
  have hX1 : X.length ≤ 65536 := by omega
  have H0 : Hid (PW W0 b M X w) := hP
  obtain ⟨c0, c1, c2, c3, c4⟩ := hN.at_ hP
  have hqb : Hid True := trivial
  clear hN hP
  go_enter Tryz.func29, Tryz.ntmps29
  go_wp2_with fail
  go_at_call 30
  refine HL.out.mono ?_
  rintro e w' ⟨rfl, rfl⟩
  clear HL
  go_wp2_with fail
  go_at_call 54
  refine (HPl.out _).mono ?_
  rintro e w' ⟨rfl, rfl⟩
  have HSt : Hid (∀ w', PW W0 b M X w' → Calls Tryz.prog 56 #[.pointer (some ⟨b, 0, none⟩), .string (bytesB T)] w' fun e w'' => (∃ n : Int, e = .returned (.tuple #[.int .i64 n, .nilIface])) ∧ PW W0 b M (X ++ T) w'') := fun w' h => h.str T (by omega)
  have HCl : Hid (∀ w' Y, PW W0 b M Y w' → w'.cell? ⟨q, 1, none⟩ = some sv) := fun w' Y h => (HN.out.at_ h).2.1
  go_wp2_with fail
  go_region_held3 (fun w' => w'.cell? ⟨q, 1, none⟩ = some sv) (go_keep) ((first | (go_at_call 57; refine (HB.out X _ ?_).mono ?_; exact H0.out.drew; rintro e w1 ⟨rfl, hP1⟩; have f1 := HCl.out w1 _ hP1) | (go_at_call 56; refine (HSt.out w1 hP1).mono ?_; rintro e w2 ⟨⟨n, rfl⟩, hP2⟩; have f2 := HCl.out w2 _ hP2)))
  all_goals
    have HF : Hid (PW W0 b M (X ++ T) w2) := hP2
    clear hP1 hP2 H0
    go_wp2
    go_end0
    exact ⟨rfl, HF.out⟩

set_option maxHeartbeats 4000000 in
theorem put_rowN {W0 w : World} {q b M place : Nat} {mn mx : Int} {sv kv : Value} {X T : List Nat} (hP : PW W0 b M X w) (hN : NodeC W0 q 2 sv mn mx kv) (hpl : place ≤ 4) (hw : place ≤ 2) (hX : X.length + ((T)).length ≤ 65536) (HB : Hid (WrC W0 b M 58 #[.pointer (some ⟨b, 0, none⟩), kv] (.returned (.tuple #[])) T)) :
    Calls Tryz.prog 29 #[.pointer (some ⟨b, 0, none⟩), .pointer (some ⟨q, 0, none⟩), .int .i64 (place : Int)] w fun e w' => e = .returned (.tuple #[]) ∧ PW W0 b M (X ++ (T)) w' := by
  have HN : Hid (NodeC W0 q 2 sv mn mx kv) := hN
  have HL : Hid (Calls Tryz.prog 30 #[.pointer (some ⟨b, 0, none⟩)] w fun e w' => e = .returned (.int .i64 X.length) ∧ w' = w) := hP.len
  have HPl : Hid (∀ w', Calls Tryz.prog 54 #[.int .i64 2] w' fun e w'' => e = .returned (.int .i64 2) ∧ w'' = w') := place_any 2
  try simp only [List.length_append, List.length_cons, List.length_singleton, List.length_nil] at hX
  have hX1 : X.length ≤ 65536 := by omega
  have H0 : Hid (PW W0 b M X w) := hP
  obtain ⟨c0, c1, c2, c3, c4⟩ := hN.at_ hP
  have hqb : Hid True := trivial
  clear hN hP
  go_enter Tryz.func29, Tryz.ntmps29
  go_wp2_with fail
  go_at_call 30
  refine HL.out.mono ?_
  rintro e w' ⟨rfl, rfl⟩
  clear HL
  go_wp2_with fail
  go_at_call 54
  refine (HPl.out _).mono ?_
  rintro e w' ⟨rfl, rfl⟩
  go_wp2_with fail
  go_at_call 58
  refine (HB.out _ _ H0.out (by (try simp only [List.length_append, List.length_cons, List.length_singleton, List.length_nil]); omega)).mono ?_
  rintro e w1 ⟨rfl, hP1⟩
  have H1 : Hid (PW W0 b M (X ++ T) w1) := hP1
  clear c0 c1 c2 c3 c4
  obtain ⟨c0, c1, c2, c3, c4⟩ := HN.out.at_ hP1
  clear hP1
  have HF : Hid (PW W0 b M (X ++ (T)) w1) := by
    show PW _ _ _ _ _
    have := H1.out
    simpa only [List.append_assoc, List.cons_append, List.nil_append] using this
  clear H0 H1
  go_wp2
  go_end0
  exact ⟨rfl, HF.out⟩

set_option maxHeartbeats 4000000 in
theorem put_rowW {W0 w : World} {q b M place : Nat} {mn mx : Int} {sv kv : Value} {X T : List Nat} (hP : PW W0 b M X w) (hN : NodeC W0 q 2 sv mn mx kv) (hpl : place ≤ 4) (hw : 2 < place) (hX : X.length + (40 :: ((T) ++ [41])).length ≤ 65536) (HB : Hid (WrC W0 b M 58 #[.pointer (some ⟨b, 0, none⟩), kv] (.returned (.tuple #[])) T)) :
    Calls Tryz.prog 29 #[.pointer (some ⟨b, 0, none⟩), .pointer (some ⟨q, 0, none⟩), .int .i64 (place : Int)] w fun e w' => e = .returned (.tuple #[]) ∧ PW W0 b M (X ++ 40 :: ((T) ++ [41])) w' := by
  have HN : Hid (NodeC W0 q 2 sv mn mx kv) := hN
  have HL : Hid (Calls Tryz.prog 30 #[.pointer (some ⟨b, 0, none⟩)] w fun e w' => e = .returned (.int .i64 X.length) ∧ w' = w) := hP.len
  have HPl : Hid (∀ w', Calls Tryz.prog 54 #[.int .i64 2] w' fun e w'' => e = .returned (.int .i64 2) ∧ w'' = w') := place_any 2
  try simp only [List.length_append, List.length_cons, List.length_singleton, List.length_nil] at hX
  have hX1 : X.length ≤ 65536 := by omega
  have H0 : Hid (PW W0 b M X w) := hP
  obtain ⟨c0, c1, c2, c3, c4⟩ := hN.at_ hP
  have hqb : Hid True := trivial
  clear hN hP
  go_enter Tryz.func29, Tryz.ntmps29
  go_wp2_with fail
  go_at_call 30
  refine HL.out.mono ?_
  rintro e w' ⟨rfl, rfl⟩
  clear HL
  go_wp2_with fail
  go_at_call 54
  refine (HPl.out _).mono ?_
  rintro e w' ⟨rfl, rfl⟩
  go_wp2_with fail
  go_at_call 55
  refine (H0.out.byte 40 (by omega) (by omega)).mono ?_
  rintro e w1 ⟨rfl, hP1⟩
  have H1 : Hid (PW W0 b M (X ++ [40]) w1) := hP1
  clear c0 c1 c2 c3 c4
  obtain ⟨c0, c1, c2, c3, c4⟩ := HN.out.at_ hP1
  clear hP1
  go_wp2_with fail
  go_at_call 58
  refine (HB.out _ _ H1.out (by (try simp only [List.length_append, List.length_cons, List.length_singleton, List.length_nil]); omega)).mono ?_
  rintro e w2 ⟨rfl, hP2⟩
  have H2 : Hid (PW W0 b M ((X ++ [40]) ++ T) w2) := hP2
  clear c0 c1 c2 c3 c4
  obtain ⟨c0, c1, c2, c3, c4⟩ := HN.out.at_ hP2
  clear hP2
  go_wp2_with fail
  go_at_call 55
  refine (H2.out.byte 41 (by omega) (by (try simp only [List.length_append, List.length_cons, List.length_singleton, List.length_nil]); omega)).mono ?_
  rintro e w3 ⟨rfl, hP3⟩
  have H3 : Hid (PW W0 b M (((X ++ [40]) ++ T) ++ [41]) w3) := hP3
  clear c0 c1 c2 c3 c4
  obtain ⟨c0, c1, c2, c3, c4⟩ := HN.out.at_ hP3
  clear hP3
  have HF : Hid (PW W0 b M (X ++ 40 :: ((T) ++ [41])) w3) := by
    show PW _ _ _ _ _
    have := H3.out
    simpa only [List.append_assoc, List.cons_append, List.nil_append] using this
  clear H0 H1 H2 H3
  go_wp2
  go_end0
  exact ⟨rfl, HF.out⟩

set_option maxHeartbeats 4000000 in
theorem put_orN {W0 w : World} {q b M place : Nat} {mn mx : Int} {sv kv : Value} {X T : List Nat} (hP : PW W0 b M X w) (hN : NodeC W0 q 3 sv mn mx kv) (hpl : place ≤ 4) (hw : place ≤ 0) (hX : X.length + ((T)).length ≤ 65536) (HB : Hid (WrC W0 b M 59 #[.pointer (some ⟨b, 0, none⟩), kv, .int .u8 124, .int .i64 1] (.returned (.tuple #[])) T)) :
    Calls Tryz.prog 29 #[.pointer (some ⟨b, 0, none⟩), .pointer (some ⟨q, 0, none⟩), .int .i64 (place : Int)] w fun e w' => e = .returned (.tuple #[]) ∧ PW W0 b M (X ++ (T)) w' := by
  have HN : Hid (NodeC W0 q 3 sv mn mx kv) := hN
  have HL : Hid (Calls Tryz.prog 30 #[.pointer (some ⟨b, 0, none⟩)] w fun e w' => e = .returned (.int .i64 X.length) ∧ w' = w) := hP.len
  have HPl : Hid (∀ w', Calls Tryz.prog 54 #[.int .i64 3] w' fun e w'' => e = .returned (.int .i64 0) ∧ w'' = w') := place_any 3
  try simp only [List.length_append, List.length_cons, List.length_singleton, List.length_nil] at hX
  have hX1 : X.length ≤ 65536 := by omega
  have H0 : Hid (PW W0 b M X w) := hP
  obtain ⟨c0, c1, c2, c3, c4⟩ := hN.at_ hP
  have hqb : Hid True := trivial
  clear hN hP
  go_enter Tryz.func29, Tryz.ntmps29
  go_wp2_with fail
  go_at_call 30
  refine HL.out.mono ?_
  rintro e w' ⟨rfl, rfl⟩
  clear HL
  go_wp2_with fail
  go_at_call 54
  refine (HPl.out _).mono ?_
  rintro e w' ⟨rfl, rfl⟩
  go_wp2_with fail
  go_at_call 59
  refine (HB.out _ _ H0.out (by (try simp only [List.length_append, List.length_cons, List.length_singleton, List.length_nil]); omega)).mono ?_
  rintro e w1 ⟨rfl, hP1⟩
  have H1 : Hid (PW W0 b M (X ++ T) w1) := hP1
  clear c0 c1 c2 c3 c4
  obtain ⟨c0, c1, c2, c3, c4⟩ := HN.out.at_ hP1
  clear hP1
  have HF : Hid (PW W0 b M (X ++ (T)) w1) := by
    show PW _ _ _ _ _
    have := H1.out
    simpa only [List.append_assoc, List.cons_append, List.nil_append] using this
  clear H0 H1
  go_wp2
  go_end0
  exact ⟨rfl, HF.out⟩

set_option maxHeartbeats 4000000 in
theorem put_orW {W0 w : World} {q b M place : Nat} {mn mx : Int} {sv kv : Value} {X T : List Nat} (hP : PW W0 b M X w) (hN : NodeC W0 q 3 sv mn mx kv) (hpl : place ≤ 4) (hw : 0 < place) (hX : X.length + (40 :: ((T) ++ [41])).length ≤ 65536) (HB : Hid (WrC W0 b M 59 #[.pointer (some ⟨b, 0, none⟩), kv, .int .u8 124, .int .i64 1] (.returned (.tuple #[])) T)) :
    Calls Tryz.prog 29 #[.pointer (some ⟨b, 0, none⟩), .pointer (some ⟨q, 0, none⟩), .int .i64 (place : Int)] w fun e w' => e = .returned (.tuple #[]) ∧ PW W0 b M (X ++ 40 :: ((T) ++ [41])) w' := by
  have HN : Hid (NodeC W0 q 3 sv mn mx kv) := hN
  have HL : Hid (Calls Tryz.prog 30 #[.pointer (some ⟨b, 0, none⟩)] w fun e w' => e = .returned (.int .i64 X.length) ∧ w' = w) := hP.len
  have HPl : Hid (∀ w', Calls Tryz.prog 54 #[.int .i64 3] w' fun e w'' => e = .returned (.int .i64 0) ∧ w'' = w') := place_any 3
  try simp only [List.length_append, List.length_cons, List.length_singleton, List.length_nil] at hX
  have hX1 : X.length ≤ 65536 := by omega
  have H0 : Hid (PW W0 b M X w) := hP
  obtain ⟨c0, c1, c2, c3, c4⟩ := hN.at_ hP
  have hqb : Hid True := trivial
  clear hN hP
  go_enter Tryz.func29, Tryz.ntmps29
  go_wp2_with fail
  go_at_call 30
  refine HL.out.mono ?_
  rintro e w' ⟨rfl, rfl⟩
  clear HL
  go_wp2_with fail
  go_at_call 54
  refine (HPl.out _).mono ?_
  rintro e w' ⟨rfl, rfl⟩
  go_wp2_with fail
  go_at_call 55
  refine (H0.out.byte 40 (by omega) (by omega)).mono ?_
  rintro e w1 ⟨rfl, hP1⟩
  have H1 : Hid (PW W0 b M (X ++ [40]) w1) := hP1
  clear c0 c1 c2 c3 c4
  obtain ⟨c0, c1, c2, c3, c4⟩ := HN.out.at_ hP1
  clear hP1
  go_wp2_with fail
  go_at_call 59
  refine (HB.out _ _ H1.out (by (try simp only [List.length_append, List.length_cons, List.length_singleton, List.length_nil]); omega)).mono ?_
  rintro e w2 ⟨rfl, hP2⟩
  have H2 : Hid (PW W0 b M ((X ++ [40]) ++ T) w2) := hP2
  clear c0 c1 c2 c3 c4
  obtain ⟨c0, c1, c2, c3, c4⟩ := HN.out.at_ hP2
  clear hP2
  go_wp2_with fail
  go_at_call 55
  refine (H2.out.byte 41 (by omega) (by (try simp only [List.length_append, List.length_cons, List.length_singleton, List.length_nil]); omega)).mono ?_
  rintro e w3 ⟨rfl, hP3⟩
  have H3 : Hid (PW W0 b M (((X ++ [40]) ++ T) ++ [41]) w3) := hP3
  clear c0 c1 c2 c3 c4
  obtain ⟨c0, c1, c2, c3, c4⟩ := HN.out.at_ hP3
  clear hP3
  have HF : Hid (PW W0 b M (X ++ 40 :: ((T) ++ [41])) w3) := by
    show PW _ _ _ _ _
    have := H3.out
    simpa only [List.append_assoc, List.cons_append, List.nil_append] using this
  clear H0 H1 H2 H3
  go_wp2
  go_end0
  exact ⟨rfl, HF.out⟩

set_option maxHeartbeats 4000000 in
theorem put_andN {W0 w : World} {q b M place : Nat} {mn mx : Int} {sv kv : Value} {X T : List Nat} (hP : PW W0 b M X w) (hN : NodeC W0 q 4 sv mn mx kv) (hpl : place ≤ 4) (hw : place ≤ 1) (hX : X.length + ((T)).length ≤ 65536) (HB : Hid (WrC W0 b M 59 #[.pointer (some ⟨b, 0, none⟩), kv, .int .u8 38, .int .i64 2] (.returned (.tuple #[])) T)) :
    Calls Tryz.prog 29 #[.pointer (some ⟨b, 0, none⟩), .pointer (some ⟨q, 0, none⟩), .int .i64 (place : Int)] w fun e w' => e = .returned (.tuple #[]) ∧ PW W0 b M (X ++ (T)) w' := by
  have HN : Hid (NodeC W0 q 4 sv mn mx kv) := hN
  have HL : Hid (Calls Tryz.prog 30 #[.pointer (some ⟨b, 0, none⟩)] w fun e w' => e = .returned (.int .i64 X.length) ∧ w' = w) := hP.len
  have HPl : Hid (∀ w', Calls Tryz.prog 54 #[.int .i64 4] w' fun e w'' => e = .returned (.int .i64 1) ∧ w'' = w') := place_any 4
  try simp only [List.length_append, List.length_cons, List.length_singleton, List.length_nil] at hX
  have hX1 : X.length ≤ 65536 := by omega
  have H0 : Hid (PW W0 b M X w) := hP
  obtain ⟨c0, c1, c2, c3, c4⟩ := hN.at_ hP
  have hqb : Hid True := trivial
  clear hN hP
  go_enter Tryz.func29, Tryz.ntmps29
  go_wp2_with fail
  go_at_call 30
  refine HL.out.mono ?_
  rintro e w' ⟨rfl, rfl⟩
  clear HL
  go_wp2_with fail
  go_at_call 54
  refine (HPl.out _).mono ?_
  rintro e w' ⟨rfl, rfl⟩
  go_wp2_with fail
  go_at_call 59
  refine (HB.out _ _ H0.out (by (try simp only [List.length_append, List.length_cons, List.length_singleton, List.length_nil]); omega)).mono ?_
  rintro e w1 ⟨rfl, hP1⟩
  have H1 : Hid (PW W0 b M (X ++ T) w1) := hP1
  clear c0 c1 c2 c3 c4
  obtain ⟨c0, c1, c2, c3, c4⟩ := HN.out.at_ hP1
  clear hP1
  have HF : Hid (PW W0 b M (X ++ (T)) w1) := by
    show PW _ _ _ _ _
    have := H1.out
    simpa only [List.append_assoc, List.cons_append, List.nil_append] using this
  clear H0 H1
  go_wp2
  go_end0
  exact ⟨rfl, HF.out⟩

set_option maxHeartbeats 4000000 in
theorem put_andW {W0 w : World} {q b M place : Nat} {mn mx : Int} {sv kv : Value} {X T : List Nat} (hP : PW W0 b M X w) (hN : NodeC W0 q 4 sv mn mx kv) (hpl : place ≤ 4) (hw : 1 < place) (hX : X.length + (40 :: ((T) ++ [41])).length ≤ 65536) (HB : Hid (WrC W0 b M 59 #[.pointer (some ⟨b, 0, none⟩), kv, .int .u8 38, .int .i64 2] (.returned (.tuple #[])) T)) :
    Calls Tryz.prog 29 #[.pointer (some ⟨b, 0, none⟩), .pointer (some ⟨q, 0, none⟩), .int .i64 (place : Int)] w fun e w' => e = .returned (.tuple #[]) ∧ PW W0 b M (X ++ 40 :: ((T) ++ [41])) w' := by
  have HN : Hid (NodeC W0 q 4 sv mn mx kv) := hN
  have HL : Hid (Calls Tryz.prog 30 #[.pointer (some ⟨b, 0, none⟩)] w fun e w' => e = .returned (.int .i64 X.length) ∧ w' = w) := hP.len
  have HPl : Hid (∀ w', Calls Tryz.prog 54 #[.int .i64 4] w' fun e w'' => e = .returned (.int .i64 1) ∧ w'' = w') := place_any 4
  try simp only [List.length_append, List.length_cons, List.length_singleton, List.length_nil] at hX
  have hX1 : X.length ≤ 65536 := by omega
  have H0 : Hid (PW W0 b M X w) := hP
  obtain ⟨c0, c1, c2, c3, c4⟩ := hN.at_ hP
  have hqb : Hid True := trivial
  clear hN hP
  go_enter Tryz.func29, Tryz.ntmps29
  go_wp2_with fail
  go_at_call 30
  refine HL.out.mono ?_
  rintro e w' ⟨rfl, rfl⟩
  clear HL
  go_wp2_with fail
  go_at_call 54
  refine (HPl.out _).mono ?_
  rintro e w' ⟨rfl, rfl⟩
  go_wp2_with fail
  go_at_call 55
  refine (H0.out.byte 40 (by omega) (by omega)).mono ?_
  rintro e w1 ⟨rfl, hP1⟩
  have H1 : Hid (PW W0 b M (X ++ [40]) w1) := hP1
  clear c0 c1 c2 c3 c4
  obtain ⟨c0, c1, c2, c3, c4⟩ := HN.out.at_ hP1
  clear hP1
  go_wp2_with fail
  go_at_call 59
  refine (HB.out _ _ H1.out (by (try simp only [List.length_append, List.length_cons, List.length_singleton, List.length_nil]); omega)).mono ?_
  rintro e w2 ⟨rfl, hP2⟩
  have H2 : Hid (PW W0 b M ((X ++ [40]) ++ T) w2) := hP2
  clear c0 c1 c2 c3 c4
  obtain ⟨c0, c1, c2, c3, c4⟩ := HN.out.at_ hP2
  clear hP2
  go_wp2_with fail
  go_at_call 55
  refine (H2.out.byte 41 (by omega) (by (try simp only [List.length_append, List.length_cons, List.length_singleton, List.length_nil]); omega)).mono ?_
  rintro e w3 ⟨rfl, hP3⟩
  have H3 : Hid (PW W0 b M (((X ++ [40]) ++ T) ++ [41]) w3) := hP3
  clear c0 c1 c2 c3 c4
  obtain ⟨c0, c1, c2, c3, c4⟩ := HN.out.at_ hP3
  clear hP3
  have HF : Hid (PW W0 b M (X ++ 40 :: ((T) ++ [41])) w3) := by
    show PW _ _ _ _ _
    have := H3.out
    simpa only [List.append_assoc, List.cons_append, List.nil_append] using this
  clear H0 H1 H2 H3
  go_wp2
  go_end0
  exact ⟨rfl, HF.out⟩

set_option maxHeartbeats 4000000 in
theorem put_notN {W0 w : World} {q b M place g off c : Nat} {mn mx : Int} {sv u : Value} {X T : List Nat} (hP : PW W0 b M X w) (hN : NodeC W0 q 5 sv mn mx (.slice (some ⟨g, off, none⟩) 1 c)) (hpl : place ≤ 4) (hw : place ≤ 4) (hX : X.length + ((126 :: T)).length ≤ 65536) (HB : Hid (KidC W0 b M u 4 T)) (hg : g < W0.heap.size) (HU : Hid (W0.cell? ⟨g, off, none⟩ = some u)) :
    Calls Tryz.prog 29 #[.pointer (some ⟨b, 0, none⟩), .pointer (some ⟨q, 0, none⟩), .int .i64 (place : Int)] w fun e w' => e = .returned (.tuple #[]) ∧ PW W0 b M (X ++ (126 :: T)) w' := by
  have HN : Hid (NodeC W0 q 5 sv mn mx (.slice (some ⟨g, off, none⟩) 1 c)) := hN
  have HL : Hid (Calls Tryz.prog 30 #[.pointer (some ⟨b, 0, none⟩)] w fun e w' => e = .returned (.int .i64 X.length) ∧ w' = w) := hP.len
  have HPl : Hid (∀ w', Calls Tryz.prog 54 #[.int .i64 5] w' fun e w'' => e = .returned (.int .i64 4) ∧ w'' = w') := place_any 5
  try simp only [List.length_append, List.length_cons, List.length_singleton, List.length_nil] at hX
  have hX1 : X.length ≤ 65536 := by omega
  have H0 : Hid (PW W0 b M X w) := hP
  obtain ⟨c0, c1, c2, c3, c4⟩ := hN.at_ hP
  have hqb : Hid True := trivial
  clear hN hP
  go_enter Tryz.func29, Tryz.ntmps29
  go_wp2_with fail
  go_at_call 30
  refine HL.out.mono ?_
  rintro e w' ⟨rfl, rfl⟩
  clear HL
  go_wp2_with fail
  go_at_call 54
  refine (HPl.out _).mono ?_
  rintro e w' ⟨rfl, rfl⟩
  go_wp2_with fail
  go_at_call 55
  refine (H0.out.byte 126 (by omega) (by (try simp only [List.length_append, List.length_cons, List.length_singleton, List.length_nil]); omega)).mono ?_
  rintro e w1 ⟨rfl, hP1⟩
  have H1 : Hid (PW W0 b M (X ++ [126]) w1) := hP1
  clear c0 c1 c2 c3 c4
  obtain ⟨c0, c1, c2, c3, c4⟩ := HN.out.at_ hP1
  clear hP1
  have hu := (H1.out.cell (p := ⟨g, off, none⟩) hg).trans HU.out
  go_wp2_with fail
  go_at_call 29
  refine (HB.out _ _ H1.out (by (try simp only [List.length_append, List.length_cons, List.length_singleton, List.length_nil]); omega)).mono ?_
  rintro e w2 ⟨rfl, hP2⟩
  have H2 : Hid (PW W0 b M ((X ++ [126]) ++ T) w2) := hP2
  clear c0 c1 c2 c3 c4
  obtain ⟨c0, c1, c2, c3, c4⟩ := HN.out.at_ hP2
  clear hP2
  have HF : Hid (PW W0 b M (X ++ (126 :: T)) w2) := by
    show PW _ _ _ _ _
    have := H2.out
    simpa only [List.append_assoc, List.cons_append, List.nil_append] using this
  clear H0 H1 H2
  go_wp2
  go_end0
  exact ⟨rfl, HF.out⟩

set_option maxHeartbeats 4000000 in
theorem put_repN {W0 w : World} {q b M place g off c : Nat} {mn mx : Int} {sv u : Value} {X T : List Nat} (hP : PW W0 b M X w) (hN : NodeC W0 q 6 sv mn mx (.slice (some ⟨g, off, none⟩) 1 c)) (hpl : place ≤ 4) (hw : place ≤ 3) (hX : X.length + ((T ++ timesB mn mx)).length ≤ 65536) (HB : Hid (KidC W0 b M u 3 T)) (hg : g < W0.heap.size) (HU : Hid (W0.cell? ⟨g, off, none⟩ = some u)) (hok : TimesOk mn mx) :
    Calls Tryz.prog 29 #[.pointer (some ⟨b, 0, none⟩), .pointer (some ⟨q, 0, none⟩), .int .i64 (place : Int)] w fun e w' => e = .returned (.tuple #[]) ∧ PW W0 b M (X ++ (T ++ timesB mn mx)) w' := by
  have HN : Hid (NodeC W0 q 6 sv mn mx (.slice (some ⟨g, off, none⟩) 1 c)) := hN
  have HL : Hid (Calls Tryz.prog 30 #[.pointer (some ⟨b, 0, none⟩)] w fun e w' => e = .returned (.int .i64 X.length) ∧ w' = w) := hP.len
  have HPl : Hid (∀ w', Calls Tryz.prog 54 #[.int .i64 6] w' fun e w'' => e = .returned (.int .i64 3) ∧ w'' = w') := place_any 6
  try simp only [List.length_append, List.length_cons, List.length_singleton, List.length_nil] at hX
  have hX1 : X.length ≤ 65536 := by omega
  have H0 : Hid (PW W0 b M X w) := hP
  obtain ⟨c0, c1, c2, c3, c4⟩ := hN.at_ hP
  have hqb : Hid True := trivial
  have HT : Hid (∀ w', Calls Tryz.prog 60 #[.int .i64 mn, .int .i64 mx] w' fun e w'' => e = .returned (.string (bytesB (timesB mn mx))) ∧ w'' = w') := wtimes_any hok
  clear hok
  clear hN hP
  go_enter Tryz.func29, Tryz.ntmps29
  go_wp2_with fail
  go_at_call 30
  refine HL.out.mono ?_
  rintro e w' ⟨rfl, rfl⟩
  clear HL
  go_wp2_with fail
  go_at_call 54
  refine (HPl.out _).mono ?_
  rintro e w' ⟨rfl, rfl⟩
  have hu := (H0.out.cell (p := ⟨g, off, none⟩) hg).trans HU.out
  go_wp2_with fail
  go_at_call 29
  refine (HB.out _ _ H0.out (by (try simp only [List.length_append, List.length_cons, List.length_singleton, List.length_nil]); omega)).mono ?_
  rintro e w1 ⟨rfl, hP1⟩
  have H1 : Hid (PW W0 b M (X ++ T) w1) := hP1
  clear c0 c1 c2 c3 c4
  obtain ⟨c0, c1, c2, c3, c4⟩ := HN.out.at_ hP1
  clear hP1
  clear hu
  have HSt : Hid (∀ w', PW W0 b M ((X ++ T)) w' → Calls Tryz.prog 56 #[.pointer (some ⟨b, 0, none⟩), .string (bytesB (timesB mn mx))] w' fun e w'' => (∃ n : Int, e = .returned (.tuple #[.int .i64 n, .nilIface])) ∧ PW W0 b M ((X ++ T) ++ timesB mn mx) w'') := fun w' h => h.str (timesB mn mx) (by (try simp only [List.length_append, List.length_cons, List.length_singleton, List.length_nil]); omega)
  have HCl : Hid (∀ w' Y, PW W0 b M Y w' → w'.cell? ⟨q, 2, none⟩ = some (.int .i64 mn) ∧ w'.cell? ⟨q, 3, none⟩ = some (.int .i64 mx)) := fun w' Y h => ⟨(HN.out.at_ h).2.2.1, (HN.out.at_ h).2.2.2.1⟩
  go_wp2_with fail
  go_region_held3 (fun w' => w'.cell? ⟨q, 2, none⟩ = some (.int .i64 mn) ∧ w'.cell? ⟨q, 3, none⟩ = some (.int .i64 mx)) (go_keep) ((first | (go_at_call 60; refine (HT.out _).mono ?_; rintro e w8 ⟨rfl, rfl⟩) | (go_at_call 56; refine (HSt.out _ ?_).mono ?_; exact H1.out.drew; rintro e w9 ⟨⟨n, rfl⟩, hP9⟩; have f2 := HCl.out w9 _ hP9; obtain ⟨f2, f3⟩ := f2)))
  all_goals
    have HF : Hid (PW W0 b M (X ++ (T ++ timesB mn mx)) w9) := by
      show PW _ _ _ _ _
      simpa only [List.append_assoc, List.cons_append, List.nil_append] using hP9
    clear H0 H1 hP9
    go_wp2
    go_end0
    exact ⟨rfl, HF.out⟩

set_option maxHeartbeats 4000000 in
theorem put_repW {W0 w : World} {q b M place g off c : Nat} {mn mx : Int} {sv u : Value} {X T : List Nat} (hP : PW W0 b M X w) (hN : NodeC W0 q 6 sv mn mx (.slice (some ⟨g, off, none⟩) 1 c)) (hpl : place ≤ 4) (hw : 3 < place) (hX : X.length + (40 :: ((T ++ timesB mn mx) ++ [41])).length ≤ 65536) (HB : Hid (KidC W0 b M u 3 T)) (hg : g < W0.heap.size) (HU : Hid (W0.cell? ⟨g, off, none⟩ = some u)) (hok : TimesOk mn mx) :
    Calls Tryz.prog 29 #[.pointer (some ⟨b, 0, none⟩), .pointer (some ⟨q, 0, none⟩), .int .i64 (place : Int)] w fun e w' => e = .returned (.tuple #[]) ∧ PW W0 b M (X ++ 40 :: ((T ++ timesB mn mx) ++ [41])) w' := by
  have HN : Hid (NodeC W0 q 6 sv mn mx (.slice (some ⟨g, off, none⟩) 1 c)) := hN
  have HL : Hid (Calls Tryz.prog 30 #[.pointer (some ⟨b, 0, none⟩)] w fun e w' => e = .returned (.int .i64 X.length) ∧ w' = w) := hP.len
  have HPl : Hid (∀ w', Calls Tryz.prog 54 #[.int .i64 6] w' fun e w'' => e = .returned (.int .i64 3) ∧ w'' = w') := place_any 6
  try simp only [List.length_append, List.length_cons, List.length_singleton, List.length_nil] at hX
  have hX1 : X.length ≤ 65536 := by omega
  have H0 : Hid (PW W0 b M X w) := hP
  obtain ⟨c0, c1, c2, c3, c4⟩ := hN.at_ hP
  have hqb : Hid True := trivial
  have HT : Hid (∀ w', Calls Tryz.prog 60 #[.int .i64 mn, .int .i64 mx] w' fun e w'' => e = .returned (.string (bytesB (timesB mn mx))) ∧ w'' = w') := wtimes_any hok
  clear hok
  clear hN hP
  go_enter Tryz.func29, Tryz.ntmps29
  go_wp2_with fail
  go_at_call 30
  refine HL.out.mono ?_
  rintro e w' ⟨rfl, rfl⟩
  clear HL
  go_wp2_with fail
  go_at_call 54
  refine (HPl.out _).mono ?_
  rintro e w' ⟨rfl, rfl⟩
  go_wp2_with fail
  go_at_call 55
  refine (H0.out.byte 40 (by omega) (by omega)).mono ?_
  rintro e w1 ⟨rfl, hP1⟩
  have H1 : Hid (PW W0 b M (X ++ [40]) w1) := hP1
  clear c0 c1 c2 c3 c4
  obtain ⟨c0, c1, c2, c3, c4⟩ := HN.out.at_ hP1
  clear hP1
  have hu := (H1.out.cell (p := ⟨g, off, none⟩) hg).trans HU.out
  go_wp2_with fail
  go_at_call 29
  refine (HB.out _ _ H1.out (by (try simp only [List.length_append, List.length_cons, List.length_singleton, List.length_nil]); omega)).mono ?_
  rintro e w2 ⟨rfl, hP2⟩
  have H2 : Hid (PW W0 b M ((X ++ [40]) ++ T) w2) := hP2
  clear c0 c1 c2 c3 c4
  obtain ⟨c0, c1, c2, c3, c4⟩ := HN.out.at_ hP2
  clear hP2
  clear hu
  have HSt : Hid (∀ w', PW W0 b M (((X ++ [40]) ++ T)) w' → Calls Tryz.prog 56 #[.pointer (some ⟨b, 0, none⟩), .string (bytesB (timesB mn mx))] w' fun e w'' => (∃ n : Int, e = .returned (.tuple #[.int .i64 n, .nilIface])) ∧ PW W0 b M (((X ++ [40]) ++ T) ++ timesB mn mx) w'') := fun w' h => h.str (timesB mn mx) (by (try simp only [List.length_append, List.length_cons, List.length_singleton, List.length_nil]); omega)
  have HCl : Hid (∀ w' Y, PW W0 b M Y w' → w'.cell? ⟨q, 2, none⟩ = some (.int .i64 mn) ∧ w'.cell? ⟨q, 3, none⟩ = some (.int .i64 mx)) := fun w' Y h => ⟨(HN.out.at_ h).2.2.1, (HN.out.at_ h).2.2.2.1⟩
  go_wp2_with fail
  go_region_held3 (fun w' => w'.cell? ⟨q, 2, none⟩ = some (.int .i64 mn) ∧ w'.cell? ⟨q, 3, none⟩ = some (.int .i64 mx)) (go_keep) ((first | (go_at_call 60; refine (HT.out _).mono ?_; rintro e w8 ⟨rfl, rfl⟩) | (go_at_call 56; refine (HSt.out _ ?_).mono ?_; exact H2.out.drew; rintro e w9 ⟨⟨n, rfl⟩, hP9⟩; have f2 := HCl.out w9 _ hP9; obtain ⟨f2, f3⟩ := f2)))
  all_goals
    have HQ : Hid (PW W0 b M (((X ++ [40]) ++ T) ++ timesB mn mx) w9) := hP9
    clear hP9 H0 H1 H2 c0 c1 c2 c3 c4
    go_wp2_with fail
    go_at_call 55
    refine (HQ.out.byte 41 (by omega) (by (try simp only [List.length_append, List.length_cons, List.length_singleton, List.length_nil]); omega)).mono ?_
    rintro e w10 ⟨rfl, hP10⟩
    have HF : Hid (PW W0 b M (X ++ 40 :: ((T ++ timesB mn mx) ++ [41])) w10) := by
      show PW _ _ _ _ _
      simpa only [List.append_assoc, List.cons_append, List.nil_append] using hP10
    clear hP10 HQ
    go_wp2
    go_end0
    exact ⟨rfl, HF.out⟩

end Go.Proofs.YtbjohedenfindaaGreatDoor

namespace Go.Proofs.YtbjohedenfindaaGreatDoor
open Go.RowKit
open Go.Maps (Keyed)
set_option linter.unusedVariables false
set_option maxRecDepth 100000

variable {mk : List Rg → Bool → List Rg}

theorem few_kid {B : Nat} {t x : Tm} (h : FewT B (reOf t)) (hx : x ∈ t.kids) : FewT B (reOf x) := fun n => by
  have h1 := (h (n + 1)).2
  rw [reOf_eq] at h1
  exact h1 (some (reOf x)) (by simp only; exact List.mem_map.2 ⟨_, List.mem_map.2 ⟨x, hx, rfl⟩, rfl⟩) _ rfl

/-- pieces of a row of kids -/
def KidsAt (W0 : World) (m : Nat) (ok : Nat → Prop) (kv : Value) (ks : List Tm) : Prop :=
  (ks = [] ∧ ∃ a c, kv = .slice a 0 c) ∨ ∃ g off c, kv = .slice (some ⟨g, off, none⟩) ks.length c ∧ g < W0.heap.size ∧ ∀ j, (hj : j < ks.length) → ∃ u, W0.cell? ⟨g, off + j, none⟩ = some u ∧ IsRe ok m W0 u (reOf ks[j])
theorem kidsAt_of {W0 : World} {m : Nat} {ok : Nat → Prop} {kv : Value} {ks : List Tm} (h : KidsR (fun u o => match o with | none => u = .pointer none | some k => IsRe ok m W0 u k) ok W0 kv ((ks.map reOf).map some)) : KidsAt W0 m ok kv ks := by
  rcases h with ⟨h1, h2⟩ | ⟨g, off, c, h1, h2, _, h4⟩
  · exact .inl ⟨by simpa using h1, h2⟩
  · simp only [List.length_map] at h1 h4
    refine .inr ⟨g, off, c, h1, h2, fun j hj => ?_⟩
    obtain ⟨u, hu, hp⟩ := h4 j hj
    have e : ((ks.map reOf).map some).getD j none = some (reOf ks[j]) := by simp [hj]
    rw [e] at hp
    exact ⟨u, hu, hp⟩

theorem put_all (MK : MkOk mk) {W0 : World} {b M : Nat} {ok : Nat → Prop} : ∀ (m : Nat) (t : Tm) (v : Value) (place : Nat), IsRe ok m W0 v (reOf t) → GoodT (reOf t) → FewT 9000 (reOf t) → place ≤ 4 → KidC W0 b M v place (wrT mk t place)
  | 0, _, _, _, h, _, _, _ => h.elim
  | m + 1, t, v, place, h, hG, hF, hpl => by
    have er : reOf t = ⟨t.kind, t.set, t.mn, t.mx, (t.kids.map reOf).map some⟩ := reOf_eq t
    have hno : NodeOk (reOf t) := (hG 1).1
    have hfew : (reOf t).set.length ≤ 9000 := (hF 1).1
    have hkG : ∀ x ∈ t.kids, GoodT (reOf x) := fun x hx => good_kid hG hx
    have hkF : ∀ x ∈ t.kids, FewT 9000 (reOf x) := fun x hx => few_kid hF hx
    obtain ⟨q, sv, kv, rfl, hok, hnode, hset, hkids⟩ := h
    rw [er] at hno hfew hnode hset hkids
    simp only at hno hfew hnode hset hkids
    have hK := kidsAt_of hkids
    have hq : q < W0.heap.size := (Array.getElem?_eq_some_iff.1 hnode).1
    have hN : NodeC W0 q t.kind sv t.mn t.mx kv := ⟨hq, by simp [World.cell?, hnode], by simp [World.cell?, hnode], by simp [World.cell?, hnode], by simp [World.cell?, hnode], by simp [World.cell?, hnode]⟩
    have ih : ∀ pl, pl ≤ 4 → ∀ x ∈ t.kids, ∀ u, IsRe ok m W0 u (reOf x) → KidC W0 b M u pl (wrT mk x pl) := fun pl hp x hx u hu => put_all MK m x u pl hu (hkG x hx) (hkF x hx) hp
    clear hkids hkG hkF hG hF er hnode
    rw [wrT_eq]
    obtain ⟨k, s, a, c, ks⟩ := t
    simp only at *
    have kidC : ∀ pl, pl ≤ 4 → ∀ {g off cc : Nat}, (∀ j, (hj : j < ks.length) → ∃ u, W0.cell? ⟨g, off + j, none⟩ = some u ∧ IsRe ok m W0 u (reOf ks[j])) → ∀ j, j < (ks.map fun x => wrT mk x pl).length → ∃ u, W0.cell? ⟨g, off + j, none⟩ = some u ∧ KidC W0 b M u pl ((ks.map fun x => wrT mk x pl).getD j []) := fun pl hp g off cc hk j hj => by
      rw [List.length_map] at hj
      obtain ⟨u, hu, hr⟩ := hk j hj
      refine ⟨u, hu, ?_⟩
      have e : (ks.map fun x => wrT mk x pl).getD j [] = wrT mk ks[j] pl := by simp [hj]
      rw [e]
      exact ih pl hp _ (List.getElem_mem hj) u hr
    intro X w hP hX
    rcases hno with ⟨rfl, hk0, rfl, rfl, hcan, _⟩ | ⟨rfl, hk1, hk2, rfl, rfl, rfl⟩ | ⟨hk34, hk1, hk2, rfl, rfl, rfl⟩ | ⟨rfl, hk1, rfl, rfl, rfl⟩ | ⟨rfl, hk1, hmn, hmn2, hmx, rfl⟩
    · have e : wrapB (placeK 1) place (bodyB mk 1 s 0 0 (ks.map (wrT mk))) = setB mk s := by
        unfold wrapB bodyB
        rw [if_neg (by show ¬ 4 < place; omega), if_pos rfl]
      rw [e] at hX ⊢
      exact put_setN hP hN hpl hpl hX fun X' w' h' => (wset_any MK h'.env h'.bld.lt sv s hfew (hset.rngs.below h'.bel) (canon_ok hcan)).mono fun e w'' hh => ⟨hh.1, h'.below hh.2⟩
    · simp only [List.length_map] at hk1 hk2
      have e : bodyB mk 2 [] 0 0 (ks.map (wrT mk)) = if ks.length = 0 then [40, 41] else (ks.map fun x => wrT mk x 3).flatten := by
        unfold bodyB
        rw [if_neg (by decide), if_pos rfl, List.length_map, List.map_map]; rfl
      rw [e] at hX ⊢
      have HB : WrC W0 b M 58 #[.pointer (some ⟨b, 0, none⟩), kv] (.returned (.tuple #[])) (if ks.length = 0 then [40, 41] else (ks.map fun x => wrT mk x 3).flatten) := by
        intro X' w' h' hl'
        by_cases h0 : ks.length = 0
        · have : ks = [] := by simpa using h0
          subst this
          rw [if_pos h0] at hl' ⊢
          have hs : ∃ a c, kv = .slice a 0 c := by
            rcases hK with ⟨_, h⟩ | ⟨g, off, c, h, _⟩
            · exact h
            · exact ⟨_, _, h⟩
          obtain ⟨a, c, rfl⟩ := hs
          exact wrow_none h' (by omega) a c
        · rw [if_neg h0] at hl' ⊢
          rcases hK with ⟨h, _⟩ | ⟨g, off, c, rfl, hg, hk⟩
          · rw [h] at h0; simp at h0
          · have := wrow_some h' g off c (ks.map fun x => wrT mk x 3) (by rw [List.length_map]; omega) (by rw [List.length_map]; omega) hg (kidC 3 (by omega) (cc := c) hk) hl'
            rwa [List.length_map] at this
      unfold wrapB at hX ⊢
      by_cases hw : placeK 2 < place
      · rw [if_pos hw] at hX ⊢
        exact put_rowW hP hN hpl hw hX HB
      · rw [if_neg hw] at hX ⊢
        exact put_rowN hP hN hpl (Nat.le_of_not_lt hw) hX HB
    · simp only [List.length_map] at hk1 hk2
      rcases hK with ⟨h, _⟩ | ⟨g, off, c, rfl, hg, hk⟩
      · rw [h] at hk1; simp at hk1
      · rcases hk34 with rfl | rfl
        · have e : bodyB mk 3 [] 0 0 (ks.map (wrT mk)) = joinB 124 (ks.map fun x => wrT mk x 1) := by
            unfold bodyB
            rw [if_neg (by decide), if_neg (by decide), if_pos rfl, List.map_map]; rfl
          rw [e] at hX ⊢
          have HB : WrC W0 b M 59 #[.pointer (some ⟨b, 0, none⟩), .slice (some ⟨g, off, none⟩) ks.length c, .int .u8 124, .int .i64 1] (.returned (.tuple #[])) (joinB 124 (ks.map fun x => wrT mk x 1)) := by
            intro X' w' h' hl'
            have := wbetween_any h' g off c 124 1 (by omega) (by omega) (ks.map fun x => wrT mk x 1) (by rw [List.length_map]; omega) hg (kidC 1 (by omega) (cc := c) hk) hl'
            rwa [List.length_map] at this
          unfold wrapB at hX ⊢
          by_cases hw : placeK 3 < place
          · rw [if_pos hw] at hX ⊢
            exact put_orW hP hN hpl hw hX HB
          · rw [if_neg hw] at hX ⊢
            exact put_orN hP hN hpl (Nat.le_of_not_lt hw) hX HB
        · have e : bodyB mk 4 [] 0 0 (ks.map (wrT mk)) = joinB 38 (ks.map fun x => wrT mk x 2) := by
            unfold bodyB
            rw [if_neg (by decide), if_neg (by decide), if_neg (by decide), if_pos rfl, List.map_map]; rfl
          rw [e] at hX ⊢
          have HB : WrC W0 b M 59 #[.pointer (some ⟨b, 0, none⟩), .slice (some ⟨g, off, none⟩) ks.length c, .int .u8 38, .int .i64 2] (.returned (.tuple #[])) (joinB 38 (ks.map fun x => wrT mk x 2)) := by
            intro X' w' h' hl'
            have := wbetween_any h' g off c 38 2 (by omega) (by omega) (ks.map fun x => wrT mk x 2) (by rw [List.length_map]; omega) hg (kidC 2 (by omega) (cc := c) hk) hl'
            rwa [List.length_map] at this
          unfold wrapB at hX ⊢
          by_cases hw : placeK 4 < place
          · rw [if_pos hw] at hX ⊢
            exact put_andW hP hN hpl hw hX HB
          · rw [if_neg hw] at hX ⊢
            exact put_andN hP hN hpl (Nat.le_of_not_lt hw) hX HB
    · simp only [List.length_map] at hk1
      obtain ⟨x, rfl⟩ := List.length_eq_one_iff.1 hk1
      rcases hK with ⟨h, _⟩ | ⟨g, off, c, rfl, hg, hk⟩
      · cases h
      · obtain ⟨u, hu, hr⟩ := hk 0 (by simp)
        have hC := ih 4 (by omega) x (by simp) u hr
        have e : wrapB (placeK 5) place (bodyB mk 5 [] 0 0 ([x].map (wrT mk))) = 126 :: wrT mk x 4 := by
          unfold wrapB bodyB
          rw [if_neg (by show ¬ 4 < place; omega), if_neg (by decide), if_neg (by decide), if_neg (by decide), if_neg (by decide), if_pos rfl]; simp
        rw [e] at hX ⊢
        exact put_notN hP hN hpl hpl hX hC hg hu
    · simp only [List.length_map] at hk1
      obtain ⟨x, rfl⟩ := List.length_eq_one_iff.1 hk1
      rcases hK with ⟨h, _⟩ | ⟨g, off, c', rfl, hg, hk⟩
      · cases h
      · obtain ⟨u, hu, hr⟩ := hk 0 (by simp)
        have hC := ih 3 (by omega) x (by simp) u hr
        have hto : TimesOk a c := ⟨hmn, hmn2, by omega⟩
        have e : bodyB mk 6 [] a c ([x].map (wrT mk)) = wrT mk x 3 ++ timesB a c := by
          unfold bodyB
          rw [if_neg (by decide), if_neg (by decide), if_neg (by decide), if_neg (by decide), if_neg (by decide)]; simp
        rw [e] at hX ⊢
        unfold wrapB at hX ⊢
        by_cases hw : placeK 6 < place
        · rw [if_pos hw] at hX ⊢
          exact put_repW hP hN hpl hw hX hC hg hu hto
        · rw [if_neg hw] at hX ⊢
          exact put_repN hP hN hpl (Nat.le_of_not_lt hw) hX hC hg hu hto
end Go.Proofs.YtbjohedenfindaaGreatDoor
