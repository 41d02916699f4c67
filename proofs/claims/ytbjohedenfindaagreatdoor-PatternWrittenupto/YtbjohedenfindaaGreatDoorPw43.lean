/- Texts of the proof, put together: WPut. -/
import Derived.Test.YtbjohedenfindaaGreatDoorPw42
import Derived.Test.YtbjohedenfindaaGreatDoorPw12
namespace Go.Proofs.YtbjohedenfindaaGreatDoor
open Go.RowKit
open Go.Maps (Keyed)
set_option linter.unusedVariables false
set_option maxRecDepth 100000

/-- a writer that has written these bytes -/
structure PW (W0 : World) (b M : Nat) (X : List Nat) (w : World) : Prop where
  bld : Bld W0.heap.size b 73 [.map (some M)] (bc X) w
  bel : Below W0.heap.size W0 w
  sgn : SgnMap w M
  ne : M ≠ b
  db : W0.cell? ⟨13, 15, none⟩ = some (.int .u8 4)
  big : 16 ≤ W0.heap.size
theorem PW.below {W0 w w' : World} {b M : Nat} {X : List Nat} (h : PW W0 b M X w) (hb : Below w.heap.size w w') : PW W0 b M X w' :=
  ⟨h.bld.below hb, h.bel.trans (hb.mono h.bel.size), h.sgn.below hb h.sgn.lt, h.ne, h.db, h.big⟩
theorem PW.put {W0 w w' : World} {b M : Nat} {X Y : List Nat} (h : PW W0 b M X w) (hB : BldU W0.heap.size b 73 [.map (some M)] (bc Y) w') (hF : BFr W0.heap.size b w w') : PW W0 b M Y w' := by
  refine ⟨hB.bld, h.bel.trans hF.1, ?_, h.ne, h.db, h.big⟩
  obtain ⟨n, D, hn, ⟨es, clock, h1, h2⟩, hD⟩ := h.sgn
  exact ⟨n, D, hn, ⟨es, clock, hF.2 M _ h1 (fun e => h.ne (Option.some.inj e)) (fun c fz e => by cases e), h2⟩, hD⟩
theorem PW.env {W0 w : World} {b M : Nat} {X : List Nat} (h : PW W0 b M X w) : WrEnv w b M := by
  refine ⟨?_, h.sgn, (h.bel.cell (p := ⟨13, 15, none⟩) (by show 13 < _; have := h.big; omega)).trans h.db, by have := h.big; have := h.bel.size; omega⟩
  obtain ⟨_, _, p, v, hb, _⟩ := h.bld
  rw [Lib.cell_of_heap hb]; simp
theorem PW.cell {W0 w : World} {b M : Nat} {X : List Nat} (h : PW W0 b M X w) {p : Addr} (hp : p.block < W0.heap.size) : w.cell? p = W0.cell? p := h.bel.cell hp
theorem PW.byte {W0 w : World} {b M : Nat} {X : List Nat} (h : PW W0 b M X w) (c : Nat) (hc : c < 256) (hl : X.length ≤ 1000000) :
    Calls Tryz.prog 55 #[.pointer (some ⟨b, 0, none⟩), .int .u8 (c : Int)] w fun e w' => e = .returned .nilIface ∧ PW W0 b M (X ++ [c]) w' := by
  refine (wbyte_any (c : Int) h.bld (by rw [bc_len]; exact hl) h.bel.size).mono ?_
  rintro e w' ⟨rfl, hB, hF⟩
  rw [bc_one c hc, bc_app] at hB
  exact ⟨rfl, h.put hB hF⟩
theorem PW.str {W0 w : World} {b M : Nat} {X : List Nat} (h : PW W0 b M X w) (y : List Nat) (hl : X.length + y.length ≤ 1000000) :
    Calls Tryz.prog 56 #[.pointer (some ⟨b, 0, none⟩), .string (bytesB y)] w fun e w' => (∃ n : Int, e = .returned (.tuple #[.int .i64 n, .nilIface])) ∧ PW W0 b M (X ++ y) w' := by
  refine (wstr_any (bytesB y) h.bld (by rw [bc_len, bytesB_size]; exact hl) h.bel.size).mono ?_
  rintro e w' ⟨he, hB, hF⟩
  rw [bc_str, bc_app] at hB
  exact ⟨he, h.put hB hF⟩
theorem PW.len {W0 w : World} {b M : Nat} {X : List Nat} (h : PW W0 b M X w) :
    Calls Tryz.prog 30 #[.pointer (some ⟨b, 0, none⟩)] w fun e w' => e = .returned (.int .i64 X.length) ∧ w' = w := by
  have := blen_any h.bld
  rwa [bc_len] at this

/-- what is written of a pattern at a place -/
def KidC (W0 : World) (b M : Nat) (u : Value) (pl : Nat) (T : List Nat) : Prop := ∀ X w, PW W0 b M X w → X.length + T.length ≤ 65536 → Calls Tryz.prog 29 #[.pointer (some ⟨b, 0, none⟩), u, .int .i64 (pl : Int)] w fun e w' => e = .returned (.tuple #[]) ∧ PW W0 b M (X ++ T) w'

theorem flat_take {α : Type} (ts : List (List α)) (k : Nat) (h : k < ts.length) : (ts.take (k + 1)).flatten = (ts.take k).flatten ++ ts.getD k [] := by
  have e : ts.getD k [] = ts[k] := by simp [h]
  rw [e, List.take_succ_eq_append_getElem h, List.flatten_append]
  simp
theorem wflat_len {α : Type} (ts : List (List α)) (k : Nat) : (ts.take k).flatten.length ≤ ts.flatten.length := by
  conv => rhs; rw [← List.take_append_drop k ts]
  rw [List.flatten_append, List.length_append]; omega
theorem join_take (c : Nat) : ∀ (ts : List (List Nat)) (k : Nat) (h : k < ts.length), joinB c (ts.take (k + 1)) = (joinB c (ts.take k) ++ (if k = 0 then [] else [c])) ++ ts.getD k []
  | [], k, h => by simp at h
  | x :: t, 0, h => by simp [joinB]
  | x :: t, k + 1, h => by
    simp only [List.length_cons] at h
    have hk : k < t.length := by omega
    rw [List.take_succ_cons, List.take_succ_cons, if_neg (by omega)]
    have e : (x :: t).getD (k + 1) [] = t[k] := by simp [hk]
    rw [e]
    simp only [joinB]
    rw [List.take_succ_eq_append_getElem hk, List.map_append, List.flatten_append]
    simp only [List.map_cons, List.map_nil, List.flatten_cons, List.flatten_nil, List.append_nil, List.append_assoc, List.cons_append, List.nil_append]
theorem wjoin_len (c : Nat) (ts : List (List Nat)) (k : Nat) : (joinB c (ts.take k)).length ≤ (joinB c ts).length := by
  cases ts with
  | nil => simp
  | cons x t =>
    cases k with
    | zero => simp [joinB]
    | succ k =>
      rw [List.take_succ_cons]
      simp only [joinB, List.length_append]
      have := wflat_len (t.map fun y => c :: y) k
      rw [← List.map_take] at this
      omega

set_option maxHeartbeats 2000000 in
theorem place_any (k : Int) (w : World) : Calls Tryz.prog 54 #[.int .i64 k] w fun e w' => e = .returned (.int .i64 (placeK k : Nat)) ∧ w' = w := by
  by_cases h3 : k = 3
  · subst h3
    go_enter Tryz.func54, Tryz.ntmps54
    go_wp2
    go_ret
    exact ⟨rfl, rfl⟩
  · by_cases h4 : k = 4
    · subst h4
      go_enter Tryz.func54, Tryz.ntmps54
      go_wp2
      go_ret
      exact ⟨rfl, rfl⟩
    · by_cases h2 : k = 2
      · subst h2
        go_enter Tryz.func54, Tryz.ntmps54
        go_wp2
        go_ret
        exact ⟨rfl, rfl⟩
      · by_cases h6 : k = 6
        · subst h6
          go_enter Tryz.func54, Tryz.ntmps54
          go_wp2
          go_ret
          exact ⟨rfl, rfl⟩
        · have e : placeK k = 4 := by unfold placeK; rw [if_neg h3, if_neg h4, if_neg h2, if_neg h6]
          rw [e]
          have n3 : (k == 3) = false := by rw [beq_eq_false_iff_ne]; exact h3
          have n4 : (k == 4) = false := by rw [beq_eq_false_iff_ne]; exact h4
          have n2 : (k == 2) = false := by rw [beq_eq_false_iff_ne]; exact h2
          have n6 : (k == 6) = false := by rw [beq_eq_false_iff_ne]; exact h6
          clear h2 h3 h4 h6 e
          go_enter Tryz.func54, Tryz.ntmps54
          go_wp2
          go_ret
          exact ⟨rfl, rfl⟩

set_option maxHeartbeats 2000000 in
theorem wrow_none {W0 w : World} {b M : Nat} {X : List Nat} (h : PW W0 b M X w) (hX : X.length ≤ 65536) (a : Option Addr) (c : Nat) :
    Calls Tryz.prog 58 #[.pointer (some ⟨b, 0, none⟩), .slice a 0 c] w fun e w' => e = .returned (.tuple #[]) ∧ PW W0 b M (X ++ [40, 41]) w' := by
  have HS : Hid (Calls Tryz.prog 56 #[.pointer (some ⟨b, 0, none⟩), .string ⟨#[40, 41]⟩] w fun e w' => (∃ n : Int, e = .returned (.tuple #[.int .i64 n, .nilIface])) ∧ PW W0 b M (X ++ [40, 41]) w') := h.str [40, 41] (by simp; omega)
  have hb := h.bld.lt
  clear h
  go_enter Tryz.func58, Tryz.ntmps58
  go_wp2_with fail
  go_at_call 56
  refine HS.out.mono ?_
  rintro e w1 ⟨⟨n, rfl⟩, hP⟩
  have HP : Hid (PW W0 b M (X ++ [40, 41]) w1) := hP
  clear hP
  go_wp2
  refine wp_loop_rounds 1 ?_
  rw [rounds_succ]
  go_wp2
  go_end0
  exact ⟨rfl, HP.out⟩

set_option maxHeartbeats 2000000 in
theorem wrow_some {W0 w : World} {b M : Nat} {X : List Nat} (h : PW W0 b M X w) (g off c : Nat) (ts : List (List Nat)) (hn : 1 ≤ ts.length) (hn2 : ts.length ≤ 10000000) (hg : g < W0.heap.size) (hk : ∀ j, j < ts.length → ∃ u, W0.cell? ⟨g, off + j, none⟩ = some u ∧ KidC W0 b M u 3 (ts.getD j [])) (hX : X.length + ts.flatten.length ≤ 65536) :
    Calls Tryz.prog 58 #[.pointer (some ⟨b, 0, none⟩), .slice (some ⟨g, off, none⟩) ts.length c] w fun e w' => e = .returned (.tuple #[]) ∧ PW W0 b M (X ++ ts.flatten) w' := by
  have HK : Hid (∀ j, j < ts.length → ∃ u, W0.cell? ⟨g, off + j, none⟩ = some u ∧ KidC W0 b M u 3 (ts.getD j [])) := hk
  have H0 : Hid (PW W0 b M X w) := h
  clear hk h
  have hnz : ((ts.length : Int) == 0) = false := by rw [beq_eq_false_iff_ne]; omega
  go_enter Tryz.func58, Tryz.ntmps58
  go_wp2
  go_loopw [15] (fun kv wr => ∃ (k : Nat), k ≤ ts.length ∧ kv = .int .i64 k ∧ PW W0 b M (X ++ (ts.take k).flatten) wr) (fun kv _ => ts.length - (intOf kv).toNat)
  case atStart => exact ⟨0, Nat.zero_le _, rfl, by simpa using H0.out⟩
  case round =>
    obtain ⟨k, hk, rfl, hP⟩ := hrel
    by_cases hlt : k < ts.length
    · obtain ⟨u, hu, hC⟩ := HK.out k hlt
      have hc := (hP.cell (p := ⟨g, off + k, none⟩) hg).trans hu
      have hl := wflat_len ts (k + 1)
      have e := flat_take ts k hlt
      have hCall := hC _ _ hP (by rw [e, List.length_append] at hl; rw [List.length_append]; omega)
      rw [List.append_assoc, ← e] at hCall
      have HC : Hid (Calls Tryz.prog 29 #[.pointer (some ⟨b, 0, none⟩), u, .int .i64 3] wr fun e w' => e = .returned (.tuple #[]) ∧ PW W0 b M (X ++ (ts.take (k + 1)).flatten) w') := hCall
      clear hC hCall hu hP e
      go_wp2_with fail
      go_at_call 29
      refine HC.out.mono ?_
      rintro e w1 ⟨rfl, hP1⟩
      have HP1 : Hid (PW W0 b M (X ++ (ts.take (k + 1)).flatten) w1) := hP1
      clear hP1
      go_wp2
      go_roundw
      case rel => exact ⟨k + 1, by omega, by go_num, HP1.out⟩
      case measure => simp [intOf]; omega
    · rw [List.take_of_length_le (by omega)] at hP
      have HP : Hid (PW W0 b M (X ++ ts.flatten) wr) := hP
      clear hP
      go_wp2
      go_end0
      exact ⟨rfl, HP.out⟩

set_option maxHeartbeats 2000000 in
theorem wbetween_any {W0 w : World} {b M : Nat} {X : List Nat} (h : PW W0 b M X w) (g off c s pl : Nat) (hs : s < 256) (hpl : pl ≤ 4) (ts : List (List Nat)) (hn2 : ts.length ≤ 10000000) (hg : g < W0.heap.size) (hk : ∀ j, j < ts.length → ∃ u, W0.cell? ⟨g, off + j, none⟩ = some u ∧ KidC W0 b M u pl (ts.getD j [])) (hX : X.length + (joinB s ts).length ≤ 65536) :
    Calls Tryz.prog 59 #[.pointer (some ⟨b, 0, none⟩), .slice (some ⟨g, off, none⟩) ts.length c, .int .u8 (s : Int), .int .i64 (pl : Int)] w fun e w' => e = .returned (.tuple #[]) ∧ PW W0 b M (X ++ joinB s ts) w' := by
  have HK : Hid (∀ j, j < ts.length → ∃ u, W0.cell? ⟨g, off + j, none⟩ = some u ∧ KidC W0 b M u pl (ts.getD j [])) := hk
  have H0 : Hid (PW W0 b M X w) := h
  clear hk h
  go_enter Tryz.func59, Tryz.ntmps59
  go_wp2
  go_loopw [12] (fun kv wr => ∃ (k : Nat), k ≤ ts.length ∧ kv = .int .i64 k ∧ PW W0 b M (X ++ joinB s (ts.take k)) wr) (fun kv _ => ts.length - (intOf kv).toNat)
  case atStart => exact ⟨0, Nat.zero_le _, rfl, by simpa [joinB] using H0.out⟩
  case round =>
    obtain ⟨k, hk, rfl, hP⟩ := hrel
    by_cases hlt : k < ts.length
    · obtain ⟨u, hu, hC⟩ := HK.out k hlt
      have hc := (hP.cell (p := ⟨g, off + k, none⟩) hg).trans hu
      have hl := wjoin_len s ts (k + 1)
      have e := join_take s ts k hlt
      have hl2 := hl
      rw [e, List.length_append, List.length_append] at hl2
      by_cases h0 : k = 0
      · have hCall := hC _ _ hP (by rw [List.length_append]; omega)
        rw [if_pos h0, List.append_nil] at e
        rw [List.append_assoc, ← e] at hCall
        have HC : Hid (Calls Tryz.prog 29 #[.pointer (some ⟨b, 0, none⟩), u, .int .i64 (pl : Int)] wr fun e w' => e = .returned (.tuple #[]) ∧ PW W0 b M (X ++ joinB s (ts.take (k + 1))) w') := hCall
        clear hC hCall hu hP e hl2
        have h00 : k ≤ 0 := by omega
        clear h0
        go_wp2_with fail
        go_at_call 29
        refine HC.out.mono ?_
        rintro e w1 ⟨rfl, hP1⟩
        have HP1 : Hid (PW W0 b M (X ++ joinB s (ts.take (k + 1))) w1) := hP1
        clear hP1
        go_wp2
        go_roundw
        case rel => exact ⟨k + 1, by omega, by go_num, HP1.out⟩
        case measure => simp [intOf]; omega
      · rw [if_neg h0] at e hl2
        simp only [List.length_singleton] at hl2
        have hB := hP.byte s hs (by rw [List.length_append]; omega)
        have HB : Hid (Calls Tryz.prog 55 #[.pointer (some ⟨b, 0, none⟩), .int .u8 (s : Int)] wr fun e w' => e = .returned .nilIface ∧ PW W0 b M ((X ++ joinB s (ts.take k)) ++ [s]) w') := hB
        have HC : Hid (∀ w', PW W0 b M ((X ++ joinB s (ts.take k)) ++ [s]) w' → Calls Tryz.prog 29 #[.pointer (some ⟨b, 0, none⟩), u, .int .i64 (pl : Int)] w' fun e w'' => e = .returned (.tuple #[]) ∧ PW W0 b M (X ++ joinB s (ts.take (k + 1))) w'') := fun w' h => by
          have := hC _ _ h (by rw [List.length_append, List.length_append, List.length_singleton]; omega)
          rw [e]
          simpa only [List.append_assoc] using this
        have hkp : 0 < k := by omega
        clear hC hB hu hP e hl2 h0
        go_wp2_with fail
        go_at_call 55
        refine HB.out.mono ?_
        rintro e w1 ⟨rfl, hP1⟩
        have HP1 : Hid (PW W0 b M ((X ++ joinB s (ts.take k)) ++ [s]) w1) := hP1
        clear hP1 HB hc
        go_wp2_with fail
        go_at_call 29
        refine (HC.out _ HP1.out).mono ?_
        rintro e w2 ⟨rfl, hP2⟩
        have HP2 : Hid (PW W0 b M (X ++ joinB s (ts.take (k + 1))) w2) := hP2
        clear hP2 HP1
        go_wp2
        go_roundw
        case rel => exact ⟨k + 1, by omega, by go_num, HP2.out⟩
        case measure => simp [intOf]; omega
    · rw [List.take_of_length_le (by omega)] at hP
      have HP : Hid (PW W0 b M (X ++ joinB s ts) wr) := hP
      clear hP
      go_wp2
      go_end0
      exact ⟨rfl, HP.out⟩
end Go.Proofs.YtbjohedenfindaaGreatDoor
