/- Texts of the proof, put together: WNum. -/
import Derived.Test.YtbjohedenfindaaGreatDoorPw35
import Derived.Test.YtbjohedenfindaaGreatDoorPw10
import Derived.Laws.Bits64b
import Derived.Laws.Runes
import Derived.Laws.BytesString
import Derived.Laws.IdiomStrings
import Derived.WalkKit
import Derived.WalkSpells
import Derived.WalkLawsBesides
import Derived.Below
namespace Go.Proofs.YtbjohedenfindaaGreatDoor
open Go.RowKit
set_option linter.unusedVariables false
set_option maxRecDepth 100000

set_option maxHeartbeats 2000000 in
theorem tz64_16 (w : World) (hc : w.cell? ⟨13, 15, none⟩ = some (.int .u8 4)) : Calls Tryz.prog 176 #[.int .u64 16] w fun e w' => e = .returned (.int .i64 4) ∧ w' = w := by
  have hx : IntKind.u64.wrap (bits BinOp.and IntKind.u64 16 (IntKind.u64.wrap (-16)) * 285870213051353865) / 288230376151711744 = 15 := by decide +kernel
  go_enter Tryz.func176, Tryz.ntmps176
  go_wp2
  go_ret
  exact ⟨rfl, rfl⟩
set_option maxHeartbeats 2000000 in
theorem tz_16 (w : World) (hc : w.cell? ⟨13, 15, none⟩ = some (.int .u8 4)) : Calls Tryz.prog 165 #[.int .u64 16] w fun e w' => e = .returned (.int .i64 4) ∧ w' = w := by
  have H : Hid (Calls Tryz.prog 176 #[.int .u64 16] w fun e w' => e = .returned (.int .i64 4) ∧ w' = w) := tz64_16 w hc
  clear hc
  go_enter Tryz.func165, Tryz.ntmps165
  go_wp2_with fail
  go_at_call 176
  refine H.out.mono ?_
  rintro e w' ⟨rfl, rfl⟩
  go_wp2
  go_ret
  exact ⟨rfl, rfl⟩
set_option maxHeartbeats 2000000 in
theorem isPow_16 (w : World) : Calls Tryz.prog 164 #[.int .i64 16] w fun e w' => e = .returned (.bool true) ∧ w' = w := by
  have hx : bits BinOp.and IntKind.i64 16 15 = 0 := by decide +kernel
  go_enter Tryz.func164, Tryz.ntmps164
  go_wp2
  go_ret
  exact ⟨by first | rfl | simp, rfl⟩
theorem and_15 (u : Int) (h0 : 0 ≤ u) (h1 : u < 18446744073709551616) : bits BinOp.and IntKind.u64 u 15 = u % 16 := by
  obtain ⟨n, rfl⟩ := Int.eq_ofNat_of_zero_le h0
  have := bits_and_u64_nat n 15 (by omega) (by omega)
  rw [show ((15 : Nat) : Int) = 15 from rfl] at this
  rw [this, show (15 : Nat) = 2 ^ 4 - 1 by rfl, Nat.and_two_pow_sub_one_eq_mod]
  omega
def digitsB : ByteArray := ⟨#[48, 49, 50, 51, 52, 53, 54, 55, 56, 57, 97, 98, 99, 100, 101, 102, 103, 104, 105, 106, 107, 108, 109, 110, 111, 112, 113, 114, 115, 116, 117, 118, 119, 120, 121, 122]⟩

/-- the digits so far, at the end of a buffer of 65 bytes -/
structure Buf (w0 : World) (A : Nat) (lows : List Nat) (w : World) : Prop where
  cells : ∀ j, j < 65 → ∃ x, w.cell? ⟨A, j, none⟩ = some x
  fz : ∀ j, w.frozen? ⟨A, j, none⟩ = false
  low : ∀ j, j < lows.length → w.cell? ⟨A, 65 - lows.length + j, none⟩ = some (.int .u8 (lows.getD j 0 : Nat))
  bel : Below A w0 w
theorem Buf.put {w0 w : World} {A m d : Nat} {lows : List Nat} (h : Buf w0 A lows w) (hm : lows.length + (m + 1) = 65) : Buf w0 A (d :: lows) (w.setCell ⟨A, m, none⟩ (.int .u8 (d : Int))) := by
  obtain ⟨x, hx⟩ := h.cells m (by omega)
  refine ⟨fun j hj => ?_, fun j => by rw [World.frozen?_setCell]; exact h.fz j, fun j hj => ?_, h.bel.setCell (p := ⟨A, m, none⟩) (Nat.le_refl _) _⟩
  · by_cases hjm : j = m
    · subst hjm; exact ⟨_, World.cell?_setCell_same _ _ _ hx⟩
    · obtain ⟨y, hy⟩ := h.cells j hj
      exact ⟨y, by rw [World.cell?_setCell_other _ _ _ _ (by first | (simp; done) | (simp; exact hjm))]; exact hy⟩
  · simp only [List.length_cons] at hj ⊢
    cases j with
    | zero =>
      have : 65 - (lows.length + 1) + 0 = m := by omega
      rw [this]
      exact World.cell?_setCell_same _ _ _ hx
    | succ j =>
      rw [World.cell?_setCell_other _ _ _ _ (by intro e; injection e with _ e2 _; omega)]
      have := h.low j (by omega)
      rw [show 65 - (lows.length + 1) + (j + 1) = 65 - lows.length + j by omega, this]
      simp

theorem dig_all : ∀ q : Fin 16, (digitsB[q.1]'(by have := q.2; show q.1 < 36; omega)).toNat = hexD q.1 := by decide +kernel
theorem dig_at (q : Nat) (h : q < 36) (h2 : q < 16) : (digitsB[q]'h).toNat = hexD q := dig_all ⟨q, h2⟩
theorem hexB_lt : ∀ (f n : Nat), ∀ x ∈ hexB f n, x < 128
  | 0, n, x, hx => by simp [hexB] at hx
  | f + 1, n, x, hx => by
    unfold hexB at hx
    split at hx
    · rename_i h
      rw [List.mem_singleton.1 hx]
      exact (hexD_of n h).2
    · rcases List.mem_append.1 hx with hx | hx
      · exact hexB_lt f (n / 16) x hx
      · rw [List.mem_singleton.1 hx]
        exact (hexD_of (n % 16) (by omega)).2
theorem hexB_step (f u : Nat) (h : 16 ≤ u) : hexB (f + 1) u = hexB f (u / 16) ++ [hexD (u % 16)] := by rw [hexB, if_neg (by omega)]

set_option maxHeartbeats 4000000 in
theorem formatBits_16 (c : Nat) (hc : c ≤ 1114111) (w : World) (hd : w.cell? ⟨13, 15, none⟩ = some (.int .u8 4)) (h16 : 16 ≤ w.heap.size) :
    Calls Tryz.prog 150 #[.slice none 0 0, .int .u64 c, .int .i64 16, .bool false, .bool false] w fun e w' => (∃ v, e = .returned (.tuple #[v, .string ⟨((hexT c).map Nat.toUInt8).toArray⟩])) ∧ Below w.heap.size w w' := by
  have HT : Hid (∀ w', Below w.heap.size w w' → Calls Tryz.prog 165 #[.int .u64 16] w' fun e w'' => e = .returned (.int .i64 4) ∧ w'' = w') := fun w' hb => tz_16 w' ((hb.cell (p := ⟨13, 15, none⟩) (by show 13 < _; omega)).trans hd)
  go_enter Tryz.func150, Tryz.ntmps150
  go_wp2_with fail
  go_at_call 164
  refine (isPow_16 _).mono ?_
  rintro e w1 ⟨rfl, rfl⟩
  go_wp2_with fail
  go_at_call 165
  refine (HT.out _ ((Below.refl _ w).alloc (Nat.le_refl _) _)).mono ?_
  rintro e w1 ⟨rfl, rfl⟩
  go_wp2
  go_loopw [1, 13] (fun uv iv wr => ∃ (k u m : Nat) (lows : List Nat), uv = .int .u64 (u : Int) ∧ iv = .int .i64 (m : Int) ∧ k ≤ 6 ∧ lows.length = k ∧ k + m = 65 ∧ Buf w w.heap.size lows wr ∧ u < 16 ^ (6 - k) ∧ hexT c = hexB (7 - k) u ++ lows) (fun uv _ _ => (intOf uv).toNat)
  case atStart =>
    refine ⟨0, c, 65, [], rfl, rfl, by omega, rfl, by omega, ⟨fun j hj => ?_, fun j => ?_, fun j hj => by simp at hj, (Below.refl _ w).alloc (Nat.le_refl _) _⟩, by simp; omega, by simp [hexT]⟩
    · have hz : Tryz.zeroCells217.size = 65 := by kernel_rfl
      have hn := heap_alloc_new w (.cells Tryz.zeroCells217 217)
      refine ⟨Tryz.zeroCells217[j]'(by omega), ?_⟩
      rw [Lib.cell_of_heap hn]
      simp [hz, hj]
    · have hn := heap_alloc_new w (.cells Tryz.zeroCells217 217)
      unfold World.frozen?
      rw [show (⟨w.heap.size, j, none⟩ : Addr).block = w.heap.size from rfl, hn]
      simp
  case round =>
    obtain ⟨k, u, m, lows, rfl, rfl, hk, hkl, hkm, hbuf, hu, hhex⟩ := hrel
    have hu2 : u < 16777216 := by
      have : 16 ^ (6 - k) ≤ 16 ^ 6 := Nat.pow_le_pow_right (by omega) (by omega)
      have : (16 : Nat) ^ 6 = 16777216 := by decide
      omega
    obtain ⟨m', rfl⟩ : ∃ m', m = m' + 1 := ⟨m - 1, by omega⟩
    have hand : bits BinOp.and IntKind.u64 (u : Int) 15 = ((u % 16 : Nat) : Int) := by rw [and_15 _ (by omega) (by omega)]; omega
    have hm65 : m' < 65 := by omega
    have hq : u % 16 < 36 := by omega
    have hfz := hbuf.fz m'
    obtain ⟨x, hx⟩ := hbuf.cells m' hm65
    have HB : Hid (Buf w w.heap.size lows wr) := hbuf
    have HH : Hid (u < 16 ^ (6 - k) ∧ hexT c = hexB (7 - k) u ++ lows) := ⟨hu, hhex⟩
    clear hbuf hu hhex
    by_cases h16u : 16 ≤ u
    · have hge : (u : Int) ≥ 16 := by omega
      go_wp2
      refine ⟨⟨k + 1, u / 16, m', (digitsB[u % 16]'hq).toNat :: lows, by rw [show ((u / 16 : Nat) : Int) = (u : Int) / 16 by omega], rfl, ?_, by simp; exact hkl, by omega, HB.out.put (by omega), ?_, ?_⟩, by simp [intOf]; omega⟩
      · have h1 := HH.out.1
        rcases Nat.lt_or_ge k 6 with h | h
        · omega
        · obtain rfl : k = 6 := by omega
          simp at h1; omega
      · have h1 := HH.out.1
        rcases Nat.lt_or_ge k 6 with h | h
        · rw [show 6 - k = 6 - (k + 1) + 1 by omega, Nat.pow_succ] at h1
          omega
        · obtain rfl : k = 6 := by omega
          simp at h1; omega
      · rw [HH.out.2, show 7 - k = 7 - (k + 1) + 1 by omega, hexB_step _ _ h16u, dig_at _ hq (by omega), List.append_assoc]
        rfl
    · have hge : ¬ (u : Int) ≥ 16 := by omega
      have hq2 : u < 36 := by omega
      have HP := HB.out.put (d := (digitsB[u]'hq2).toNat) (m := m') (by omega)
      have hhx : hexT c = (digitsB[u]'hq2).toNat :: lows := by
        rw [HH.out.2, dig_at u hq2 (by omega), show 7 - k = 6 - k + 1 by omega, hexB, if_pos (by omega)]; rfl
      have hcv : (convert 68 9 (.slice (some ⟨w.heap.size, m', none⟩) (65 - m') (65 - m'))).run Tryz.prog (wr.setCell ⟨w.heap.size, m', none⟩ (.int .u8 (((⟨#[48, 49, 50, 51, 52, 53, 54, 55, 56, 57, 97, 98, 99, 100, 101, 102, 103, 104, 105, 106, 107, 108, 109, 110, 111, 112, 113, 114, 115, 116, 117, 118, 119, 120, 121, 122]⟩ : ByteArray)[u]'hq2).toNat : Int))) = .ok (.string ⟨((hexT c).map Nat.toUInt8).toArray⟩) (wr.setCell ⟨w.heap.size, m', none⟩ (.int .u8 (((⟨#[48, 49, 50, 51, 52, 53, 54, 55, 56, 57, 97, 98, 99, 100, 101, 102, 103, 104, 105, 106, 107, 108, 109, 110, 111, 112, 113, 114, 115, 116, 117, 118, 119, 120, 121, 122]⟩ : ByteArray)[u]'hq2).toNat : Int))) := by
        have hlen : 65 - m' = ((hexT c).map Nat.toUInt8).length := by rw [hhx]; simp; omega
        rw [hlen]
        refine run_convert_bytes_back _ 68 9 5 ⟨w.heap.size, m', none⟩ _ ((hexT c).map Nat.toUInt8) Tryz.underlying68 Tryz.underlying5 Tryz.underlying9 fun j hj => ?_
        have hj2 : j < (hexT c).length := by simpa using hj
        have hlow := HP.low j (by rw [← hhx]; exact hj2)
        rw [← hhx] at hlow
        have e1 : 65 - (hexT c).length + j = m' + j := by rw [hhx]; simp; omega
        rw [e1] at hlow
        have ea : (⟨w.heap.size, m', none⟩ : Addr).add j = ⟨w.heap.size, m' + j, none⟩ := by simp [Addr.add]
        rw [ea]
        refine hlow.trans ?_
        have hlt := hexB_lt 7 c _ (List.getElem_mem hj2)
        have e2 : (hexT c).getD j 0 = (hexT c)[j] := by simp [hj2]
        have e3 : ((hexT c)[j] : Nat) < 128 := hlt
        rw [e2]
        simp
        omega
      have hsl : ∀ W : World, (Instr.sliceAt 217 (.pointer (some ⟨w.heap.size, 0, none⟩)) (some (.int .i64 (m' : Int))) none none).run Tryz.prog W = .ok (.slice (some ⟨w.heap.size, m', none⟩) (65 - m') (65 - m')) W := fun W => by
        have hal : Tryz.prog.arrayLen 217 = 65 := by kernel_rfl
        have hel : Tryz.prog.elem 217 = 5 := by kernel_rfl
        have hs1 : ∀ W, (Go.sizeOf 5).run Tryz.prog W = .ok 1 W := Tryz.sizeOf5
        rw [run_sliceAt_array_l W 217 ⟨w.heap.size, 0, none⟩ (by rw [hal, hel]; exact Tryz.underlying217) .i64 (m' : Int) (by omega) (by rw [hal]; omega), hel, hs1, hal]
        simp only [Result.andThen, slicedAt, Int.toNat_natCast, Nat.mul_one]
        rw [if_neg (by omega)]
        simp [Addr.add]
        omega
      clear hand hq hhx
      go_wp2
      go_ret2
      exact ⟨⟨_, rfl⟩, HP.bel⟩

set_option maxHeartbeats 2000000 in
theorem iformat_16 (c : Nat) (hc : c ≤ 1114111) (w : World) (hd : w.cell? ⟨13, 15, none⟩ = some (.int .u8 4)) (h16 : 16 ≤ w.heap.size) :
    Calls Tryz.prog 131 #[.int .i64 c, .int .i64 16] w fun e w' => e = .returned (.string ⟨((hexT c).map Nat.toUInt8).toArray⟩) ∧ Below w.heap.size w w' := by
  have HF : Hid (Calls Tryz.prog 150 #[.slice none 0 0, .int .u64 c, .int .i64 16, .bool false, .bool false] w fun e w' => (∃ v, e = .returned (.tuple #[v, .string ⟨((hexT c).map Nat.toUInt8).toArray⟩])) ∧ Below w.heap.size w w') := formatBits_16 c hc w hd h16
  generalize ((hexT c).map Nat.toUInt8).toArray = T at *
  clear hd
  go_enter Tryz.func131, Tryz.ntmps131
  go_wp2_with fail
  go_at_call 150
  refine HF.out.mono ?_
  rintro e w1 ⟨⟨v, rfl⟩, hb⟩
  go_wp2
  go_ret
  exact ⟨rfl, hb⟩
set_option maxHeartbeats 2000000 in
theorem format_16 (c : Nat) (hc : c ≤ 1114111) (w : World) (hd : w.cell? ⟨13, 15, none⟩ = some (.int .u8 4)) (h16 : 16 ≤ w.heap.size) :
    Calls Tryz.prog 116 #[.int .i64 c, .int .i64 16] w fun e w' => e = .returned (.string ⟨((hexT c).map Nat.toUInt8).toArray⟩) ∧ Below w.heap.size w w' := by
  have HF : Hid (Calls Tryz.prog 131 #[.int .i64 c, .int .i64 16] w fun e w' => e = .returned (.string ⟨((hexT c).map Nat.toUInt8).toArray⟩) ∧ Below w.heap.size w w') := iformat_16 c hc w hd h16
  generalize ((hexT c).map Nat.toUInt8).toArray = T at *
  clear hd
  go_enter Tryz.func116, Tryz.ntmps116
  go_wp2_with fail
  go_at_call 131
  refine HF.out.mono ?_
  rintro e w1 ⟨rfl, hb⟩
  go_wp2
  go_ret
  exact ⟨rfl, hb⟩

theorem sm_one : ∀ n : Nat, n < 10 → (⟨#[48, 49, 50, 51, 52, 53, 54, 55, 56, 57, 97, 98, 99, 100, 101, 102, 103, 104, 105, 106, 107, 108, 109, 110, 111, 112, 113, 114, 115, 116, 117, 118, 119, 120, 121, 122]⟩ : ByteArray).extract n (n + 1) = ⟨((decB n).map Nat.toUInt8).toArray⟩ := by decide +kernel
theorem sm_two : ∀ n : Nat, n ≤ 50 → ¬ n < 10 → (⟨#[48, 48, 48, 49, 48, 50, 48, 51, 48, 52, 48, 53, 48, 54, 48, 55, 48, 56, 48, 57, 49, 48, 49, 49, 49, 50, 49, 51, 49, 52, 49, 53, 49, 54, 49, 55, 49, 56, 49, 57, 50, 48, 50, 49, 50, 50, 50, 51, 50, 52, 50, 53, 50, 54, 50, 55, 50, 56, 50, 57, 51, 48, 51, 49, 51, 50, 51, 51, 51, 52, 51, 53, 51, 54, 51, 55, 51, 56, 51, 57, 52, 48, 52, 49, 52, 50, 52, 51, 52, 52, 52, 53, 52, 54, 52, 55, 52, 56, 52, 57, 53, 48, 53, 49, 53, 50, 53, 51, 53, 52, 53, 53, 53, 54, 53, 55, 53, 56, 53, 57, 54, 48, 54, 49, 54, 50, 54, 51, 54, 52, 54, 53, 54, 54, 54, 55, 54, 56, 54, 57, 55, 48, 55, 49, 55, 50, 55, 51, 55, 52, 55, 53, 55, 54, 55, 55, 55, 56, 55, 57, 56, 48, 56, 49, 56, 50, 56, 51, 56, 52, 56, 53, 56, 54, 56, 55, 56, 56, 56, 57, 57, 48, 57, 49, 57, 50, 57, 51, 57, 52, 57, 53, 57, 54, 57, 55, 57, 56, 57, 57]⟩ : ByteArray).extract (2 * n) (2 * n + 2) = ⟨((decB n).map Nat.toUInt8).toArray⟩ := by decide +kernel
set_option maxHeartbeats 2000000 in
theorem small_any (n : Nat) (hn : n ≤ 50) (w : World) : Calls Tryz.prog 147 #[.int .i64 n] w fun e w' => e = .returned (.string ⟨((decB n).map Nat.toUInt8).toArray⟩) ∧ w' = w := by
  by_cases h10 : n < 10
  · have hz : (n : Int) < 10 := by omega
    have hw : IntKind.i64.wrap ((n : Int) + 1) = (n : Int) + 1 := wrap_small _ (by omega) (by omega)
    have ht : ((n : Int) + 1).toNat = n + 1 := by omega
    have hx := sm_one n h10
    generalize ((decB n).map Nat.toUInt8).toArray = T at *
    have HX : Hid _ := hx
    clear hx
    go_enter Tryz.func147, Tryz.ntmps147
    go_wp2
    go_ret
    exact ⟨congrArg (fun T => Ending.returned (Value.string T)) HX.out, rfl⟩
  · have hz : ¬ (n : Int) < 10 := by omega
    have hw : IntKind.i64.wrap ((n : Int) * 2) = ((2 * n : Nat) : Int) := by rw [wrap_small _ (by omega) (by omega)]; omega
    have hw2 : IntKind.i64.wrap (((2 * n : Nat) : Int) + 2) = ((2 * n + 2 : Nat) : Int) := by rw [wrap_small _ (by omega) (by omega)]; omega
    have hle1 : ((2 * n : Nat) : Int) ≤ ((2 * n + 2 : Nat) : Int) := by omega
    have hle2 : 2 * n + 2 ≤ 200 := by omega
    have hx := sm_two n hn h10
    generalize ((decB n).map Nat.toUInt8).toArray = T at *
    have HX : Hid _ := hx
    clear hx
    go_enter Tryz.func147, Tryz.ntmps147
    go_wp2
    go_ret
    exact ⟨congrArg (fun T => Ending.returned (Value.string T)) HX.out, rfl⟩
set_option maxHeartbeats 2000000 in
theorem iformat_10 (n : Nat) (hn : n ≤ 50) (w : World) : Calls Tryz.prog 131 #[.int .i64 n, .int .i64 10] w fun e w' => e = .returned (.string ⟨((decB n).map Nat.toUInt8).toArray⟩) ∧ w' = w := by
  have HF : Hid (Calls Tryz.prog 147 #[.int .i64 n] w fun e w' => e = .returned (.string ⟨((decB n).map Nat.toUInt8).toArray⟩) ∧ w' = w) := small_any n hn w
  have hz : (n : Int) < 100 := by omega
  generalize ((decB n).map Nat.toUInt8).toArray = T at *
  go_enter Tryz.func131, Tryz.ntmps131
  go_wp2_with fail
  go_at_call 147
  refine HF.out.mono ?_
  rintro e w1 ⟨rfl, rfl⟩
  go_wp2
  go_ret
  exact ⟨rfl, rfl⟩
set_option maxHeartbeats 2000000 in
theorem iitoa_any (n : Nat) (hn : n ≤ 50) (w : World) : Calls Tryz.prog 119 #[.int .i64 n] w fun e w' => e = .returned (.string ⟨((decB n).map Nat.toUInt8).toArray⟩) ∧ w' = w := by
  have HF : Hid (Calls Tryz.prog 131 #[.int .i64 n, .int .i64 10] w fun e w' => e = .returned (.string ⟨((decB n).map Nat.toUInt8).toArray⟩) ∧ w' = w) := iformat_10 n hn w
  generalize ((decB n).map Nat.toUInt8).toArray = T at *
  go_enter Tryz.func119, Tryz.ntmps119
  go_wp2_with fail
  go_at_call 131
  refine HF.out.mono ?_
  rintro e w1 ⟨rfl, rfl⟩
  go_wp2
  go_ret
  exact ⟨rfl, rfl⟩
set_option maxHeartbeats 2000000 in
theorem itoa_any (n : Nat) (hn : n ≤ 50) (w : World) : Calls Tryz.prog 91 #[.int .i64 n] w fun e w' => e = .returned (.string ⟨((decB n).map Nat.toUInt8).toArray⟩) ∧ w' = w := by
  have HF : Hid (Calls Tryz.prog 119 #[.int .i64 n] w fun e w' => e = .returned (.string ⟨((decB n).map Nat.toUInt8).toArray⟩) ∧ w' = w) := iitoa_any n hn w
  generalize ((decB n).map Nat.toUInt8).toArray = T at *
  go_enter Tryz.func91, Tryz.ntmps91
  go_wp2_with fail
  go_at_call 119
  refine HF.out.mono ?_
  rintro e w1 ⟨rfl, rfl⟩
  go_wp2
  go_ret
  exact ⟨rfl, rfl⟩
end Go.Proofs.YtbjohedenfindaaGreatDoor
