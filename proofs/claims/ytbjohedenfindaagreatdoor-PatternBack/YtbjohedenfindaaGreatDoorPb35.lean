/- Texts of the proof, put together: WNum, WrD. -/
import Derived.Test.YtbjohedenfindaaGreatDoorPb34
import Derived.Test.YtbjohedenfindaaGreatDoorPb08
import Derived.Laws.Bits64b
import Derived.Laws.Runes
import Derived.Laws.BytesString
import Derived.Laws.IdiomStrings
import Derived.WalkKit
import Derived.WalkSpells
import Derived.WalkLawsBesides
import Derived.Below
import Derived.Test.YtbjohedenfindaaGreatDoorPb16
import Derived.Test.YtbjohedenfindaaGreatDoorPb26
namespace Go.Proofs.YtbjohedenfindaaGreatDoor
open Go.RowKit
set_option linter.unusedVariables false
set_option maxRecDepth 100000

set_option maxHeartbeats 2000000 in
theorem tz64_16 (w : World) (hc : w.cell? ⟨13, 15, none⟩ = some (.int .u8 4)) : Calls Tryz.prog 176 #[.int .u64 16] w fun e w' => e = .returned (.int .i64 4) ∧ w' = w := by
  have hx : IntKind.u64.wrap (bits BinOp.and IntKind.u64 16 (IntKind.u64.wrap (-16)) * 285870213051353865) / 288230376151711744 = 15 := by decide +kernel
  go_enter Tryz.func176, Tryz.ntmps176
  go_wp2
  go_ret
  exact ⟨rfl, rfl⟩
set_option maxHeartbeats 2000000 in
theorem tz_16 (w : World) (hc : w.cell? ⟨13, 15, none⟩ = some (.int .u8 4)) : Calls Tryz.prog 165 #[.int .u64 16] w fun e w' => e = .returned (.int .i64 4) ∧ w' = w := by
  have H : Hid (Calls Tryz.prog 176 #[.int .u64 16] w fun e w' => e = .returned (.int .i64 4) ∧ w' = w) := tz64_16 w hc
  clear hc
  go_enter Tryz.func165, Tryz.ntmps165
  go_wp2_with fail
  go_at_call 176
  refine H.out.mono ?_
  rintro e w' ⟨rfl, rfl⟩
  go_wp2
  go_ret
  exact ⟨rfl, rfl⟩
set_option maxHeartbeats 2000000 in
theorem isPow_16 (w : World) : Calls Tryz.prog 164 #[.int .i64 16] w fun e w' => e = .returned (.bool true) ∧ w' = w := by
  have hx : bits BinOp.and IntKind.i64 16 15 = 0 := by decide +kernel
  go_enter Tryz.func164, Tryz.ntmps164
  go_wp2
  go_ret
  exact ⟨by first | rfl | simp, rfl⟩
theorem and_15 (u : Int) (h0 : 0 ≤ u) (h1 : u < 18446744073709551616) : bits BinOp.and IntKind.u64 u 15 = u % 16 := by
  obtain ⟨n, rfl⟩ := Int.eq_ofNat_of_zero_le h0
  have := bits_and_u64_nat n 15 (by omega) (by omega)
  rw [show ((15 : Nat) : Int) = 15 from rfl] at this
  rw [this, show (15 : Nat) = 2 ^ 4 - 1 by rfl, Nat.and_two_pow_sub_one_eq_mod]
  omega
def digitsB : ByteArray := ⟨#[48, 49, 50, 51, 52, 53, 54, 55, 56, 57, 97, 98, 99, 100, 101, 102, 103, 104, 105, 106, 107, 108, 109, 110, 111, 112, 113, 114, 115, 116, 117, 118, 119, 120, 121, 122]⟩

/-- the digits so far, at the end of a buffer of 65 bytes -/
structure Buf (w0 : World) (A : Nat) (lows : List Nat) (w : World) : Prop where
  cells : ∀ j, j < 65 → ∃ x, w.cell? ⟨A, j, none⟩ = some x
  fz : ∀ j, w.frozen? ⟨A, j, none⟩ = false
  low : ∀ j, j < lows.length → w.cell? ⟨A, 65 - lows.length + j, none⟩ = some (.int .u8 (lows.getD j 0 : Nat))
  bel : Below A w0 w
theorem Buf.put {w0 w : World} {A m d : Nat} {lows : List Nat} (h : Buf w0 A lows w) (hm : lows.length + (m + 1) = 65) : Buf w0 A (d :: lows) (w.setCell ⟨A, m, none⟩ (.int .u8 (d : Int))) := by
  obtain ⟨x, hx⟩ := h.cells m (by omega)
  refine ⟨fun j hj => ?_, fun j => by rw [World.frozen?_setCell]; exact h.fz j, fun j hj => ?_, h.bel.setCell (p := ⟨A, m, none⟩) (Nat.le_refl _) _⟩
  · by_cases hjm : j = m
    · subst hjm; exact ⟨_, World.cell?_setCell_same _ _ _ hx⟩
    · obtain ⟨y, hy⟩ := h.cells j hj
      exact ⟨y, by rw [World.cell?_setCell_other _ _ _ _ (by first | (simp; done) | (simp; exact hjm))]; exact hy⟩
  · simp only [List.length_cons] at hj ⊢
    cases j with
    | zero =>
      have : 65 - (lows.length + 1) + 0 = m := by omega
      rw [this]
      exact World.cell?_setCell_same _ _ _ hx
    | succ j =>
      rw [World.cell?_setCell_other _ _ _ _ (by intro e; injection e with _ e2 _; omega)]
      have := h.low j (by omega)
      rw [show 65 - (lows.length + 1) + (j + 1) = 65 - lows.length + j by omega, this]
      simp

theorem dig_all : ∀ q : Fin 16, (digitsB[q.1]'(by have := q.2; show q.1 < 36; omega)).toNat = hexD q.1 := by decide +kernel
theorem dig_at (q : Nat) (h : q < 36) (h2 : q < 16) : (digitsB[q]'h).toNat = hexD q := dig_all ⟨q, h2⟩
theorem hexB_lt : ∀ (f n : Nat), ∀ x ∈ hexB f n, x < 128
  | 0, n, x, hx => by simp [hexB] at hx
  | f + 1, n, x, hx => by
    unfold hexB at hx
    split at hx
    · rename_i h
      rw [List.mem_singleton.1 hx]
      exact (hexD_of n h).2
    · rcases List.mem_append.1 hx with hx | hx
      · exact hexB_lt f (n / 16) x hx
      · rw [List.mem_singleton.1 hx]
        exact (hexD_of (n % 16) (by omega)).2
theorem hexB_step (f u : Nat) (h : 16 ≤ u) : hexB (f + 1) u = hexB f (u / 16) ++ [hexD (u % 16)] := by rw [hexB, if_neg (by omega)]

set_option maxHeartbeats 4000000 in
theorem formatBits_16 (c : Nat) (hc : c ≤ 1114111) (w : World) (hd : w.cell? ⟨13, 15, none⟩ = some (.int .u8 4)) (h16 : 16 ≤ w.heap.size) :
    Calls Tryz.prog 150 #[.slice none 0 0, .int .u64 c, .int .i64 16, .bool false, .bool false] w fun e w' => (∃ v, e = .returned (.tuple #[v, .string ⟨((hexT c).map Nat.toUInt8).toArray⟩])) ∧ Below w.heap.size w w' := by
  have HT : Hid (∀ w', Below w.heap.size w w' → Calls Tryz.prog 165 #[.int .u64 16] w' fun e w'' => e = .returned (.int .i64 4) ∧ w'' = w') := fun w' hb => tz_16 w' ((hb.cell (p := ⟨13, 15, none⟩) (by show 13 < _; omega)).trans hd)
  go_enter Tryz.func150, Tryz.ntmps150
  go_wp2_with fail
  go_at_call 164
  refine (isPow_16 _).mono ?_
  rintro e w1 ⟨rfl, rfl⟩
  go_wp2_with fail
  go_at_call 165
  refine (HT.out _ ((Below.refl _ w).alloc (Nat.le_refl _) _)).mono ?_
  rintro e w1 ⟨rfl, rfl⟩
  go_wp2
  go_loopw [1, 13] (fun uv iv wr => ∃ (k u m : Nat) (lows : List Nat), uv = .int .u64 (u : Int) ∧ iv = .int .i64 (m : Int) ∧ k ≤ 6 ∧ lows.length = k ∧ k + m = 65 ∧ Buf w w.heap.size lows wr ∧ u < 16 ^ (6 - k) ∧ hexT c = hexB (7 - k) u ++ lows) (fun uv _ _ => (intOf uv).toNat)
  case atStart =>
    refine ⟨0, c, 65, [], rfl, rfl, by omega, rfl, by omega, ⟨fun j hj => ?_, fun j => ?_, fun j hj => by simp at hj, (Below.refl _ w).alloc (Nat.le_refl _) _⟩, by simp; omega, by simp [hexT]⟩
    · have hz : Tryz.zeroCells217.size = 65 := by kernel_rfl
      have hn := heap_alloc_new w (.cells Tryz.zeroCells217 217)
      refine ⟨Tryz.zeroCells217[j]'(by omega), ?_⟩
      rw [Lib.cell_of_heap hn]
      simp [hz, hj]
    · have hn := heap_alloc_new w (.cells Tryz.zeroCells217 217)
      unfold World.frozen?
      rw [show (⟨w.heap.size, j, none⟩ : Addr).block = w.heap.size from rfl, hn]
      simp
  case round =>
    obtain ⟨k, u, m, lows, rfl, rfl, hk, hkl, hkm, hbuf, hu, hhex⟩ := hrel
    have hu2 : u < 16777216 := by
      have : 16 ^ (6 - k) ≤ 16 ^ 6 := Nat.pow_le_pow_right (by omega) (by omega)
      have : (16 : Nat) ^ 6 = 16777216 := by decide
      omega
    obtain ⟨m', rfl⟩ : ∃ m', m = m' + 1 := ⟨m - 1, by omega⟩
    have hand : bits BinOp.and IntKind.u64 (u : Int) 15 = ((u % 16 : Nat) : Int) := by rw [and_15 _ (by omega) (by omega)]; omega
    have hm65 : m' < 65 := by omega
    have hq : u % 16 < 36 := by omega
    have hfz := hbuf.fz m'
    obtain ⟨x, hx⟩ := hbuf.cells m' hm65
    have HB : Hid (Buf w w.heap.size lows wr) := hbuf
    have HH : Hid (u < 16 ^ (6 - k) ∧ hexT c = hexB (7 - k) u ++ lows) := ⟨hu, hhex⟩
    clear hbuf hu hhex
    by_cases h16u : 16 ≤ u
    · have hge : (u : Int) ≥ 16 := by omega
      go_wp2
      refine ⟨⟨k + 1, u / 16, m', (digitsB[u % 16]'hq).toNat :: lows, by rw [show ((u / 16 : Nat) : Int) = (u : Int) / 16 by omega], rfl, ?_, by simp; exact hkl, by omega, HB.out.put (by omega), ?_, ?_⟩, by simp [intOf]; omega⟩
      · have h1 := HH.out.1
        rcases Nat.lt_or_ge k 6 with h | h
        · omega
        · obtain rfl : k = 6 := by omega
          simp at h1; omega
      · have h1 := HH.out.1
        rcases Nat.lt_or_ge k 6 with h | h
        · rw [show 6 - k = 6 - (k + 1) + 1 by omega, Nat.pow_succ] at h1
          omega
        · obtain rfl : k = 6 := by omega
          simp at h1; omega
      · rw [HH.out.2, show 7 - k = 7 - (k + 1) + 1 by omega, hexB_step _ _ h16u, dig_at _ hq (by omega), List.append_assoc]
        rfl
    · have hge : ¬ (u : Int) ≥ 16 := by omega
      have hq2 : u < 36 := by omega
      have HP := HB.out.put (d := (digitsB[u]'hq2).toNat) (m := m') (by omega)
      have hhx : hexT c = (digitsB[u]'hq2).toNat :: lows := by
        rw [HH.out.2, dig_at u hq2 (by omega), show 7 - k = 6 - k + 1 by omega, hexB, if_pos (by omega)]; rfl
      have hcv : (convert 68 9 (.slice (some ⟨w.heap.size, m', none⟩) (65 - m') (65 - m'))).run Tryz.prog (wr.setCell ⟨w.heap.size, m', none⟩ (.int .u8 (((⟨#[48, 49, 50, 51, 52, 53, 54, 55, 56, 57, 97, 98, 99, 100, 101, 102, 103, 104, 105, 106, 107, 108, 109, 110, 111, 112, 113, 114, 115, 116, 117, 118, 119, 120, 121, 122]⟩ : ByteArray)[u]'hq2).toNat : Int))) = .ok (.string ⟨((hexT c).map Nat.toUInt8).toArray⟩) (wr.setCell ⟨w.heap.size, m', none⟩ (.int .u8 (((⟨#[48, 49, 50, 51, 52, 53, 54, 55, 56, 57, 97, 98, 99, 100, 101, 102, 103, 104, 105, 106, 107, 108, 109, 110, 111, 112, 113, 114, 115, 116, 117, 118, 119, 120, 121, 122]⟩ : ByteArray)[u]'hq2).toNat : Int))) := by
        have hlen : 65 - m' = ((hexT c).map Nat.toUInt8).length := by rw [hhx]; simp; omega
        rw [hlen]
        refine run_convert_bytes_back _ 68 9 5 ⟨w.heap.size, m', none⟩ _ ((hexT c).map Nat.toUInt8) Tryz.underlying68 Tryz.underlying5 Tryz.underlying9 fun j hj => ?_
        have hj2 : j < (hexT c).length := by simpa using hj
        have hlow := HP.low j (by rw [← hhx]; exact hj2)
        rw [← hhx] at hlow
        have e1 : 65 - (hexT c).length + j = m' + j := by rw [hhx]; simp; omega
        rw [e1] at hlow
        have ea : (⟨w.heap.size, m', none⟩ : Addr).add j = ⟨w.heap.size, m' + j, none⟩ := by simp [Addr.add]
        rw [ea]
        refine hlow.trans ?_
        have hlt := hexB_lt 7 c _ (List.getElem_mem hj2)
        have e2 : (hexT c).getD j 0 = (hexT c)[j] := by simp [hj2]
        have e3 : ((hexT c)[j] : Nat) < 128 := hlt
        rw [e2]
        simp
        omega
      have hsl : ∀ W : World, (Instr.sliceAt 217 (.pointer (some ⟨w.heap.size, 0, none⟩)) (some (.int .i64 (m' : Int))) none none).run Tryz.prog W = .ok (.slice (some ⟨w.heap.size, m', none⟩) (65 - m') (65 - m')) W := fun W => by
        have hal : Tryz.prog.arrayLen 217 = 65 := by kernel_rfl
        have hel : Tryz.prog.elem 217 = 5 := by kernel_rfl
        have hs1 : ∀ W, (Go.sizeOf 5).run Tryz.prog W = .ok 1 W := Tryz.sizeOf5
        rw [run_sliceAt_array_l W 217 ⟨w.heap.size, 0, none⟩ (by rw [hal, hel]; exact Tryz.underlying217) .i64 (m' : Int) (by omega) (by rw [hal]; omega), hel, hs1, hal]
        simp only [Result.andThen, slicedAt, Int.toNat_natCast, Nat.mul_one]
        rw [if_neg (by omega)]
        simp [Addr.add]
        omega
      clear hand hq hhx
      go_wp2
      go_ret2
      exact ⟨⟨_, rfl⟩, HP.bel⟩

set_option maxHeartbeats 2000000 in
theorem iformat_16 (c : Nat) (hc : c ≤ 1114111) (w : World) (hd : w.cell? ⟨13, 15, none⟩ = some (.int .u8 4)) (h16 : 16 ≤ w.heap.size) :
    Calls Tryz.prog 131 #[.int .i64 c, .int .i64 16] w fun e w' => e = .returned (.string ⟨((hexT c).map Nat.toUInt8).toArray⟩) ∧ Below w.heap.size w w' := by
  have HF : Hid (Calls Tryz.prog 150 #[.slice none 0 0, .int .u64 c, .int .i64 16, .bool false, .bool false] w fun e w' => (∃ v, e = .returned (.tuple #[v, .string ⟨((hexT c).map Nat.toUInt8).toArray⟩])) ∧ Below w.heap.size w w') := formatBits_16 c hc w hd h16
  generalize ((hexT c).map Nat.toUInt8).toArray = T at *
  clear hd
  go_enter Tryz.func131, Tryz.ntmps131
  go_wp2_with fail
  go_at_call 150
  refine HF.out.mono ?_
  rintro e w1 ⟨⟨v, rfl⟩, hb⟩
  go_wp2
  go_ret
  exact ⟨rfl, hb⟩
set_option maxHeartbeats 2000000 in
theorem format_16 (c : Nat) (hc : c ≤ 1114111) (w : World) (hd : w.cell? ⟨13, 15, none⟩ = some (.int .u8 4)) (h16 : 16 ≤ w.heap.size) :
    Calls Tryz.prog 116 #[.int .i64 c, .int .i64 16] w fun e w' => e = .returned (.string ⟨((hexT c).map Nat.toUInt8).toArray⟩) ∧ Below w.heap.size w w' := by
  have HF : Hid (Calls Tryz.prog 131 #[.int .i64 c, .int .i64 16] w fun e w' => e = .returned (.string ⟨((hexT c).map Nat.toUInt8).toArray⟩) ∧ Below w.heap.size w w') := iformat_16 c hc w hd h16
  generalize ((hexT c).map Nat.toUInt8).toArray = T at *
  clear hd
  go_enter Tryz.func116, Tryz.ntmps116
  go_wp2_with fail
  go_at_call 131
  refine HF.out.mono ?_
  rintro e w1 ⟨rfl, hb⟩
  go_wp2
  go_ret
  exact ⟨rfl, hb⟩

theorem sm_one : ∀ n : Nat, n < 10 → (⟨#[48, 49, 50, 51, 52, 53, 54, 55, 56, 57, 97, 98, 99, 100, 101, 102, 103, 104, 105, 106, 107, 108, 109, 110, 111, 112, 113, 114, 115, 116, 117, 118, 119, 120, 121, 122]⟩ : ByteArray).extract n (n + 1) = ⟨((decB n).map Nat.toUInt8).toArray⟩ := by decide +kernel
theorem sm_two : ∀ n : Nat, n ≤ 50 → ¬ n < 10 → (⟨#[48, 48, 48, 49, 48, 50, 48, 51, 48, 52, 48, 53, 48, 54, 48, 55, 48, 56, 48, 57, 49, 48, 49, 49, 49, 50, 49, 51, 49, 52, 49, 53, 49, 54, 49, 55, 49, 56, 49, 57, 50, 48, 50, 49, 50, 50, 50, 51, 50, 52, 50, 53, 50, 54, 50, 55, 50, 56, 50, 57, 51, 48, 51, 49, 51, 50, 51, 51, 51, 52, 51, 53, 51, 54, 51, 55, 51, 56, 51, 57, 52, 48, 52, 49, 52, 50, 52, 51, 52, 52, 52, 53, 52, 54, 52, 55, 52, 56, 52, 57, 53, 48, 53, 49, 53, 50, 53, 51, 53, 52, 53, 53, 53, 54, 53, 55, 53, 56, 53, 57, 54, 48, 54, 49, 54, 50, 54, 51, 54, 52, 54, 53, 54, 54, 54, 55, 54, 56, 54, 57, 55, 48, 55, 49, 55, 50, 55, 51, 55, 52, 55, 53, 55, 54, 55, 55, 55, 56, 55, 57, 56, 48, 56, 49, 56, 50, 56, 51, 56, 52, 56, 53, 56, 54, 56, 55, 56, 56, 56, 57, 57, 48, 57, 49, 57, 50, 57, 51, 57, 52, 57, 53, 57, 54, 57, 55, 57, 56, 57, 57]⟩ : ByteArray).extract (2 * n) (2 * n + 2) = ⟨((decB n).map Nat.toUInt8).toArray⟩ := by decide +kernel
set_option maxHeartbeats 2000000 in
theorem small_any (n : Nat) (hn : n ≤ 50) (w : World) : Calls Tryz.prog 147 #[.int .i64 n] w fun e w' => e = .returned (.string ⟨((decB n).map Nat.toUInt8).toArray⟩) ∧ w' = w := by
  by_cases h10 : n < 10
  · have hz : (n : Int) < 10 := by omega
    have hw : IntKind.i64.wrap ((n : Int) + 1) = (n : Int) + 1 := wrap_small _ (by omega) (by omega)
    have ht : ((n : Int) + 1).toNat = n + 1 := by omega
    have hx := sm_one n h10
    generalize ((decB n).map Nat.toUInt8).toArray = T at *
    have HX : Hid _ := hx
    clear hx
    go_enter Tryz.func147, Tryz.ntmps147
    go_wp2
    go_ret
    exact ⟨congrArg (fun T => Ending.returned (Value.string T)) HX.out, rfl⟩
  · have hz : ¬ (n : Int) < 10 := by omega
    have hw : IntKind.i64.wrap ((n : Int) * 2) = ((2 * n : Nat) : Int) := by rw [wrap_small _ (by omega) (by omega)]; omega
    have hw2 : IntKind.i64.wrap (((2 * n : Nat) : Int) + 2) = ((2 * n + 2 : Nat) : Int) := by rw [wrap_small _ (by omega) (by omega)]; omega
    have hle1 : ((2 * n : Nat) : Int) ≤ ((2 * n + 2 : Nat) : Int) := by omega
    have hle2 : 2 * n + 2 ≤ 200 := by omega
    have hx := sm_two n hn h10
    generalize ((decB n).map Nat.toUInt8).toArray = T at *
    have HX : Hid _ := hx
    clear hx
    go_enter Tryz.func147, Tryz.ntmps147
    go_wp2
    go_ret
    exact ⟨congrArg (fun T => Ending.returned (Value.string T)) HX.out, rfl⟩
set_option maxHeartbeats 2000000 in
theorem iformat_10 (n : Nat) (hn : n ≤ 50) (w : World) : Calls Tryz.prog 131 #[.int .i64 n, .int .i64 10] w fun e w' => e = .returned (.string ⟨((decB n).map Nat.toUInt8).toArray⟩) ∧ w' = w := by
  have HF : Hid (Calls Tryz.prog 147 #[.int .i64 n] w fun e w' => e = .returned (.string ⟨((decB n).map Nat.toUInt8).toArray⟩) ∧ w' = w) := small_any n hn w
  have hz : (n : Int) < 100 := by omega
  generalize ((decB n).map Nat.toUInt8).toArray = T at *
  go_enter Tryz.func131, Tryz.ntmps131
  go_wp2_with fail
  go_at_call 147
  refine HF.out.mono ?_
  rintro e w1 ⟨rfl, rfl⟩
  go_wp2
  go_ret
  exact ⟨rfl, rfl⟩
set_option maxHeartbeats 2000000 in
theorem iitoa_any (n : Nat) (hn : n ≤ 50) (w : World) : Calls Tryz.prog 119 #[.int .i64 n] w fun e w' => e = .returned (.string ⟨((decB n).map Nat.toUInt8).toArray⟩) ∧ w' = w := by
  have HF : Hid (Calls Tryz.prog 131 #[.int .i64 n, .int .i64 10] w fun e w' => e = .returned (.string ⟨((decB n).map Nat.toUInt8).toArray⟩) ∧ w' = w) := iformat_10 n hn w
  generalize ((decB n).map Nat.toUInt8).toArray = T at *
  go_enter Tryz.func119, Tryz.ntmps119
  go_wp2_with fail
  go_at_call 131
  refine HF.out.mono ?_
  rintro e w1 ⟨rfl, rfl⟩
  go_wp2
  go_ret
  exact ⟨rfl, rfl⟩
set_option maxHeartbeats 2000000 in
theorem itoa_any (n : Nat) (hn : n ≤ 50) (w : World) : Calls Tryz.prog 91 #[.int .i64 n] w fun e w' => e = .returned (.string ⟨((decB n).map Nat.toUInt8).toArray⟩) ∧ w' = w := by
  have HF : Hid (Calls Tryz.prog 119 #[.int .i64 n] w fun e w' => e = .returned (.string ⟨((decB n).map Nat.toUInt8).toArray⟩) ∧ w' = w) := iitoa_any n hn w
  generalize ((decB n).map Nat.toUInt8).toArray = T at *
  go_enter Tryz.func91, Tryz.ntmps91
  go_wp2_with fail
  go_at_call 119
  refine HF.out.mono ?_
  rintro e w1 ⟨rfl, rfl⟩
  go_wp2
  go_ret
  exact ⟨rfl, rfl⟩
end Go.Proofs.YtbjohedenfindaaGreatDoor

namespace Go.Proofs.YtbjohedenfindaaGreatDoor
set_option linter.unusedVariables false

variable {mk : List Rg → Bool → List Rg}

/-- first bytes: no repetition, no end of a row -/
def Fst (l : List Nat) : Prop := ∀ s i, At s i l → i < s.size ∧ 0 ≤ cpAt s i ∧ cpAt s i ≠ 42 ∧ cpAt s i ≠ 43 ∧ cpAt s i ≠ 63 ∧ cpAt s i ≠ 123 ∧ rowEndS (cpAt s i) = false
/-- read as a unit, a part, a row, rows with and, a pattern: at each level of brackets from N on -/
def RU (mk : List Rg → Bool → List Rg) (N : Nat) (l : List Nat) (t : Re) : Prop := ∀ s i n, N ≤ n → At s i l → i ≤ s.size → unitS s mk n i = some (t, i + l.length)
def RP (mk : List Rg → Bool → List Rg) (N : Nat) (l : List Nat) (t : Re) : Prop := ∀ s i n, N ≤ n → At s i l → i ≤ s.size → ∃ u i1 m, unitS s mk n i = some (u, i1) ∧ m ≤ l.length ∧ ∀ f, partS s (f + m) u i1 = partS s f t (i + l.length)
def RR (mk : List Rg → Bool → List Rg) (N : Nat) (l : List Nat) (t : Re) : Prop := ∀ s i n, N ≤ n → At s i l → i ≤ s.size → rowEndS (cpAt s (i + l.length)) = true → rowReS s (fun j => unitS s mk n j) i = some (t, i + l.length)
def RB (mk : List Rg → Bool → List Rg) (N : Nat) (l : List Nat) (t : Re) : Prop := ∀ s i n, N ≤ n → At s i l → i ≤ s.size → rowEndS (cpAt s (i + l.length)) = true → cpAt s (i + l.length) ≠ 38 → bothS s (fun j => unitS s mk n j) i = some (t, i + l.length)
def RA (mk : List Rg → Bool → List Rg) (N : Nat) (l : List Nat) (t : Re) : Prop := ∀ s i n, N ≤ n → At s i l → i ≤ s.size → rowEndS (cpAt s (i + l.length)) = true → cpAt s (i + l.length) ≠ 38 → cpAt s (i + l.length) ≠ 124 → patS s (fun j => unitS s mk n j) i = some (t, i + l.length)

theorem end_no {c : Int} (h : rowEndS c = true) : c ≠ 42 ∧ c ≠ 43 ∧ c ≠ 63 ∧ c ≠ 123 := by
  simp [rowEndS] at h
  omega
theorem part_stop {s : ByteArray} {f i : Nat} {t : Re} (h : cpAt s i ≠ 42 ∧ cpAt s i ≠ 43 ∧ cpAt s i ≠ 63 ∧ cpAt s i ≠ 123) : partS s (f + 1) t i = some (t, i) := by
  rw [partS_eq, if_neg h.1, if_neg h.2.1, if_neg h.2.2.1, if_neg h.2.2.2]
theorem ru_rp {N : Nat} {l : List Nat} {t : Re} (h : RU mk N l t) : RP mk N l t := fun s i n hn hA hi => ⟨t, _, 0, h s i n hn hA hi, by omega, fun f => rfl⟩
/-- a part, where no repetition follows -/
theorem rp_one {N : Nat} {l : List Nat} {t : Re} (h : RP mk N l t) {s : ByteArray} {i n : Nat} (hn : N ≤ n) (hA : At s i l) (hi : i ≤ s.size) (he : cpAt s (i + l.length) ≠ 42 ∧ cpAt s (i + l.length) ≠ 43 ∧ cpAt s (i + l.length) ≠ 63 ∧ cpAt s (i + l.length) ≠ 123) :
    ((unitS s mk n i).bind fun x => partS s (s.size + 1) x.1 x.2) = some (t, i + l.length) := by
  obtain ⟨u, i1, m, h1, h2, h3⟩ := h s i n hn hA hi
  have hle := hA.le hi
  rw [h1]
  simp only [Option.bind_some]
  rw [show s.size + 1 = (s.size - m) + 1 + m by omega, h3, part_stop he]

/-- a row of parts -/
theorem row_at {N : Nat} {s : ByteArray} {n : Nat} (hn : N ≤ n) : ∀ (ws : List (List Nat × Re)) (acc : List Re) (i f : Nat), (∀ x ∈ ws, RP mk N x.1 x.2 ∧ Fst x.1 ∧ 1 ≤ x.1.length) → At s i (ws.map (·.1)).flatten → i ≤ s.size → rowEndS (cpAt s (i + (ws.map (·.1)).flatten.length)) = true → (ws.map (·.1)).flatten.length + 1 ≤ f →
    rowS s (fun j => unitS s mk n j) f acc i = some (acc ++ ws.map (·.2), i + (ws.map (·.1)).flatten.length)
  | [], acc, i, f, _, _, _, he, hf => by
    obtain ⟨f', rfl⟩ : ∃ f', f = f' + 1 := ⟨f - 1, by omega⟩
    rw [rowS_eq, if_pos (by simpa using he)]
    simp
  | x :: ws, acc, i, f, hw, hA, hi, he, hf => by
    obtain ⟨f', rfl⟩ : ∃ f', f = f' + 1 := ⟨f - 1, by omega⟩
    obtain ⟨hP, hF, h1⟩ := hw x (by simp)
    have e : ((x :: ws).map (·.1)).flatten = x.1 ++ (ws.map (·.1)).flatten := by simp
    rw [e] at hA he hf ⊢
    rw [List.length_append] at he hf ⊢
    obtain ⟨hA1, hA2⟩ := At.append.1 hA
    have hF1 := hF s i hA1
    have hle := hA1.le hi
    have he2 : rowEndS (cpAt s (i + x.1.length + (ws.map (·.1)).flatten.length)) = true := by rw [Nat.add_assoc]; exact he
    have hstop : cpAt s (i + x.1.length) ≠ 42 ∧ cpAt s (i + x.1.length) ≠ 43 ∧ cpAt s (i + x.1.length) ≠ 63 ∧ cpAt s (i + x.1.length) ≠ 123 := by
      cases ws with
      | nil => exact end_no (by simpa using he2)
      | cons y ws =>
        have hFy := (hw y (by simp)).2.1
        have e2 : ((y :: ws).map (·.1)).flatten = y.1 ++ (ws.map (·.1)).flatten := by simp
        rw [e2] at hA2
        have := hFy s _ (At.append.1 hA2).1
        exact ⟨this.2.2.1, this.2.2.2.1, this.2.2.2.2.1, this.2.2.2.2.2.1⟩
    have hone := rp_one hP hn hA1 hi hstop
    rw [rowS_eq, if_neg (by rw [hF1.2.2.2.2.2.2]; simp)]
    rw [hone]
    simp only
    rw [row_at hn ws (acc ++ [x.2]) (i + x.1.length) f' (fun y hy => hw y (by simp [hy])) hA2 hle he2 (by omega)]
    simp
    omega
theorem rr_row {N : Nat} (ws : List (List Nat × Re)) (hw : ∀ x ∈ ws, RP mk N x.1 x.2 ∧ Fst x.1 ∧ 1 ≤ x.1.length) : RR mk N (ws.map (·.1)).flatten (gatherS 2 (ws.map (·.2))) := by
  intro s i n hn hA hi he
  unfold rowReS
  have := hA.le hi
  rw [row_at hn ws [] i (s.size + 1) hw hA hi he (by omega)]
  simp
theorem rp_rr {N : Nat} {l : List Nat} {t : Re} (h : RP mk N l t) (hF : Fst l) (h1 : 1 ≤ l.length) : RR mk N l t := by
  have := rr_row (mk := mk) (N := N) [(l, t)] (by simp; exact ⟨h, hF, h1⟩)
  simpa [gatherS] using this

/-- what stands between signs -/
def joinB (c : Nat) : List (List Nat) → List Nat
  | [] => []
  | x :: t => x ++ (t.map (fun y => c :: y)).flatten
/-- a list of what r reads, behind signs -/
theorem sevS_at {s : ByteArray} {c : Nat} (hc : c < 128) {r : Nat → Option (Re × Nat)} (ok : Int → Prop) (hok : ok (c : Int)) : ∀ (ws : List (List Nat × Re)) (acc : List Re) (i f : Nat),
    (∀ x ∈ ws, ∀ j, At s j x.1 → j ≤ s.size → ok (cpAt s (j + x.1.length)) → r j = some (x.2, j + x.1.length)) →
    At s i (ws.map (fun x => c :: x.1)).flatten → i ≤ s.size → ok (cpAt s (i + (ws.map (fun x => c :: x.1)).flatten.length)) → cpAt s (i + (ws.map (fun x => c :: x.1)).flatten.length) ≠ (c : Int) → (ws.map (fun x => c :: x.1)).flatten.length + 1 ≤ f →
    sevS s (c : Int) r f acc i = some (acc ++ ws.map (·.2), i + (ws.map (fun x => c :: x.1)).flatten.length)
  | [], acc, i, f, _, _, _, _, hne, hf => by
    obtain ⟨f', rfl⟩ : ∃ f', f = f' + 1 := ⟨f - 1, by omega⟩
    rw [sevS_eq, if_neg (by simpa using hne)]
    simp
  | x :: ws, acc, i, f, hw, hA, hi, he, hne, hf => by
    obtain ⟨f', rfl⟩ : ∃ f', f = f' + 1 := ⟨f - 1, by omega⟩
    have e : ((x :: ws).map (fun x => c :: x.1)).flatten = c :: (x.1 ++ (ws.map (fun x => c :: x.1)).flatten) := by simp
    rw [e] at hA he hne hf ⊢
    simp only [List.length_cons, List.length_append] at he hne hf ⊢
    have hcp := (At.cp hA hc).1
    obtain ⟨hlt, hA1⟩ := At.cons.1 hA
    obtain ⟨hA2, hA3⟩ := At.append.1 hA1
    have hle := hA2.le (by omega)
    have ee : i + (x.1.length + (ws.map (fun x => c :: x.1)).flatten.length + 1) = i + 1 + x.1.length + (ws.map (fun x => c :: x.1)).flatten.length := by omega
    rw [ee] at he hne ⊢
    have hnx : ok (cpAt s (i + 1 + x.1.length)) := by
      cases ws with
      | nil => simpa using he
      | cons y ws =>
        have e2 : ((y :: ws).map (fun x => c :: x.1)).flatten = c :: (y.1 ++ (ws.map (fun x => c :: x.1)).flatten) := by simp
        rw [e2] at hA3
        rw [(At.cp hA3 hc).1]
        exact hok
    have h1 := hw x (by simp) (i + 1) hA2 (by omega) hnx
    rw [sevS_eq, if_pos hcp, h1]
    simp only
    rw [sevS_at hc ok hok ws (acc ++ [x.2]) (i + 1 + x.1.length) f' (fun y hy => hw y (by simp [hy])) hA3 (by omega) he hne (by omega)]
    simp
theorem several_at {s : ByteArray} {k : Int} {c : Nat} (hc : c < 128) {r : Nat → Option (Re × Nat)} (ok : Int → Prop) (hok : ok (c : Int)) (x : List Nat × Re) (ws : List (List Nat × Re)) (i : Nat)
    (hw : ∀ y ∈ x :: ws, ∀ j, At s j y.1 → j ≤ s.size → ok (cpAt s (j + y.1.length)) → r j = some (y.2, j + y.1.length))
    (hA : At s i (joinB c ((x :: ws).map (·.1)))) (hi : i ≤ s.size) (he : ok (cpAt s (i + (joinB c ((x :: ws).map (·.1))).length))) (hne : cpAt s (i + (joinB c ((x :: ws).map (·.1))).length) ≠ (c : Int)) :
    severalS s k (c : Int) r i = some (gatherS k ((x :: ws).map (·.2)), i + (joinB c ((x :: ws).map (·.1))).length) := by
  have e : joinB c ((x :: ws).map (·.1)) = x.1 ++ (ws.map (fun x => c :: x.1)).flatten := by simp [joinB, List.map_map, Function.comp_def]
  rw [e] at hA he hne ⊢
  rw [List.length_append] at he hne ⊢
  rw [← Nat.add_assoc] at he hne ⊢
  obtain ⟨hA1, hA2⟩ := At.append.1 hA
  have hle := hA1.le hi
  have hle2 := hA2.le hle
  have hnx : ok (cpAt s (i + x.1.length)) := by
    cases ws with
    | nil => simpa using he
    | cons y ws =>
      have e2 : ((y :: ws).map (fun x => c :: x.1)).flatten = c :: (y.1 ++ (ws.map (fun x => c :: x.1)).flatten) := by simp
      rw [e2] at hA2
      rw [(At.cp hA2 hc).1]
      exact hok
  unfold severalS
  rw [hw x (by simp) i hA1 hi hnx]
  simp only
  rw [sevS_at hc ok hok ws [x.2] (i + x.1.length) (s.size + 1) (fun y hy => hw y (by simp [hy])) hA2 hle he hne (by omega)]
  simp
theorem rb_both {N : Nat} (x : List Nat × Re) (ws : List (List Nat × Re)) (hw : ∀ y ∈ x :: ws, RR mk N y.1 y.2) : RB mk N (joinB 38 ((x :: ws).map (·.1))) (gatherS 4 ((x :: ws).map (·.2))) := by
  intro s i n hn hA hi he hne
  exact several_at (k := 4) (c := 38) (by omega) (fun c => rowEndS c = true) (by decide) x ws i (fun y hy j hAj hj ho => hw y hy s j n hn hAj hj ho) hA hi he hne
theorem rr_rb {N : Nat} {l : List Nat} {t : Re} (h : RR mk N l t) : RB mk N l t := by
  have := rb_both (mk := mk) (N := N) (l, t) [] (by simp; exact h)
  simpa [gatherS, joinB] using this
theorem ra_any {N : Nat} (x : List Nat × Re) (ws : List (List Nat × Re)) (hw : ∀ y ∈ x :: ws, RB mk N y.1 y.2) : RA mk N (joinB 124 ((x :: ws).map (·.1))) (gatherS 3 ((x :: ws).map (·.2))) := by
  intro s i n hn hA hi he hne hne2
  exact several_at (k := 3) (c := 124) (by omega) (fun c => rowEndS c = true ∧ c ≠ 38) (by decide) x ws i (fun y hy j hAj hj ho => hw y hy s j n hn hAj hj ho.1 ho.2) hA hi ⟨he, hne⟩ hne2
theorem rb_ra {N : Nat} {l : List Nat} {t : Re} (h : RB mk N l t) : RA mk N l t := by
  have := ra_any (mk := mk) (N := N) (l, t) [] (by simp; exact h)
  simpa [gatherS, joinB] using this
/-- brackets -/
theorem ra_ru {N : Nat} {l : List Nat} {t : Re} (h : RA mk N l t) : RU mk (N + 1) (40 :: (l ++ [41])) t := by
  intro s i n hn hA hi
  obtain ⟨n', rfl⟩ : ∃ n', n = n' + 1 := ⟨n - 1, by omega⟩
  have c1 : cpAt s i = 40 := by simpa using (At.cp hA (by omega)).1
  obtain ⟨hlt, hA1⟩ := At.cons.1 hA
  obtain ⟨hA2, hA3⟩ := At.append.1 hA1
  have c2 : cpAt s (i + 1 + l.length) = 41 := by simpa using (At.cp hA3 (by omega)).1
  have hp := h s (i + 1) n' (by omega) hA2 (by omega) (by rw [c2]; decide) (by omega) (by omega)
  rw [unitS, if_neg (by omega), if_pos c1, hp]
  simp only
  rw [if_pos c2]
  simp
  omega
theorem fst_open {l : List Nat} : Fst (40 :: l) := by
  intro s i hA
  obtain ⟨e1, _, e2⟩ := At.cp hA (by omega)
  rw [e1]
  exact ⟨e2, by omega, by omega, by omega, by omega, by omega, by decide⟩
theorem fst_append {a b : List Nat} (h : Fst a) : Fst (a ++ b) := fun s i hA => h s i (At.append.1 hA).1

/-- where a pattern of a kind may stand without brackets -/
def placeK (k : Int) : Nat := if k = 3 then 0 else if k = 4 then 1 else if k = 2 then 2 else if k = 6 then 3 else 4
def wrapB (own place : Nat) (l : List Nat) : List Nat := if own < place then 40 :: (l ++ [41]) else l
def bodyB (mk : List Rg → Bool → List Rg) (k : Int) (s : List Rg) (a b : Int) (ws : List (Nat → List Nat)) : List Nat :=
  if k = 1 then setB mk s
  else if k = 2 then (if ws.length = 0 then [40, 41] else (ws.map fun w => w 3).flatten)
  else if k = 3 then joinB 124 (ws.map fun w => w 1)
  else if k = 4 then joinB 38 (ws.map fun w => w 2)
  else if k = 5 then 126 :: (ws.map fun w => w 4).flatten
  else (ws.map fun w => w 3).flatten ++ timesB a b
/-- the text of a pattern where a place is asked -/
def wrT (mk : List Rg → Bool → List Rg) (t : Tm) : Nat → List Nat := match t with
  | ⟨k, s, a, b, ks⟩ => fun place => wrapB (placeK k) place (bodyB mk k s a b (ks.map fun x => wrT mk x))
theorem wrT_eq (t : Tm) (place : Nat) : wrT mk t place = wrapB (placeK t.kind) place (bodyB mk t.kind t.set t.mn t.mx (t.kids.map (wrT mk))) := by
  obtain ⟨k, s, a, b, ks⟩ := t; rw [wrT]
/-- how deep a pattern is -/
def hT (t : Tm) : Nat := match t with
  | ⟨k, s, a, b, ks⟩ => 1 + (ks.map fun x => hT x).foldl max 0
theorem hT_eq (t : Tm) : hT t = 1 + (t.kids.map hT).foldl max 0 := by
  obtain ⟨k, s, a, b, ks⟩ := t; rw [hT]
theorem foldl_max (l : List Nat) (a : Nat) : a ≤ l.foldl max a ∧ ∀ x ∈ l, x ≤ l.foldl max a := by
  induction l generalizing a with
  | nil => simp
  | cons y t ih =>
    have := ih (max a y)
    simp only [List.foldl_cons]
    refine ⟨by omega, fun x hx => ?_⟩
    rcases List.mem_cons.1 hx with rfl | hx
    · omega
    · exact this.2 x hx
theorem hT_kid {t x : Tm} (h : x ∈ t.kids) : hT x + 1 ≤ hT t := by
  rw [hT_eq t]
  have := (foldl_max (t.kids.map hT) 0).2 (hT x) (List.mem_map_of_mem h)
  omega

/-- a pattern's text is read again, at each place -/
structure Rd (mk : List Rg → Bool → List Rg) (N : Nat) (t : Tm) : Prop where
  u : RU mk N (wrT mk t 4) (reOf t)
  p : RP mk N (wrT mk t 3) (reOf t)
  r : RR mk N (wrT mk t 2) (reOf t)
  b : RB mk N (wrT mk t 1) (reOf t)
  a : RA mk N (wrT mk t 0) (reOf t)
  f : ∀ place, Fst (wrT mk t place)
  len : ∀ place, 1 ≤ (wrT mk t place).length
theorem RU.mono {N N' : Nat} {l : List Nat} {t : Re} (h : RU mk N l t) (hN : N ≤ N') : RU mk N' l t := fun s i n hn => h s i n (by omega)
theorem RP.mono {N N' : Nat} {l : List Nat} {t : Re} (h : RP mk N l t) (hN : N ≤ N') : RP mk N' l t := fun s i n hn => h s i n (by omega)
theorem RR.mono {N N' : Nat} {l : List Nat} {t : Re} (h : RR mk N l t) (hN : N ≤ N') : RR mk N' l t := fun s i n hn => h s i n (by omega)
theorem RB.mono {N N' : Nat} {l : List Nat} {t : Re} (h : RB mk N l t) (hN : N ≤ N') : RB mk N' l t := fun s i n hn => h s i n (by omega)
theorem RA.mono {N N' : Nat} {l : List Nat} {t : Re} (h : RA mk N l t) (hN : N ≤ N') : RA mk N' l t := fun s i n hn => h s i n (by omega)

/-- out of what holds at a pattern's own place -/
theorem rd_of {N own : Nat} {t : Tm} {l : List Nat} (hown : own ≤ 4) (he : ∀ place, wrT mk t place = wrapB own place l) (hF : Fst l) (h1 : 1 ≤ l.length)
    (hu : own = 4 → RU mk N l (reOf t)) (hp : own = 3 → RP mk N l (reOf t)) (hr : own = 2 → RR mk N l (reOf t)) (hb : own = 1 → RB mk N l (reOf t)) (ha : own = 0 → RA mk N l (reOf t)) : Rd mk (N + 1) t := by
  have P : 3 ≤ own → RP mk N l (reOf t) := fun h => by
    rcases (show own = 4 ∨ own = 3 by omega) with e | e
    · exact ru_rp (hu e)
    · exact hp e
  have R : 2 ≤ own → RR mk N l (reOf t) := fun h => by
    rcases (show 3 ≤ own ∨ own = 2 by omega) with e | e
    · exact rp_rr (P e) hF h1
    · exact hr e
  have B : 1 ≤ own → RB mk N l (reOf t) := fun h => by
    rcases (show 2 ≤ own ∨ own = 1 by omega) with e | e
    · exact rr_rb (R e)
    · exact hb e
  have A : RA mk N l (reOf t) := by
    rcases (show 1 ≤ own ∨ own = 0 by omega) with e | e
    · exact rb_ra (B e)
    · exact ha e
  have U : RU mk (N + 1) (40 :: (l ++ [41])) (reOf t) := ra_ru A
  have hFo : Fst (40 :: (l ++ [41])) := fst_open
  have h1o : 1 ≤ (40 :: (l ++ [41])).length := by simp
  refine ⟨?_, ?_, ?_, ?_, ?_, fun place => ?_, fun place => ?_⟩
  · rw [he]; unfold wrapB; split
    · exact U
    · exact (hu (by omega)).mono (by omega)
  · rw [he]; unfold wrapB; split
    · exact ru_rp U
    · exact (P (by omega)).mono (by omega)
  · rw [he]; unfold wrapB; split
    · exact rp_rr (ru_rp U) hFo h1o
    · exact (R (by omega)).mono (by omega)
  · rw [he]; unfold wrapB; split
    · exact rr_rb (rp_rr (ru_rp U) hFo h1o)
    · exact (B (by omega)).mono (by omega)
  · rw [he]; unfold wrapB; split
    · exact rb_ra (rr_rb (rp_rr (ru_rp U) hFo h1o))
    · exact A.mono (by omega)
  · rw [he]; unfold wrapB; split
    · exact hFo
    · exact hF
  · rw [he]; unfold wrapB; split
    · exact h1o
    · exact h1

end Go.Proofs.YtbjohedenfindaaGreatDoor
