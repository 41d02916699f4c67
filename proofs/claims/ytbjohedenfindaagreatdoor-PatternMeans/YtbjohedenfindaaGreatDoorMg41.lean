/- Texts of the proof, put together: LPar, ShelfP. -/
import Derived.Test.YtbjohedenfindaaGreatDoorMg09
import Derived.Lib.Strings
import Derived.Lib.Walk
import Derived.Lib.ConvBytes
import Derived.Lib.AtoiErrMem
import Derived.Lib.Hide
import Derived.Laws.Strings3
import Derived.Laws.Closers25
import Derived.Laws.Closers25b
import Derived.WalkKit
import Derived.BigCall
import Derived.BigGuard
import Derived.Shelf.LaysM
import Derived.Shelf.LaysC
import Derived.Shelf.Strconv.ToError
import Derived.Shelf.Strconv.ToErrorRange
import Derived.Shelf.Strconv.AtoiAll
import Derived.Shelf.Strings.Cut
import Derived.Shelf.Unicode.DecodeAny
import Derived.Test.YtbjohedenfindaaGreatDoorProg
namespace Go.Proofs.YtbjohedenfindaaGreatDoor
open Go.RowKit
set_option linter.unusedVariables false
set_option maxRecDepth 100000

/-- how ParseUint ends at base 16 -/
def HexEnd (T : ByteArray) (e : Ending) : Prop :=
  (allHex T ∧ e = .returned (.tuple #[.int .u64 (hexVal T 0 T.size), .nilIface])) ∨
  (¬ allHex T ∧ e = .returned (.tuple #[.int .u64 0, .iface 240 (.int .i64 2)])) ∨
  (6 < T.size ∧ e = .returned (.tuple #[.int .u64 18446744073709551615, .iface 240 (.int .i64 1)]))

theorem hexOf_lt (b : Nat) : hexOf b ≤ 15 := by
  unfold hexOf
  split
  · omega
  · split
    · omega
    · split <;> omega
theorem hexVal_ltL (T : ByteArray) : ∀ k, (∀ j, j < k → 0 ≤ hexOf (T.get! j).toNat) → 0 ≤ hexVal T 0 k ∧ hexVal T 0 k < ((16 ^ k : Nat) : Int)
  | 0, _ => by simp [hexVal]
  | k + 1, h => by
    obtain ⟨h1, h2⟩ := hexVal_ltL T k fun j hj => h j (by omega)
    have h3 := h k (by omega)
    have h4 := hexOf_lt (T.get! k).toNat
    have e : hexVal T 0 (k + 1) = hexVal T 0 k * 16 + hexOf (T.get! k).toNat := by simp [hexVal]
    rw [e, Nat.pow_succ]
    generalize hexOf (T.get! k).toNat = d at *
    generalize hexVal T 0 k = v at *
    generalize 16 ^ k = p at *
    omega
theorem hexVal_bigL {T : ByteArray} {k : Nat} (h : ∀ j, j < k → 0 ≤ hexOf (T.get! j).toNat) (hb : 1152921504606846976 ≤ hexVal T 0 k) : 6 < k := by
  rcases Nat.lt_or_ge 6 k with h6 | h6
  · exact h6
  · have h1 := (hexVal_ltL T k h).2
    have h2 : 16 ^ k ≤ 16 ^ 6 := Nat.pow_le_pow_right (by omega) h6
    have h3 : (16 : Nat) ^ 6 = 16777216 := by decide
    omega
theorem getD_bang (T : ByteArray) (k : Nat) : T.data.toList.getD k 0 = T.get! k := by
  rw [get_bang]
  simp [List.getD]

/-- the low letter of a byte -/
theorem low_hex : ∀ c : Nat, c < 256 → ¬ (48 ≤ c ∧ c ≤ 57) → ((10 ≤ hexOf c ∧ bits .or .u8 (c : Int) 32 = 87 + hexOf c) ∨ (hexOf c = -1 ∧ (bits .or .u8 (c : Int) 32 < 97 ∨ 103 ≤ bits .or .u8 (c : Int) 32))) := by decide +kernel

set_option maxHeartbeats 1000000 in
theorem lower_any (c : Int) (w : World) : Calls Tryz.prog 207 #[.int .u8 c] w fun e w' => e = .returned (.int .u8 (bits .or .u8 c 32)) ∧ w' = w := by
  go_enter Tryz.func207, Tryz.ntmps207
  go_wp2
  go_ret
  exact ⟨rfl, rfl⟩

set_option maxHeartbeats 8000000 in
theorem iparse_any (T : ByteArray) (hne : T.size ≠ 0) (hmax : T.size ≤ 1000000) (w : World) :
    Calls Tryz.prog 195 #[.string T, .int .i64 16, .int .i64 64] w fun e w' => HexEnd T e ∧ Below w.heap.size w w' := by
  have hemp : T.toList.isEmpty = false := by
    rw [← decide_eq_emptyBytes]
    exact decide_eq_false (fun h => hne (by rw [h]; rfl))
  have hcv := Lib.run_convert_string_bytes (P := Tryz.prog) w 9 68 5 T (u := .string) Tryz.underlying9 Tryz.underlying68 Tryz.underlying5
  have hB : ∀ j, j < T.size → (Lib.bytesWorld w 5 T).cell? ⟨w.heap.size, j, none⟩ = some (.int .u8 (T.get! j).toNat) := fun j hj => by
    rw [← getD_bang]; exact Lib.bytesWorld_cell w 5 T j hj
  have HW : Hid (Below w.heap.size w (Lib.bytesWorld w 5 T)) := Lib.bytesWorld_below _ _ _
  obtain ⟨W1, hW1⟩ : ∃ W1, W1 = Lib.bytesWorld w 5 T := ⟨_, rfl⟩
  rw [← hW1] at hcv hB HW
  clear hW1
  have HB : Hid (∀ j, j < T.size → W1.cell? ⟨w.heap.size, j, none⟩ = some (.int .u8 (T.get! j).toNat)) := hB
  clear hB
  have hmv : IntKind.u64.wrap (IntKind.u64.wrap 18446744073709551616 - 1) = 18446744073709551615 := by
    rw [IntKind.wrap_u64, IntKind.wrap_u64]
    decide
  go_enter Tryz.func195, Tryz.ntmps195
  go_wp2
  go_loop [12, 13, 101] (fun vu vn vi => ∃ (k : Nat) (a : Int), vu = .bool false ∧ vn = .int .u64 a ∧ vi = .int .i64 k ∧ k ≤ T.size ∧ 0 ≤ a ∧ a < 18446744073709551616 ∧ Hid (a = hexVal T 0 k ∧ ∀ j, j < k → 0 ≤ hexOf (T.get! j).toNat))
    (fun _ _ vi => T.size - (intOf vi).toNat)
  case atStart => exact ⟨0, 0, rfl, rfl, rfl, by omega, by omega, by omega, rfl, fun j hj => by omega⟩
  case round =>
    obtain ⟨k, a, rfl, rfl, rfl, hk, a0, a1, HH⟩ := hrel
    by_cases hkn : k < T.size
    · have hc := HB.out k hkn
      have hc256 : (T.get! k).toNat < 256 := (T.get! k).toNat_lt
      have HN : Hid (∀ d : Int, hexOf (T.get! k).toNat = d → 0 ≤ d → (a * 16 + d = hexVal T 0 (k + 1) ∧ ∀ j, j < k + 1 → 0 ≤ hexOf (T.get! j).toNat)) := by
        intro d hd h0
        obtain ⟨h1, h2⟩ := HH.out
        refine ⟨?_, fun j hj => ?_⟩
        · rw [← hd, h1]; simp [hexVal]
        · rcases Nat.lt_or_ge j k with h | h
          · exact h2 j h
          · obtain rfl : j = k := by omega
            omega
      have HR : Hid (1152921504606846976 ≤ a → 6 < T.size) := by
        intro hb
        obtain ⟨h1, h2⟩ := HH.out
        have := hexVal_bigL h2 (by omega)
        omega
      have HS : Hid (hexOf (T.get! k).toNat = -1 → ¬ allHex T) := fun h hall => by have := hall k hkn; omega
      have HLx := low_hex (T.get! k).toNat hc256
      have hx0 := bits_lo_u8 .or ((T.get! k).toNat : Int) 32
      have hx1 := bits_hi_u8 .or ((T.get! k).toNat : Int) 32
      have HLo : Hid (∀ w', Calls Tryz.prog 207 #[.int .u8 ((T.get! k).toNat : Int)] w' fun e w'' => e = .returned (.int .u8 (bits .or .u8 ((T.get! k).toNat : Int) 32)) ∧ w'' = w') := fun w' => lower_any _ w'
      have hdig0 : ∀ c : Nat, 48 ≤ c → c ≤ 57 → hexOf c = (c : Int) - 48 := fun c h0 h1 => by unfold hexOf; rw [if_pos ⟨h0, h1⟩]
      have hdig1 := hdig0 (T.get! k).toNat
      have HC95 : Hid ((T.get! k).toNat = 95 → hexOf (T.get! k).toNat = -1) := fun h => by rw [h]; rfl
      have hvle := hexOf_lt (T.get! k).toNat
      clear hdig0
      generalize (T.get! k).toNat = c at *
      generalize bits .or .u8 (c : Int) 32 = x at *
      generalize hexOf c = v at *
      by_cases hdig : 48 ≤ c ∧ c ≤ 57
      · obtain ⟨hd0, hd1⟩ := hdig
        have hv := hdig1 hd0 hd1
        subst hv
        have H2 := HN.out _ rfl (by omega)
        have HN2 : Hid (a * 16 + ((c : Int) - 48) = hexVal T 0 (k + 1) ∧ ∀ j, j < k + 1 → 0 ≤ hexOf (T.get! j).toNat) := H2
        clear HLx hx0 hx1 HLo hdig1 HN HS H2 HC95 hvle
        by_cases hcut : 1152921504606846976 ≤ a
        · have h6 : Hid (6 < T.size) := HR.out hcut
          clear HR
          go_wp2
          go_ret2
          exact ⟨Or.inr (Or.inr ⟨h6.out, rfl⟩), HW.out⟩
        · have icut : a < 1152921504606846976 := by omega
          have iov : a * 16 + ((c : Int) - 48) < 18446744073709551616 := by omega
          clear HR hcut
          go_wp2
          refine ⟨⟨k + 1, a * 16 + ((c : Int) - 48), rfl, (by first | rfl | (congr 1; omega)), (by first | rfl | (congr 1; omega)), by omega, by omega, by omega, HN2⟩, by simp [intOf]; omega⟩
      · have HX := HLx hdig
        clear HLx hdig1
        have hn95 : Hid (v = -1 ∨ c ≠ 95) := by
          rcases HX with ⟨h1, _⟩ | ⟨h1, _⟩
          · right; rintro rfl; exact absurd (HC95.out rfl) (by omega)
          · exact .inl h1
        clear HC95
        have hnd : ¬ ((c : Int) ≤ 57) ∨ ¬ (48 ≤ (c : Int)) := by omega
        rcases HX with ⟨hv10, hx⟩ | ⟨hv, hx⟩
        · have hv15 := hvle
          have h95 : c ≠ 95 := hn95.out.resolve_left (by omega)
          have h95' : ((c : Int) == 95) = false := by rw [beq_eq_false_iff_ne]; omega
          have H2 := HN.out _ rfl (by omega)
          obtain rfl : v = x - 87 := by omega
          have HN2 : Hid (a * 16 + (x - 87) = hexVal T 0 (k + 1) ∧ ∀ j, j < k + 1 → 0 ≤ hexOf (T.get! j).toNat) := H2
          have g1 : 97 ≤ x := by omega
          have g2 : x ≤ 102 := by omega
          have g3 : x ≤ 122 := by omega
          have hw1 : IntKind.u8.wrap (IntKind.u8.wrap (x - 97) + 10) = x - 87 := by
            rw [IntKind.wrap_u8, IntKind.wrap_u8]; omega
          have g4 : ¬ (x - 87 ≥ 16) := by omega
          clear HN HS H2 hx hx0 hx1 hv10 hv15 hvle hn95 h95
          by_cases hcut : 1152921504606846976 ≤ a
          · have h6 : Hid (6 < T.size) := HR.out hcut
            clear HR
            rcases hnd with hnd | hnd
            all_goals
              go_wp2_with (go_at_call 207; refine (HLo.out _).mono ?_; rintro e w' ⟨rfl, rfl⟩)
              go_ret2
              exact ⟨Or.inr (Or.inr ⟨h6.out, rfl⟩), HW.out⟩
          · have icut : a < 1152921504606846976 := by omega
            have iov : a * 16 + (x - 87) < 18446744073709551616 := by omega
            clear HR hcut
            rcases hnd with hnd | hnd
            all_goals
              go_wp2_with (go_at_call 207; refine (HLo.out _).mono ?_; rintro e w' ⟨rfl, rfl⟩)
              refine ⟨⟨k + 1, a * 16 + (x - 87), rfl, (by first | rfl | (congr 1; omega)), (by first | rfl | (congr 1; omega)), by omega, by omega, by omega, HN2⟩, by simp [intOf]; omega⟩
        · have HX2 : Hid (¬ allHex T) := HS.out hv
          have hw1 : 103 ≤ x → x ≤ 122 → IntKind.u8.wrap (IntKind.u8.wrap (x - 97) + 10) = x - 87 := by
            intro _ _
            rw [IntKind.wrap_u8, IntKind.wrap_u8]; omega
          clear HN HS hv HR hn95 hvle
          obtain ⟨z, hz⟩ : ∃ z : Int, z = (c : Int) := ⟨_, rfl⟩
          rw [← hz] at hc HLo hnd
          have hz0 : 0 ≤ z := by omega
          have hz1 : z < 256 := by omega
          clear hz hdig hc256
          have hz95 : z = 95 ∨ (z == 95) = false := by
            by_cases h : z = 95
            · exact .inl h
            · right; rw [beq_eq_false_iff_ne]; exact h
          have hxx : x < 97 ∨ (97 ≤ x ∧ x ≤ 122 ∧ IntKind.u8.wrap (IntKind.u8.wrap (x - 97) + 10) = x - 87 ∧ x - 87 ≥ 16) ∨ 122 < x := by
            rcases hx with hx | hx
            · exact .inl hx
            · by_cases h122 : x ≤ 122
              · exact .inr (.inl ⟨by omega, h122, hw1 hx h122, by omega⟩)
              · exact .inr (.inr (by omega))
          clear hx hw1
          rcases hz95 with rfl | hz95
          · rcases hxx with hx | ⟨hx, q1, q2, q3⟩ | hx
            all_goals
              go_wp2_with (go_at_call 207; refine (HLo.out _).mono ?_; rintro e w' ⟨rfl, rfl⟩)
              go_ret2
              exact ⟨Or.inr (Or.inl ⟨HX2.out, rfl⟩), HW.out⟩
          · rcases hnd with hnd | hnd
            · rcases hxx with hx | ⟨hx, q1, q2, q3⟩ | hx
              all_goals
                go_wp2_with (go_at_call 207; refine (HLo.out _).mono ?_; rintro e w' ⟨rfl, rfl⟩)
                go_ret2
                exact ⟨Or.inr (Or.inl ⟨HX2.out, rfl⟩), HW.out⟩
            · rcases hxx with hx | ⟨hx, q1, q2, q3⟩ | hx
              all_goals
                go_wp2_with (go_at_call 207; refine (HLo.out _).mono ?_; rintro e w' ⟨rfl, rfl⟩)
                go_ret2
                exact ⟨Or.inr (Or.inl ⟨HX2.out, rfl⟩), HW.out⟩
    · obtain rfl : k = T.size := by omega
      obtain ⟨h1, h2⟩ := HH.out
      have HE : Hid (allHex T ∧ a = hexVal T 0 T.size) := ⟨h2, h1⟩
      clear h1 h2 HH
      go_wp2
      go_ret2
      obtain ⟨h1, h2⟩ := HE.out
      subst h2
      exact ⟨Or.inl ⟨h1, rfl⟩, HW.out⟩

end Go.Proofs.YtbjohedenfindaaGreatDoor

namespace Go.Proofs
open Go.Shelf
def Tryz.laysC245_ren : Go.Shelf.Ren := ⟨fun | 245 => 184 | 279 => 197 | 280 => 198 | 281 => 199 | 282 => 200 | 316 => 209 | 171 => 91 | 205 => 210 | 243 => 119 | 246 => 131 | 283 => 147 | 284 => 148 | 285 => 149 | 286 => 150 | 129 => 162 | 317 => 161 | 318 => 163 | 319 => 164 | 320 => 165 | 337 => 175 | 338 => 176 | n => n, fun | 9 => 9 | 3 => 3 | 75 => 24 | 167 => 240 | 4 => 4 | 168 => 243 | 210 => 255 | 37 => 68 | 0 => 0 | 127 => 113 | 145 => 261 | 143 => 259 | 2 => 2 | 171 => 199 | 53 => 119 | 5 => 5 | 173 => 202 | 212 => 215 | 51 => 216 | 20 => 20 | 213 => 217 | 46 => 197 | 232 => 231 | 233 => 232 | 80 => 74 | n => n, fun | 15 => 14 | 16 => 15 | 17 => 11 | 18 => 12 | 19 => 13 | n => n⟩
theorem Tryz.laysC245 : Go.Proofs.LaysC.n245 Tryz.prog Tryz.laysC245_ren := {
  mixed := by kernel_rfl
  f129 := Tryz.func162.trans (congrArg some (by kernel_rfl))
  f171 := Tryz.func91.trans (congrArg some (by kernel_rfl))
  f205 := Tryz.func210.trans (congrArg some (by kernel_rfl))
  f243 := Tryz.func119.trans (congrArg some (by kernel_rfl))
  f245 := Tryz.func184.trans (congrArg some (by kernel_rfl))
  f246 := Tryz.func131.trans (congrArg some (by kernel_rfl))
  f279 := Tryz.func197.trans (congrArg some (by kernel_rfl))
  f280 := Tryz.func198.trans (congrArg some (by kernel_rfl))
  f281 := Tryz.func199.trans (congrArg some (by kernel_rfl))
  f282 := Tryz.func200.trans (congrArg some (by kernel_rfl))
  f283 := Tryz.func147.trans (congrArg some (by kernel_rfl))
  f284 := Tryz.func148.trans (congrArg some (by kernel_rfl))
  f285 := Tryz.func149.trans (congrArg some (by kernel_rfl))
  f286 := Tryz.func150.trans (congrArg some (by kernel_rfl))
  f316 := Tryz.func209.trans (congrArg some (by kernel_rfl))
  f317 := Tryz.func161.trans (congrArg some (by kernel_rfl))
  f318 := Tryz.func163.trans (congrArg some (by kernel_rfl))
  f319 := Tryz.func164.trans (congrArg some (by kernel_rfl))
  f320 := Tryz.func165.trans (congrArg some (by kernel_rfl))
  f337 := Tryz.func175.trans (congrArg some (by kernel_rfl))
  f338 := Tryz.func176.trans (congrArg some (by kernel_rfl))
  t0 := Tryz.underlying0
  a0 := Tryz.isAgg0
  z0 := Tryz.sizeOf0
  v0 := Tryz.zeroValue0
  t2 := Tryz.underlying2
  a2 := Tryz.isAgg2
  z2 := Tryz.sizeOf2
  v2 := Tryz.zeroValue2
  t3 := Tryz.underlying3
  a3 := Tryz.isAgg3
  z3 := Tryz.sizeOf3
  v3 := Tryz.zeroValue3
  t4 := Tryz.underlying4
  a4 := Tryz.isAgg4
  z4 := Tryz.sizeOf4
  v4 := Tryz.zeroValue4
  t5 := Tryz.underlying5
  a5 := Tryz.isAgg5
  z5 := Tryz.sizeOf5
  v5 := Tryz.zeroValue5
  t9 := Tryz.underlying9
  a9 := Tryz.isAgg9
  z9 := Tryz.sizeOf9
  v9 := Tryz.zeroValue9
  t20 := Tryz.underlying20
  a20 := Tryz.isAgg20
  z20 := Tryz.sizeOf20
  v20 := Tryz.zeroValue20
  t37 := Tryz.underlying68
  a37 := Tryz.isAgg68
  z37 := Tryz.sizeOf68
  v37 := Tryz.zeroValue68
  t46 := Tryz.underlying197
  a46 := Tryz.isAgg197
  z46 := Tryz.sizeOf197
  v46 := Tryz.zeroValue197
  t51 := Tryz.underlying216
  a51 := Tryz.isAgg216
  z51 := Tryz.sizeOf216
  v51 := Tryz.zeroValue216
  t53 := Tryz.underlying119
  a53 := Tryz.isAgg119
  z53 := Tryz.sizeOf119
  v53 := Tryz.zeroValue119
  t75 := Tryz.underlying24
  a75 := Tryz.isAgg24
  z75 := Tryz.sizeOf24
  v75 := Tryz.zeroValue24
  t127 := Tryz.underlying113
  a127 := Tryz.isAgg113
  z127 := Tryz.sizeOf113
  v127 := Tryz.zeroValue113
  t143 := Tryz.underlying259
  a143 := Tryz.isAgg259
  z143 := Tryz.sizeOf259
  v143 := Tryz.zeroValue259
  t145 := Tryz.underlying261
  a145 := Tryz.isAgg261
  z145 := Tryz.sizeOf261
  v145 := Tryz.zeroValue261
  t167 := Tryz.underlying240
  a167 := Tryz.isAgg240
  z167 := Tryz.sizeOf240
  v167 := Tryz.zeroValue240
  t168 := Tryz.underlying243
  a168 := Tryz.isAgg243
  z168 := Tryz.sizeOf243
  v168 := Tryz.zeroValue243
  t171 := Tryz.underlying199
  a171 := Tryz.isAgg199
  z171 := Tryz.sizeOf199
  v171 := Tryz.zeroValue199
  t173 := Tryz.underlying202
  a173 := Tryz.isAgg202
  z173 := Tryz.sizeOf202
  v173 := Tryz.zeroValue202
  t210 := Tryz.underlying255
  a210 := Tryz.isAgg255
  z210 := Tryz.sizeOf255
  v210 := Tryz.zeroValue255
  t212 := Tryz.underlying215
  a212 := Tryz.isAgg215
  z212 := Tryz.sizeOf215
  v212 := Tryz.zeroValue215
  t213 := Tryz.underlying217
  a213 := Tryz.isAgg217
  z213 := Tryz.sizeOf217
  t232 := Tryz.underlying231
  a232 := Tryz.isAgg231
  z232 := Tryz.sizeOf231
  v232 := Tryz.zeroValue231
  t233 := Tryz.underlying232
  a233 := Tryz.isAgg232
  z233 := Tryz.sizeOf232
  v233 := Tryz.zeroValue232
  g15 := by kernel_rfl
  g16 := by kernel_rfl
  g17 := by kernel_rfl
  g18 := by kernel_rfl
  g19 := by kernel_rfl
  t80 := Tryz.underlying74
  a80 := Tryz.isAgg74
  z80 := Tryz.sizeOf74
  v80 := Tryz.zeroValue74
  i0 := by kernel_rfl
  i2 := by kernel_rfl
  i3 := by kernel_rfl
  i4 := by kernel_rfl
  i5 := by kernel_rfl
  i9 := by kernel_rfl
  i20 := by kernel_rfl
  i37 := by kernel_rfl
  i46 := by kernel_rfl
  i51 := by kernel_rfl
  i53 := by kernel_rfl
  i75 := by kernel_rfl
  i80 := by kernel_rfl
  i127 := by kernel_rfl
  i143 := by kernel_rfl
  i145 := by kernel_rfl
  i167 := by kernel_rfl
  i168 := by kernel_rfl
  i171 := by kernel_rfl
  i173 := by kernel_rfl
  i210 := by kernel_rfl
  i212 := by kernel_rfl
  i232 := by kernel_rfl
  i233 := by kernel_rfl
  m15 := by kernel_rfl
  m16 := by kernel_rfl
  m17 := by kernel_rfl
  m18 := by kernel_rfl
  m19 := by kernel_rfl
  c0 := by kernel_rfl
  c2 := by kernel_rfl
  c3 := by kernel_rfl
  c4 := by kernel_rfl
  c5 := by kernel_rfl
  c9 := by kernel_rfl
  c20 := by kernel_rfl
  c37 := by kernel_rfl
  c46 := by kernel_rfl
  c51 := by kernel_rfl
  c53 := by kernel_rfl
  c75 := by kernel_rfl
  c80 := by kernel_rfl
  c127 := by kernel_rfl
  c143 := by kernel_rfl
  c145 := by kernel_rfl
  c167 := by kernel_rfl
  c168 := by kernel_rfl
  c171 := by kernel_rfl
  c173 := by kernel_rfl
  c210 := by kernel_rfl
  c212 := by kernel_rfl
  c213 := by kernel_rfl
  c232 := by kernel_rfl
  c233 := by kernel_rfl }
open Go.RowKit in
theorem Tryz.strconv_toError_syntax (fn s : ByteArray) (base bits : Int) (ev : Value) (w : World) (hlim : s.size ≤ 281474976710656) (hv : w.cell? ⟨14, 0, none⟩ = some ev) (hev : ev = .nilIface ∨ ∃ te pe, ev = .iface te pe) :
    Calls Tryz.prog 184 #[.string fn, .string s, .int .i64 base, .int .i64 bits, .iface 240 (.int .i64 2)] w fun e w' => ∃ N, e = .returned (.iface 243 (.pointer (some ⟨N, 0, none⟩))) ∧ w.heap.size ≤ N ∧ w'.heap[N]? = some (.cells #[.string fn, .string s, ev] 255 (0, 0)) ∧ Below w.heap.size w w' := Any.strconv_toError_syntax Tryz.laysC245 fn s base bits ev w hlim hv hev
open Go.RowKit in
theorem Tryz.strconv_toError_range (fn s : ByteArray) (base bits : Int) (ev : Value) (w : World) (hlim : s.size ≤ 281474976710656) (hv : w.cell? ⟨15, 0, none⟩ = some ev) (hev : ev = .nilIface ∨ ∃ te pe, ev = .iface te pe) :
    Calls Tryz.prog 184 #[.string fn, .string s, .int .i64 base, .int .i64 bits, .iface 240 (.int .i64 1)] w fun e w' => ∃ N, e = .returned (.iface 243 (.pointer (some ⟨N, 0, none⟩))) ∧ w.heap.size ≤ N ∧ w'.heap[N]? = some (.cells #[.string fn, .string s, ev] 255 (0, 0)) ∧ Below w.heap.size w w' := Any.strconv_toError_range Tryz.laysC245 fn s base bits ev w hlim hv hev
def Tryz.laysC172_ren : Go.Shelf.Ren := ⟨fun | 172 => 172 | 244 => 183 | 245 => 184 | 247 => 196 | 279 => 197 | 280 => 198 | 281 => 199 | 282 => 200 | 287 => 195 | 316 => 209 | 171 => 91 | 205 => 210 | 321 => 207 | 322 => 208 | 243 => 119 | 246 => 131 | 283 => 147 | 284 => 148 | 285 => 149 | 286 => 150 | 129 => 162 | 317 => 161 | 318 => 163 | 319 => 164 | 320 => 165 | 337 => 175 | 338 => 176 | n => n, fun | 9 => 9 | 3 => 3 | 75 => 24 | 76 => 107 | 4 => 4 | 5 => 5 | 167 => 240 | 37 => 68 | 0 => 0 | 85 => 241 | 2 => 2 | 168 => 243 | 53 => 119 | 175 => 228 | 46 => 197 | 210 => 255 | 127 => 113 | 145 => 261 | 143 => 259 | 21 => 21 | 171 => 199 | 173 => 202 | 212 => 215 | 51 => 216 | 20 => 20 | 213 => 217 | 232 => 231 | 233 => 232 | 80 => 74 | n => n, fun | 15 => 14 | 16 => 15 | 17 => 11 | 18 => 12 | 19 => 13 | n => n⟩
theorem Tryz.laysC172 : Go.Proofs.LaysC.n172 Tryz.prog Tryz.laysC172_ren := {
  mixed := by kernel_rfl
  f129 := Tryz.func162.trans (congrArg some (by kernel_rfl))
  f171 := Tryz.func91.trans (congrArg some (by kernel_rfl))
  f172 := Tryz.func172.trans (congrArg some (by kernel_rfl))
  f205 := Tryz.func210.trans (congrArg some (by kernel_rfl))
  f243 := Tryz.func119.trans (congrArg some (by kernel_rfl))
  f244 := Tryz.func183.trans (congrArg some (by kernel_rfl))
  f245 := Tryz.func184.trans (congrArg some (by kernel_rfl))
  f246 := Tryz.func131.trans (congrArg some (by kernel_rfl))
  f247 := Tryz.func196.trans (congrArg some (by kernel_rfl))
  f279 := Tryz.func197.trans (congrArg some (by kernel_rfl))
  f280 := Tryz.func198.trans (congrArg some (by kernel_rfl))
  f281 := Tryz.func199.trans (congrArg some (by kernel_rfl))
  f282 := Tryz.func200.trans (congrArg some (by kernel_rfl))
  f283 := Tryz.func147.trans (congrArg some (by kernel_rfl))
  f284 := Tryz.func148.trans (congrArg some (by kernel_rfl))
  f285 := Tryz.func149.trans (congrArg some (by kernel_rfl))
  f286 := Tryz.func150.trans (congrArg some (by kernel_rfl))
  f287 := Tryz.func195.trans (congrArg some (by kernel_rfl))
  f316 := Tryz.func209.trans (congrArg some (by kernel_rfl))
  f317 := Tryz.func161.trans (congrArg some (by kernel_rfl))
  f318 := Tryz.func163.trans (congrArg some (by kernel_rfl))
  f319 := Tryz.func164.trans (congrArg some (by kernel_rfl))
  f320 := Tryz.func165.trans (congrArg some (by kernel_rfl))
  f321 := Tryz.func207.trans (congrArg some (by kernel_rfl))
  f322 := Tryz.func208.trans (congrArg some (by kernel_rfl))
  f337 := Tryz.func175.trans (congrArg some (by kernel_rfl))
  f338 := Tryz.func176.trans (congrArg some (by kernel_rfl))
  t0 := Tryz.underlying0
  a0 := Tryz.isAgg0
  z0 := Tryz.sizeOf0
  v0 := Tryz.zeroValue0
  t2 := Tryz.underlying2
  a2 := Tryz.isAgg2
  z2 := Tryz.sizeOf2
  v2 := Tryz.zeroValue2
  t3 := Tryz.underlying3
  a3 := Tryz.isAgg3
  z3 := Tryz.sizeOf3
  v3 := Tryz.zeroValue3
  t4 := Tryz.underlying4
  a4 := Tryz.isAgg4
  z4 := Tryz.sizeOf4
  v4 := Tryz.zeroValue4
  t5 := Tryz.underlying5
  a5 := Tryz.isAgg5
  z5 := Tryz.sizeOf5
  v5 := Tryz.zeroValue5
  t9 := Tryz.underlying9
  a9 := Tryz.isAgg9
  z9 := Tryz.sizeOf9
  v9 := Tryz.zeroValue9
  t20 := Tryz.underlying20
  a20 := Tryz.isAgg20
  z20 := Tryz.sizeOf20
  v20 := Tryz.zeroValue20
  t21 := Tryz.underlying21
  a21 := Tryz.isAgg21
  z21 := Tryz.sizeOf21
  v21 := Tryz.zeroValue21
  t37 := Tryz.underlying68
  a37 := Tryz.isAgg68
  z37 := Tryz.sizeOf68
  v37 := Tryz.zeroValue68
  t46 := Tryz.underlying197
  a46 := Tryz.isAgg197
  z46 := Tryz.sizeOf197
  v46 := Tryz.zeroValue197
  t51 := Tryz.underlying216
  a51 := Tryz.isAgg216
  z51 := Tryz.sizeOf216
  v51 := Tryz.zeroValue216
  t53 := Tryz.underlying119
  a53 := Tryz.isAgg119
  z53 := Tryz.sizeOf119
  v53 := Tryz.zeroValue119
  t75 := Tryz.underlying24
  a75 := Tryz.isAgg24
  z75 := Tryz.sizeOf24
  v75 := Tryz.zeroValue24
  t76 := Tryz.underlying107
  a76 := Tryz.isAgg107
  z76 := Tryz.sizeOf107
  v76 := Tryz.zeroValue107
  t85 := Tryz.underlying241
  a85 := Tryz.isAgg241
  z85 := Tryz.sizeOf241
  v85 := Tryz.zeroValue241
  t127 := Tryz.underlying113
  a127 := Tryz.isAgg113
  z127 := Tryz.sizeOf113
  v127 := Tryz.zeroValue113
  t143 := Tryz.underlying259
  a143 := Tryz.isAgg259
  z143 := Tryz.sizeOf259
  v143 := Tryz.zeroValue259
  t145 := Tryz.underlying261
  a145 := Tryz.isAgg261
  z145 := Tryz.sizeOf261
  v145 := Tryz.zeroValue261
  t167 := Tryz.underlying240
  a167 := Tryz.isAgg240
  z167 := Tryz.sizeOf240
  v167 := Tryz.zeroValue240
  t168 := Tryz.underlying243
  a168 := Tryz.isAgg243
  z168 := Tryz.sizeOf243
  v168 := Tryz.zeroValue243
  t171 := Tryz.underlying199
  a171 := Tryz.isAgg199
  z171 := Tryz.sizeOf199
  v171 := Tryz.zeroValue199
  t173 := Tryz.underlying202
  a173 := Tryz.isAgg202
  z173 := Tryz.sizeOf202
  v173 := Tryz.zeroValue202
  t175 := Tryz.underlying228
  a175 := Tryz.isAgg228
  z175 := Tryz.sizeOf228
  v175 := Tryz.zeroValue228
  t210 := Tryz.underlying255
  a210 := Tryz.isAgg255
  z210 := Tryz.sizeOf255
  v210 := Tryz.zeroValue255
  t212 := Tryz.underlying215
  a212 := Tryz.isAgg215
  z212 := Tryz.sizeOf215
  v212 := Tryz.zeroValue215
  t213 := Tryz.underlying217
  a213 := Tryz.isAgg217
  z213 := Tryz.sizeOf217
  t232 := Tryz.underlying231
  a232 := Tryz.isAgg231
  z232 := Tryz.sizeOf231
  v232 := Tryz.zeroValue231
  t233 := Tryz.underlying232
  a233 := Tryz.isAgg232
  z233 := Tryz.sizeOf232
  v233 := Tryz.zeroValue232
  g15 := by kernel_rfl
  g16 := by kernel_rfl
  g17 := by kernel_rfl
  g18 := by kernel_rfl
  g19 := by kernel_rfl
  t80 := Tryz.underlying74
  a80 := Tryz.isAgg74
  z80 := Tryz.sizeOf74
  v80 := Tryz.zeroValue74
  i0 := by kernel_rfl
  i2 := by kernel_rfl
  i3 := by kernel_rfl
  i4 := by kernel_rfl
  i5 := by kernel_rfl
  i9 := by kernel_rfl
  i20 := by kernel_rfl
  i21 := by kernel_rfl
  i37 := by kernel_rfl
  i46 := by kernel_rfl
  i51 := by kernel_rfl
  i53 := by kernel_rfl
  i75 := by kernel_rfl
  i76 := by kernel_rfl
  i80 := by kernel_rfl
  i85 := by kernel_rfl
  i127 := by kernel_rfl
  i143 := by kernel_rfl
  i145 := by kernel_rfl
  i167 := by kernel_rfl
  i168 := by kernel_rfl
  i171 := by kernel_rfl
  i173 := by kernel_rfl
  i175 := by kernel_rfl
  i210 := by kernel_rfl
  i212 := by kernel_rfl
  i232 := by kernel_rfl
  i233 := by kernel_rfl
  m15 := by kernel_rfl
  m16 := by kernel_rfl
  m17 := by kernel_rfl
  m18 := by kernel_rfl
  m19 := by kernel_rfl
  c0 := by kernel_rfl
  c2 := by kernel_rfl
  c3 := by kernel_rfl
  c4 := by kernel_rfl
  c5 := by kernel_rfl
  c9 := by kernel_rfl
  c20 := by kernel_rfl
  c21 := by kernel_rfl
  c37 := by kernel_rfl
  c46 := by kernel_rfl
  c51 := by kernel_rfl
  c53 := by kernel_rfl
  c75 := by kernel_rfl
  c76 := by kernel_rfl
  c80 := by kernel_rfl
  c85 := by kernel_rfl
  c127 := by kernel_rfl
  c143 := by kernel_rfl
  c145 := by kernel_rfl
  c167 := by kernel_rfl
  c168 := by kernel_rfl
  c171 := by kernel_rfl
  c173 := by kernel_rfl
  c175 := by kernel_rfl
  c210 := by kernel_rfl
  c212 := by kernel_rfl
  c213 := by kernel_rfl
  c232 := by kernel_rfl
  c233 := by kernel_rfl }
open Go.RowKit in
theorem Tryz.strconv_Atoi_ok (s : ByteArray) (hmax : s.size ≤ 9223372036854775806) (v : Int) (h : Lib.atoiAll s.data.toList = .ok v) (w : World) :
    Calls Tryz.prog 172 #[.string s] w fun e w' => e = .returned (.tuple #[.int .i64 v, .nilIface]) ∧ (w' = w ∨ ∃ t, w' = Lib.bytesWorld w 5 t) := Any.strconv_Atoi_ok Tryz.laysC172 s hmax v h w
open Go.RowKit in
theorem Tryz.strconv_Atoi_range (s : ByteArray) (hlim : s.size ≤ 281474976710656) (h : Lib.atoiAll s.data.toList = .range) (ev : Value) (w : World) (hv : w.cell? ⟨15, 0, none⟩ = some ev) (hev : ev = .nilIface ∨ ∃ te pe, ev = .iface te pe) :
    Calls Tryz.prog 172 #[.string s] w fun e w' => ∃ N, e = .returned (.tuple #[.int .i64 (Lib.atoiSat s.data.toList), .iface 243 (.pointer (some ⟨N, 0, none⟩))]) ∧ w.heap.size ≤ N ∧ w'.heap[N]? = some (.cells #[.string ⟨#[65, 116, 111, 105]⟩, .string s, ev] 255 (0, 0)) ∧ Below w.heap.size w w' := Any.strconv_Atoi_range Tryz.laysC172 s hlim h ev w hv hev
def Tryz.lays145_ren : Go.Shelf.Ren := ⟨fun | 145 => 181 | 220 => 194 | 219 => 206 | 217 => 160 | 225 => 146 | 224 => 145 | 267 => 212 | 266 => 174 | 314 => 213 | n => n, fun | 9 => 9 | 4 => 4 | 59 => 226 | 3 => 3 | 5 => 5 | 46 => 197 | 146 => 262 | 51 => 216 | n => n, fun | 1 => 10 | n => n⟩
theorem Tryz.lays145 : Go.Proofs.Lays.n145 Tryz.prog Tryz.lays145_ren := {
  mixed := by kernel_rfl
  f145 := Tryz.func181.trans (congrArg some (by kernel_rfl))
  f217 := Tryz.func160.trans (congrArg some (by kernel_rfl))
  f219 := Tryz.func206.trans (congrArg some (by kernel_rfl))
  f220 := Tryz.func194.trans (congrArg some (by kernel_rfl))
  f224 := Tryz.func145.trans (congrArg some (by kernel_rfl))
  f225 := Tryz.func146.trans (congrArg some (by kernel_rfl))
  f266 := Tryz.func174.trans (congrArg some (by kernel_rfl))
  f267 := Tryz.func212.trans (congrArg some (by kernel_rfl))
  f314 := Tryz.func213.trans (congrArg some (by kernel_rfl))
  t3 := Tryz.underlying3
  a3 := Tryz.isAgg3
  z3 := Tryz.sizeOf3
  v3 := Tryz.zeroValue3
  t4 := Tryz.underlying4
  a4 := Tryz.isAgg4
  z4 := Tryz.sizeOf4
  v4 := Tryz.zeroValue4
  t5 := Tryz.underlying5
  a5 := Tryz.isAgg5
  z5 := Tryz.sizeOf5
  v5 := Tryz.zeroValue5
  t9 := Tryz.underlying9
  a9 := Tryz.isAgg9
  z9 := Tryz.sizeOf9
  v9 := Tryz.zeroValue9
  t46 := Tryz.underlying197
  a46 := Tryz.isAgg197
  z46 := Tryz.sizeOf197
  v46 := Tryz.zeroValue197
  t51 := Tryz.underlying216
  a51 := Tryz.isAgg216
  z51 := Tryz.sizeOf216
  v51 := Tryz.zeroValue216
  t59 := Tryz.underlying226
  a59 := Tryz.isAgg226
  z59 := Tryz.sizeOf226
  v59 := Tryz.zeroValue226
  t146 := Tryz.underlying262
  a146 := Tryz.isAgg262
  z146 := Tryz.sizeOf262
  v146 := Tryz.zeroValue262
  g1 := by kernel_rfl }
open Go.RowKit Go.Lib in
theorem Tryz.strings_Cut (s sep : ByteArray) (m : Int) (w : World) (hs : s.size < 4294967281) (hm : w.cell? ⟨10, 0, none⟩ = some (.int .i64 m)) :
    Calls Tryz.prog 181 #[.string s, .string sep] w fun e w' => e = .returned (.tuple #[.string ⟨(Lib.cut s.data.toList sep.data.toList).1.toArray⟩, .string ⟨(Lib.cut s.data.toList sep.data.toList).2.1.toArray⟩, .bool (Lib.cut s.data.toList sep.data.toList).2.2]) ∧ ∃ n, w' = w.drewN n := Any.strings_Cut Tryz.lays145 s sep m w hs hm
def Tryz.lays197_ren : Go.Shelf.Ren := ⟨fun | 197 => 126 | 260 => 138 | n => n, fun | 9 => 9 | 21 => 21 | 3 => 3 | 4 => 4 | 5 => 5 | 105 => 153 | 119 => 209 | 0 => 0 | 46 => 197 | 139 => 212 | 138 => 211 | n => n, fun | 3 => 8 | 4 => 9 | n => n⟩
theorem Tryz.lays197 : Go.Proofs.Lays.n197 Tryz.prog Tryz.lays197_ren := {
  mixed := by kernel_rfl
  f197 := Tryz.func126.trans (congrArg some (by kernel_rfl))
  f260 := Tryz.func138.trans (congrArg some (by kernel_rfl))
  t0 := Tryz.underlying0
  a0 := Tryz.isAgg0
  z0 := Tryz.sizeOf0
  v0 := Tryz.zeroValue0
  t3 := Tryz.underlying3
  a3 := Tryz.isAgg3
  z3 := Tryz.sizeOf3
  v3 := Tryz.zeroValue3
  t4 := Tryz.underlying4
  a4 := Tryz.isAgg4
  z4 := Tryz.sizeOf4
  v4 := Tryz.zeroValue4
  t5 := Tryz.underlying5
  a5 := Tryz.isAgg5
  z5 := Tryz.sizeOf5
  v5 := Tryz.zeroValue5
  t9 := Tryz.underlying9
  a9 := Tryz.isAgg9
  z9 := Tryz.sizeOf9
  v9 := Tryz.zeroValue9
  t21 := Tryz.underlying21
  a21 := Tryz.isAgg21
  z21 := Tryz.sizeOf21
  v21 := Tryz.zeroValue21
  t46 := Tryz.underlying197
  a46 := Tryz.isAgg197
  z46 := Tryz.sizeOf197
  v46 := Tryz.zeroValue197
  t105 := Tryz.underlying153
  a105 := Tryz.isAgg153
  z105 := Tryz.sizeOf153
  v105 := Tryz.zeroValue153
  t119 := Tryz.underlying209
  a119 := Tryz.isAgg209
  z119 := Tryz.sizeOf209
  t138 := Tryz.underlying211
  a138 := Tryz.isAgg211
  z138 := Tryz.sizeOf211
  v138 := Tryz.zeroValue211
  t139 := Tryz.underlying212
  a139 := Tryz.isAgg212
  z139 := Tryz.sizeOf212
  v139 := Tryz.zeroValue212
  g3 := by kernel_rfl
  g4 := by kernel_rfl }
open Go.RowKit Go.Lib in
theorem Tryz.utf8_DecodeRuneInString (s : ByteArray) (w : World) (hT : Lib.Utf8Tabs 8 9 w) :
    Calls Tryz.prog 126 #[.string s] w fun e w' => e = .returned (.tuple #[.int .i32 (Lib.decodeGo s).1, .int .i64 (Lib.decodeGo s).2]) ∧ Below w.heap.size w w' := Any.utf8_DecodeRuneInString Tryz.lays197 s w hT
end Go.Proofs
