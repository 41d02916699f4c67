/- Texts of the proof, put together: LLib. -/
import Derived.Test.YtbjohedenfindaaGreatDoorMg40
import Derived.Test.YtbjohedenfindaaGreatDoorMg41
import Derived.Lib.IndexBytes
import Derived.Lib.IndexLaws
namespace Go.Proofs.YtbjohedenfindaaGreatDoor
open Go.RowKit
set_option linter.unusedVariables false
set_option maxRecDepth 100000

/-- the variables that the library's functions read -/
structure LaidV (W0 : World) : Prop where
  syn : ∃ te pe, W0.cell? ⟨0, 0, none⟩ = some (.iface te pe)
  bnd : ∃ te pe, W0.cell? ⟨1, 0, none⟩ = some (.iface te pe)
  mlen : ∃ m, W0.cell? ⟨10, 0, none⟩ = some (.int .i64 m)
  tabs : Lib.Utf8Tabs 8 9 W0
  nsyn : ∃ te pe, W0.cell? ⟨14, 0, none⟩ = some (.iface te pe)
  nrng : ∃ te pe, W0.cell? ⟨15, 0, none⟩ = some (.iface te pe)

theorem env_cell {W0 w : World} (h : Env W0 w) {g o : Nat} (hg : g < 16) : w.cell? ⟨g, o, none⟩ = W0.cell? ⟨g, o, none⟩ := by
  have := h.2 g hg
  simp [World.cell?, this]
theorem Env.below {W0 w w' : World} (h : Env W0 w) (hb : Below w.heap.size w w') : Env W0 w' := ⟨Nat.le_trans h.1 hb.size, fun k hk => (hb.block k (by have := h.1; omega)).trans (h.2 k hk)⟩

theorem toList_at (T : ByteArray) (j : Nat) (hj : j < T.size) : T.data.toList[j]? = some (T.get! j) := by
  rw [get_bang, Array.getElem?_toList]
  have h : T.data[j]? = some (T.data[j]'hj) := Array.getElem?_eq_getElem hj
  rw [h]
  rfl
theorem toList_len (T : ByteArray) : T.data.toList.length = T.size := by rw [Array.length_toList]; rfl
theorem indexAt {T : ByteArray} {k : Nat} (h : firstAt T 125 k) : Lib.indexByte T.data.toList 125 = (k : Int) := by
  obtain ⟨h1, h2, h3⟩ := h
  have hg := toList_at T
  rcases Int.lt_or_le (Lib.indexByte T.data.toList 125) 0 with h | h
  · have h0 : Lib.indexByte T.data.toList 125 = -1 := by have := Lib.indexByte_ge T.data.toList 125; omega
    have := Lib.indexByte_none h0 k
    rw [hg k h1] at this
    exact absurd (congrArg some (UInt8.toNat_inj.1 h2)) this
  · obtain ⟨o, ho⟩ := Int.eq_ofNat_of_zero_le h
    obtain ⟨p1, p2⟩ := Lib.indexByte_some ho
    have hoT : o < T.size := by
      have := (List.getElem?_eq_some_iff.1 p1).1
      simpa using this
    rw [ho]
    rcases Nat.lt_trichotomy o k with hlt | rfl | hlt
    · rw [hg o hoT] at p1
      exact absurd (by rw [Option.some.inj p1]; rfl) (h3 o hlt)
    · rfl
    · have := p2 k hlt
      rw [hg k h1] at this
      exact absurd (congrArg some (UInt8.toNat_inj.1 h2)) this
theorem indexNo {T : ByteArray} (h : ∀ j, j < T.size → (T.get! j).toNat ≠ 125) : Lib.indexByte T.data.toList 125 = -1 := by
  rcases Int.lt_or_le (Lib.indexByte T.data.toList 125) 0 with h1 | h1
  · have := Lib.indexByte_ge T.data.toList 125; omega
  · obtain ⟨o, ho⟩ := Int.eq_ofNat_of_zero_le h1
    obtain ⟨p1, p2⟩ := Lib.indexByte_some ho
    have hoT : o < T.size := by
      have := (List.getElem?_eq_some_iff.1 p1).1
      simpa using this
    rw [toList_at T o hoT] at p1
    exact absurd (by rw [Option.some.inj p1]; rfl) (h o hoT)
theorem take_extract (T : ByteArray) (k : Nat) : (⟨(T.data.toList.take k).toArray⟩ : ByteArray) = T.extract 0 k := by
  apply ByteArray.ext
  rw [ByteArray.data_extract]
  apply Array.toList_inj.1
  simp

theorem cutT_any {W0 : World} (V : LaidV W0) (T : ByteArray) (w : World) (k : Nat) (hE : Env W0 w) (hT : T.size ≤ 1000000) (h : firstAt T 125 k) :
    Calls Tryz.prog 181 #[.string T, .string ⟨#[125]⟩] w fun e w' => (∃ b, e = .returned (.tuple #[.string (T.extract 0 k), .string b, .bool true])) ∧ Below w.heap.size w w' := by
  obtain ⟨m, hm⟩ := V.mlen
  refine (Tryz.strings_Cut T ⟨#[125]⟩ m w (by omega) ((env_cell hE (by omega)).trans hm)).mono ?_
  rintro e w' ⟨rfl, n, rfl⟩
  refine ⟨?_, ⟨rfl, rfl, rfl, Nat.le_refl _, fun _ _ => rfl⟩⟩
  have hi : Lib.index T.data.toList [125] = (k : Int) := by rw [Lib.index_one]; exact indexAt h
  have hc : Lib.cut T.data.toList (⟨#[125]⟩ : ByteArray).data.toList = (T.data.toList.take k, T.data.toList.drop (k + 1), true) := by
    unfold Lib.cut
    show (if 0 ≤ Lib.index T.data.toList [125] then _ else _) = _
    rw [hi, if_pos (by omega)]
    rfl
  rw [hc]
  exact ⟨⟨(T.data.toList.drop (k + 1)).toArray⟩, by rw [take_extract]⟩
theorem cutF_any {W0 : World} (V : LaidV W0) (T : ByteArray) (w : World) (hE : Env W0 w) (hT : T.size ≤ 1000000) (h : ∀ j, j < T.size → (T.get! j).toNat ≠ 125) :
    Calls Tryz.prog 181 #[.string T, .string ⟨#[125]⟩] w fun e w' => (∃ b, e = .returned (.tuple #[.string T, .string b, .bool false])) ∧ Below w.heap.size w w' := by
  obtain ⟨m, hm⟩ := V.mlen
  refine (Tryz.strings_Cut T ⟨#[125]⟩ m w (by omega) ((env_cell hE (by omega)).trans hm)).mono ?_
  rintro e w' ⟨rfl, n, rfl⟩
  refine ⟨?_, ⟨rfl, rfl, rfl, Nat.le_refl _, fun _ _ => rfl⟩⟩
  have hi : Lib.index T.data.toList [125] = -1 := by rw [Lib.index_one]; exact indexNo h
  have hc : Lib.cut T.data.toList (⟨#[125]⟩ : ByteArray).data.toList = (T.data.toList, [], false) := by
    unfold Lib.cut
    show (if 0 ≤ Lib.index T.data.toList [125] then _ else _) = _
    rw [hi, if_neg (by omega)]
  rw [hc]
  exact ⟨⟨#[]⟩, rfl⟩

theorem digVal_mono {T : ByteArray} (hd : allDig T) : ∀ m k, k ≤ m → m ≤ T.size → 0 ≤ digVal T 0 k ∧ digVal T 0 k ≤ digVal T 0 m := by
  have h0 : ∀ k, k ≤ T.size → 0 ≤ digVal T 0 k := by
    intro k
    induction k with
    | zero => intro _; simp [digVal]
    | succ k ih =>
      intro h
      have := ih (by omega)
      have := hd k (by omega)
      simp only [digVal, Nat.zero_add]
      omega
  intro m
  induction m with
  | zero => intro k hk _; obtain rfl : k = 0 := by omega
            simp [digVal]
  | succ m ih =>
    intro k hk hm
    rcases Nat.lt_or_ge k (m + 1) with h | h
    · have h1 := ih k (by omega) (by omega)
      have h2 := hd m (by omega)
      have h3 := h0 m (by omega)
      have e : digVal T 0 (m + 1) = digVal T 0 m * 10 + (((T.get! m).toNat : Int) - 48) := by simp [digVal]
      rw [e]; omega
    · obtain rfl : k = m + 1 := by omega
      exact ⟨h0 _ hm, Int.le_refl _⟩
theorem ato_run {T : ByteArray} (hd : allDig T) : ∀ n k acc : Nat, k + n = T.size → (acc : Int) = digVal T 0 k →
    (∃ u : Nat, Lib.parseUint10 acc (T.data.toList.drop k) = .ok u ∧ (u : Int) = digVal T 0 T.size) ∨ (Lib.parseUint10 acc (T.data.toList.drop k) = .range ∧ 50 < digVal T 0 T.size)
  | 0, k, acc, hk, ha => by
    left
    have hl : T.data.toList.drop k = [] := List.drop_eq_nil_of_le (by rw [toList_len]; omega)
    rw [hl]
    refine ⟨acc, rfl, ?_⟩
    rw [ha, ← hk, Nat.add_zero]
  | n + 1, k, acc, hk, ha => by
    have hlen := toList_len T
    have hdrop : T.data.toList.drop k = T.get! k :: T.data.toList.drop (k + 1) := by
      rw [List.drop_eq_getElem_cons (by omega)]
      congr 1
      rw [← getD_bang]
      simp [List.getD, List.getElem?_eq_getElem (show k < T.data.toList.length by omega)]
    have h1 := hd k (by omega)
    have h2 := digVal_mono hd T.size k (by omega) (by omega)
    have h3 := digVal_mono hd T.size (k + 1) (by omega) (by omega)
    have e : digVal T 0 (k + 1) = digVal T 0 k * 10 + (((T.get! k).toNat : Int) - 48) := by simp [digVal]
    rw [hdrop, Lib.parseUint10, if_pos h1]
    split
    · exact .inr ⟨rfl, by omega⟩
    · split
      · exact .inr ⟨rfl, by omega⟩
      · exact ato_run hd n (k + 1) _ (by omega) (by rw [e]; omega)
theorem ato_all {T : ByteArray} (hd : allDig T) (h1 : 1 ≤ T.size) : (Lib.atoiAll T.data.toList = .ok (digVal T 0 T.size)) ∨ (Lib.atoiAll T.data.toList = .range ∧ 50 < digVal T 0 T.size) := by
  have hlen := toList_len T
  have hR := ato_run hd T.size 0 0 (by omega) (by simp [digVal])
  have hd0 := hd 0 (by omega)
  have hfst : T.data.toList.getD 0 0 = T.get! 0 := getD_bang T 0
  rw [List.drop_zero] at hR
  cases hl : T.data.toList with
  | nil => rw [hl] at hlen; simp at hlen; omega
  | cons c r =>
    rw [hl] at hfst hR
    have hc : c = T.get! 0 := by simpa using hfst
    subst hc
    have hm : Lib.parseMag ((T.get! 0) :: r) = Lib.parseUint10 0 ((T.get! 0) :: r) := by unfold Lib.parseMag; rw [if_neg (by simp)]
    unfold Lib.atoiAll
    simp only
    rw [if_neg (show ¬ ((T.get! 0).toNat = 43 ∨ (T.get! 0).toNat = 45) by omega), hm]
    rcases hR with ⟨u, h2, h3⟩ | ⟨h2, h3⟩
    · rw [h2]
      simp only
      have hn : ¬ (T.get! 0).toNat = 45 := by omega
      by_cases hb : 9223372036854775808 ≤ u
      · rw [if_pos ⟨hn, hb⟩]
        exact .inr ⟨rfl, by omega⟩
      · rw [if_neg (by omega), if_neg (by omega), if_neg hn, h3]
        exact .inl rfl
    · rw [h2]
      exact .inr ⟨rfl, h3⟩
theorem ato_any {W0 : World} (V : LaidV W0) (T : ByteArray) (w : World) (hE : Env W0 w) (h1 : 1 ≤ T.size) (hT : T.size ≤ 1000000) (hd : allDig T) :
    Calls Tryz.prog 172 #[.string T] w fun e w' => (∃ n ev, e = .returned (.tuple #[.int .i64 n, ev]) ∧ ((ev = .nilIface ∧ n = digVal T 0 T.size) ∨ (∃ te pe, ev = .iface te pe ∧ 50 < digVal T 0 T.size))) ∧ Below w.heap.size w w' := by
  rcases ato_all hd h1 with h | ⟨h, hb⟩
  · refine (Tryz.strconv_Atoi_ok T (by omega) _ h w).mono ?_
    rintro e w' ⟨rfl, hw⟩
    refine ⟨⟨_, _, rfl, .inl ⟨rfl, rfl⟩⟩, ?_⟩
    rcases hw with rfl | ⟨t, rfl⟩
    · exact Below.refl _ _
    · exact Lib.bytesWorld_below _ _ _
  · obtain ⟨te, pe, hr⟩ := V.nrng
    refine (Tryz.strconv_Atoi_range T (by omega) h _ w ((env_cell hE (by omega)).trans hr) (.inr ⟨te, pe, rfl⟩)).mono ?_
    rintro e w' ⟨N, rfl, _, _, hw⟩
    exact ⟨⟨_, _, rfl, .inr ⟨_, _, rfl, hb⟩⟩, hw⟩

theorem dec_any {W0 : World} (V : LaidV W0) (s : ByteArray) (w : World) (hE : Env W0 w) :
    Calls Tryz.prog 126 #[.string s] w fun e w' => e = .returned (.tuple #[.int .i32 (decGo s).1, .int .i64 (decGo s).2]) ∧ Below w.heap.size w w' :=
  Tryz.utf8_DecodeRuneInString s w ⟨fun c hc => (env_cell hE (by omega)).trans (V.tabs.1 c hc), fun i hi => ⟨(env_cell hE (by omega)).trans (V.tabs.2 i hi).1, (env_cell hE (by omega)).trans (V.tabs.2 i hi).2⟩⟩

/-- how the library's own ParseUint ends at base 16 -/
def HexOut (T : ByteArray) (e : Ending) : Prop :=
  (1 ≤ T.size ∧ allHex T ∧ e = .returned (.tuple #[.int .u64 (hexVal T 0 T.size), .nilIface])) ∨
  ((T.size = 0 ∨ ¬ allHex T ∨ 6 < T.size) ∧ ∃ n te pe, e = .returned (.tuple #[.int .u64 n, .iface te pe]))

set_option maxHeartbeats 1000000 in
theorem iparse_none (w : World) : Calls Tryz.prog 195 #[.string ⟨#[]⟩, .int .i64 16, .int .i64 64] w fun e w' => e = .returned (.tuple #[.int .u64 0, .iface 240 (.int .i64 2)]) ∧ w' = w := by
  go_enter Tryz.func195, Tryz.ntmps195
  go_wp2
  go_ret2
  exact ⟨rfl, rfl⟩

set_option maxHeartbeats 2000000 in
theorem par_any {W0 : World} (V : LaidV W0) (T : ByteArray) (w : World) (hE : Env W0 w) (hT : T.size ≤ 1000000) :
    Calls Tryz.prog 182 #[.string T, .int .i64 16, .int .i64 64] w fun e w' => HexOut T e ∧ Below w.heap.size w w' := by
  have HI : Hid (Calls Tryz.prog 195 #[.string T, .int .i64 16, .int .i64 64] w fun e w' => (∃ v, (1 ≤ T.size ∧ allHex T ∧ v = hexVal T 0 T.size) ∧ e = .returned (.tuple #[.int .u64 v, .nilIface]) ∨ (T.size = 0 ∨ ¬ allHex T ∨ 6 < T.size) ∧ (e = .returned (.tuple #[.int .u64 v, .iface 240 (.int .i64 2)]) ∨ e = .returned (.tuple #[.int .u64 v, .iface 240 (.int .i64 1)]))) ∧ Below w.heap.size w w' ∧ Env W0 w') := by
    by_cases h0 : T.size = 0
    · have he : T = ⟨#[]⟩ := by
        apply ByteArray.ext
        exact Array.eq_empty_of_size_eq_zero h0
      rw [he]
      refine (iparse_none w).mono ?_
      rintro e w' ⟨rfl, rfl⟩
      exact ⟨⟨0, .inr ⟨.inl rfl, .inl rfl⟩⟩, Below.refl _ _, hE⟩
    · refine (iparse_any T h0 hT w).mono ?_
      rintro e w' ⟨hh, hb⟩
      refine ⟨?_, hb, hE.below hb⟩
      rcases hh with ⟨h1, rfl⟩ | ⟨h1, rfl⟩ | ⟨h1, rfl⟩
      · exact ⟨_, .inl ⟨⟨by omega, h1, rfl⟩, rfl⟩⟩
      · exact ⟨_, .inr ⟨.inr (.inl h1), .inl rfl⟩⟩
      · exact ⟨_, .inr ⟨.inr (.inr h1), .inr rfl⟩⟩
  have HS : Hid (∀ w', Env W0 w' → Calls Tryz.prog 184 #[.string ⟨#[80, 97, 114, 115, 101, 85, 105, 110, 116]⟩, .string T, .int .i64 16, .int .i64 64, .iface 240 (.int .i64 2)] w' fun e w'' => (∃ te pe, e = .returned (.iface te pe)) ∧ Below w'.heap.size w' w'') := by
    intro w' hE'
    obtain ⟨te, pe, hr⟩ := V.nsyn
    refine (Tryz.strconv_toError_syntax _ T 16 64 _ w' (by omega) ((env_cell hE' (by omega)).trans hr) (.inr ⟨te, pe, rfl⟩)).mono ?_
    rintro e w'' ⟨N, rfl, _, _, hb⟩
    exact ⟨⟨_, _, rfl⟩, hb⟩
  have HR : Hid (∀ w', Env W0 w' → Calls Tryz.prog 184 #[.string ⟨#[80, 97, 114, 115, 101, 85, 105, 110, 116]⟩, .string T, .int .i64 16, .int .i64 64, .iface 240 (.int .i64 1)] w' fun e w'' => (∃ te pe, e = .returned (.iface te pe)) ∧ Below w'.heap.size w' w'') := by
    intro w' hE'
    obtain ⟨te, pe, hr⟩ := V.nrng
    refine (Tryz.strconv_toError_range _ T 16 64 _ w' (by omega) ((env_cell hE' (by omega)).trans hr) (.inr ⟨te, pe, rfl⟩)).mono ?_
    rintro e w'' ⟨N, rfl, _, _, hb⟩
    exact ⟨⟨_, _, rfl⟩, hb⟩
  clear hE
  go_enter Tryz.func182, Tryz.ntmps182
  go_wp2_with fail
  go_at_call 195
  refine HI.out.mono ?_
  rintro e w1 ⟨⟨v, hh⟩, hb1, hE1⟩
  have HE1 : Hid (Env W0 w1) := hE1
  clear hE1 HI
  rcases hh with ⟨hv, rfl⟩ | ⟨hv, rfl | rfl⟩
  · have HV : Hid (1 ≤ T.size ∧ allHex T ∧ v = hexVal T 0 T.size) := hv
    clear hv
    go_wp2
    go_ret2
    obtain ⟨h1, h2, rfl⟩ := HV.out
    exact ⟨.inl ⟨h1, h2, rfl⟩, hb1⟩
  · have HV : Hid (T.size = 0 ∨ ¬ allHex T ∨ 6 < T.size) := hv
    clear hv
    go_wp2_with fail
    go_at_call 184
    refine (HS.out _ HE1.out).mono ?_
    rintro e w2 ⟨⟨te, pe, rfl⟩, hb2⟩
    go_wp2
    go_ret2
    exact ⟨.inr ⟨HV.out, _, _, _, rfl⟩, hb1.trans (hb2.mono hb1.size)⟩
  · have HV : Hid (T.size = 0 ∨ ¬ allHex T ∨ 6 < T.size) := hv
    clear hv
    go_wp2_with fail
    go_at_call 184
    refine (HR.out _ HE1.out).mono ?_
    rintro e w2 ⟨⟨te, pe, rfl⟩, hb2⟩
    go_wp2
    go_ret2
    exact ⟨.inr ⟨HV.out, _, _, _, rfl⟩, hb1.trans (hb2.mono hb1.size)⟩

theorem lib_of {W0 : World} (V : LaidV W0) : LibC W0 where
  syn := V.syn
  bnd := V.bnd
  con := fun S sg hs c w h0 h1 _ => con_any S sg hs c h0 h1 w
  cutT := fun T w k hE hT h => cutT_any V T w k hE hT h
  cutF := fun T w hE hT h => cutF_any V T w hE hT h
  parT := fun T w hE h1 h6 hx => (par_any V T w hE (by omega)).mono fun e w' ⟨hh, hb⟩ => by
    rcases hh with ⟨_, _, rfl⟩ | ⟨h, _⟩
    · exact ⟨rfl, hb⟩
    · rcases h with h | h | h
      · omega
      · exact absurd hx h
      · omega
  parF := fun T w hE hT hn => (par_any V T w hE hT).mono fun e w' ⟨hh, hb⟩ => by
    rcases hh with ⟨h1, h2, rfl⟩ | ⟨_, n, te, pe, rfl⟩
    · rcases hn with hn | hn
      · omega
      · exact absurd h2 hn
    · exact ⟨⟨n, te, pe, rfl⟩, hb⟩
  parL := fun T w hE hT => (par_any V T w hE hT).mono fun e w' ⟨hh, hb⟩ => by
    rcases hh with ⟨h1, h2, rfl⟩ | ⟨_, n, te, pe, rfl⟩
    · exact ⟨⟨_, _, rfl, .inl rfl⟩, hb⟩
    · exact ⟨⟨n, _, rfl, .inr ⟨te, pe, rfl⟩⟩, hb⟩
  ato := fun T w hE h1 hT hd => ato_any V T w hE h1 hT hd
  dec := fun s w hE => dec_any V s w hE

end Go.Proofs.YtbjohedenfindaaGreatDoor
