/- Texts of the proof, put together: RCnt, RHex, Wthn, RDig. -/
import Derived.Test.YtbjohedenfindaaGreatDoorPb09
import Derived.Test.YtbjohedenfindaaGreatDoorPb11
import Derived.Test.YtbjohedenfindaaGreatDoorPb10
namespace Go.Proofs.YtbjohedenfindaaGreatDoor
open Go.RowKit
set_option linter.unusedVariables false
set_option maxRecDepth 100000

theorem grown_self (w : World) (row : Option Nat) : w.grownBy w row := ⟨rfl, rfl, rfl, Nat.le_refl _, fun _ _ _ => rfl⟩
theorem get_at (s : ByteArray) (i : Nat) (h : i < s.size) : s[i]'h = s.get! i := by
  rw [get_bang]
  have h2 : i < s.data.size := h
  rw [Array.getElem?_eq_getElem h2]
  rfl
theorem env_bnd {W0 w : World} (L : LibC W0) (h : Env W0 w) : ∃ te pe, w.cell? ⟨1, 0, none⟩ = some (.iface te pe) := by
  obtain ⟨te, pe, e⟩ := L.bnd
  exact ⟨te, pe, (World.cell?_of_block (a := ⟨1, 0, none⟩) (h.2 1 (by omega))).trans e⟩
/-- good at a place, or bad -/
def XR (W0 w : World) (R : Nat) (s : ByteArray) (i o : Nat) : Prop := (SR W0 w R s i o ∧ o ≤ 1000) ∨ BR W0 w R s
theorem XR.env {W0 w : World} {R i o : Nat} {s : ByteArray} (h : XR W0 w R s i o) : Env W0 w := h.elim (fun h => h.1.env) fun h => h.env
theorem XR.r16 {W0 w : World} {R i o : Nat} {s : ByteArray} (h : XR W0 w R s i o) : 16 ≤ R := h.elim (fun h => h.1.r16) fun h => h.r16
theorem XR.lt {W0 w : World} {R i o : Nat} {s : ByteArray} (h : XR W0 w R s i o) : R < w.heap.size := h.elim (fun h => h.1.lt) fun h => h.lt
theorem XR.kept {W0 w w' : World} {R i o : Nat} {s : ByteArray} (h : XR W0 w R s i o) (hg : w.grownBy w' none) : XR W0 w' R s i o := h.elim (fun h => .inl ⟨h.1.kept hg, h.2⟩) fun h => .inr (h.kept hg)
/-- the text, and the place -/
theorem XR.at_ {W0 w : World} {R i o : Nat} {s : ByteArray} (h : XR W0 w R s i o) : ∃ i1 : Nat, i1 ≤ s.size ∧ w.cell? ⟨R, 0, none⟩ = some (.string s) ∧ w.cell? ⟨R, 1, none⟩ = some (.int .i64 i1) ∧ (BR W0 w R s ∨ (i1 = i ∧ SR W0 w R s i o)) := by
  rcases h with ⟨h, ho⟩ | h
  · obtain ⟨z, hz⟩ := h.at_
    exact ⟨i, h.inn, hz.cells.1, hz.cells.2.1, .inr ⟨rfl, h⟩⟩
  · obtain ⟨i1, o1, te, pe, z, h1, h2, hz⟩ := h.at_
    exact ⟨i1, h1, hz.cells.1, hz.cells.2.1, .inl h⟩
theorem XR.text {W0 w : World} {R i o : Nat} {s : ByteArray} (h : XR W0 w R s i o) : s.size ≤ 1000000 := h.elim (fun h => h.1.text) fun h => h.text
theorem fail_any {W0 w : World} {R i o : Nat} {s : ByteArray} (h : XR W0 w R s i o) (te : TypeId) (pe : Value) (y : Int) :
    Calls Tryz.prog 22 #[.pointer (some ⟨R, 0, none⟩), .iface te pe, .int .i64 y] w fun e w' => e = .returned (.tuple #[]) ∧ w.grownBy w' (some R) ∧ BR W0 w' R s := by
  rcases h with ⟨h, ho⟩ | h
  · exact fail_first h ho te pe y
  · refine (fail_more h te pe y).mono ?_
    rintro e w' ⟨h1, rfl⟩
    exact ⟨h1, grown_self _ _, h⟩

theorem cp_dig (s : ByteArray) (i : Nat) : isDig s i = true ↔ (48 ≤ cpAt s i ∧ cpAt s i ≤ 57) := by
  constructor
  · intro h
    simp [isDig] at h
    obtain ⟨h0, h1, h2⟩ := h
    have := ascii_cp h0 (by omega)
    omega
  · rintro ⟨h1, h2⟩
    have hc := cp_ascii (s := s) (i := i) (by omega) (by omega)
    have hlt := cp_lt (s := s) (i := i) (by omega)
    simp [isDig]
    exact ⟨hlt, by omega, by omega⟩
theorem digRun_of (s : ByteArray) : ∀ (f i k : Nat), k ≤ f → (∀ j, j < k → isDig s (i + j) = true) → isDig s (i + k) = false → digRun s f i = k
  | 0, i, k, h, _, _ => by simp [digRun]; omega
  | f + 1, i, 0, h, h1, h2 => by
    have : isDig s i = false := by simpa using h2
    simp [digRun, this]
  | f + 1, i, k + 1, h, h1, h2 => by
    have h0 : isDig s i = true := by simpa using h1 0 (by omega)
    rw [digRun, if_pos h0, digRun_of s f (i + 1) k (by omega) (fun j hj => by have := h1 (j + 1) (by omega); rwa [show i + (j + 1) = i + 1 + j by omega] at this) (by rwa [show i + (k + 1) = i + 1 + k by omega] at h2)]

/-- the number so far: exact up to 50 -/
def Cnt (s : ByteArray) (i k : Nat) (n : Int) : Prop := 0 ≤ n ∧ n ≤ 509 ∧ 0 ≤ digVal s i k ∧ (n ≤ 50 → n = digVal s i k) ∧ (50 < n → 50 < digVal s i k)
theorem Cnt.step {s : ByteArray} {i k : Nat} {n : Int} (h : Cnt s i k n) (hd : isDig s (i + k) = true) : (n ≤ 50 → Cnt s i (k + 1) (n * 10 + cpAt s (i + k) - 48)) ∧ (50 < n → Cnt s i (k + 1) n) := by
  obtain ⟨h1, h2, h3, h4, h5⟩ := h
  have hc := (cp_dig s (i + k)).1 hd
  have ha := cp_ascii (s := s) (i := i + k) (by omega) (by omega)
  have hv : digVal s i (k + 1) = digVal s i k * 10 + (cpAt s (i + k) - 48) := by rw [digVal, ha.2]
  constructor
  · intro hn
    have := h4 hn
    refine ⟨by omega, by omega, by omega, fun _ => by omega, fun _ => by omega⟩
  · intro hn
    have := h5 hn
    refine ⟨h1, h2, by omega, fun _ => by omega, fun _ => by omega⟩

/-- the end of count: where nothing is wrong it is as it should be -/
def CntP (W0 w : World) (R : Nat) (s : ByteArray) (i o : Nat) (e : Ending) (w' : World) : Prop := ∃ z : Int, e = .returned (.int .i64 z) ∧ -1000 ≤ z ∧ z ≤ 1000 ∧ w.grownBy w' (some R) ∧ (BR W0 w' R s ∨ ∃ j, countS s i = some (z, j) ∧ SR W0 w' R s j o)

set_option maxHeartbeats 4000000 in
theorem rcount_any {W0 w : World} (L : LibC W0) {R i o : Nat} {s : ByteArray} (h : SR W0 w R s i o) (ho : o ≤ 1000) :
    Calls Tryz.prog 141 #[.pointer (some ⟨R, 0, none⟩)] w fun e w' => CntP W0 w R s i o e w' := by
  obtain ⟨z0, hz0⟩ := h.at_
  obtain ⟨c0, c1, _, _, _⟩ := hz0.cells
  have hin := h.inn
  have htx := h.text
  have HS : Hid (SR W0 w R s i o) := h
  clear h hz0 c0
  go_enter Tryz.func141, Tryz.ntmps141
  go_wp2
  go_loopw [4] (fun x wr => ∃ (k : Nat) (n : Int), x = .int .i64 n ∧ i + k ≤ s.size ∧ Hid (SR W0 wr R s (i + k) o) ∧ Hid (w.grownBy wr (some R)) ∧ Hid (∀ j, j < k → isDig s (i + j) = true) ∧ Hid (Cnt s i k n)) (fun x wr => (match wr.cell? ⟨R, 1, none⟩ with | some (.int _ z) => s.size - z.toNat | _ => 0))
  case atStart => exact ⟨0, 0, rfl, by omega, HS, grown_self _ _, fun j hj => by omega, ⟨by omega, by omega, by simp [digVal], fun _ => by simp [digVal], fun h => by omega⟩⟩
  case round =>
    obtain ⟨k, n, rfl, hik, HSR, HG, HD, HCn⟩ := hrel
    obtain ⟨zr, hzr⟩ := HSR.out.at_
    have cR := hzr.cells.2.1
    by_cases hd : isDig s (i + k) = true
    · have hcp := (cp_dig s (i + k)).1 hd
      have hsl := cp_lt (s := s) (i := i + k) (by omega)
      obtain ⟨hst1, hst2⟩ := HCn.out.step hd
      have hnb := HCn.out
      have HD2 : Hid (∀ j, j < k + 1 → isDig s (i + j) = true) := fun j hj => by
        by_cases e : j = k
        · subst e; exact hd
        · exact HD.out j (by omega)
      obtain ⟨hn0, hn1, _⟩ := hnb
      have HN : Hid (Calls Tryz.prog 74 #[.pointer (some ⟨R, 0, none⟩)] wr fun e w' => e = .returned (.int .i64 (cpAt s (i + k))) ∧ ∃ n, w' = wr.drewN n) := now_in HSR.out (by omega)
      have HA : Hid (∀ m, RrAt ((wr.drewN m).setCell ⟨R, 1, none⟩ (.int .i64 ((i + (k + 1) : Nat) : Int))) R s (i + (k + 1)) o .nilIface zr) := fun m => RrAt.set1 (hzr.kept (grown_drewN wr m none)) _
      have HF : Hid (∀ m, wr.grownBy ((wr.drewN m).setCell ⟨R, 1, none⟩ (.int .i64 ((i + (k + 1) : Nat) : Int))) (some R)) := fun m => Lib.grownBy_setB (grown_drewN wr m (some R)) 1 _
      have hfr : ∀ m, (wr.drewN m).frozen? ⟨R, 1, none⟩ = false := fun m => (hzr.kept (grown_drewN wr m none)).frozen 1
      have hcc : ∀ m, (wr.drewN m).cell? ⟨R, 1, none⟩ = some (.int .i64 ((i + k : Nat) : Int)) := fun m => cR
      generalize cpAt s (i + k) = c at *
      obtain ⟨p1, p2⟩ := hcp
      clear hd hzr
      by_cases hn : n ≤ 50
      · have HCC : Hid (Cnt s i (k + 1) (n * 10 + c - 48)) := hst1 hn
        clear hst1 hst2
        go_wp2_with fail
        refine HN.out.mono ?_
        rintro e w' ⟨rfl, m, rfl⟩
        have hfm := hfr m
        have hcm := hcc m
        have HA2 := HA.out m
        have HF2 := HF.out m
        clear hfr hcc HA HF
        go_wp2
        go_roundw
        case rel => exact ⟨k + 1, n * 10 + c - 48, rfl, by omega, HSR.out.step HF2 (by omega) HA2, Lib.grownBy_trans HG.out HF2, HD2, HCC⟩
        case measure =>
          have e1 : ((wr.drewN m).setCell ⟨R, 1, none⟩ (.int .i64 ((i : Int) + (k : Int) + 1))).cell? ⟨R, 1, none⟩ = some (.int .i64 ((i + (k + 1) : Nat) : Int)) := HA2.cells.2.1
          rw [e1, cR]
          simp only [Int.toNat_natCast]
          omega
      · have HCC : Hid (Cnt s i (k + 1) n) := hst2 (by omega)
        clear hst1 hst2
        go_wp2_with fail
        refine HN.out.mono ?_
        rintro e w' ⟨rfl, m, rfl⟩
        have hfm := hfr m
        have hcm := hcc m
        have HA2 := HA.out m
        have HF2 := HF.out m
        clear hfr hcc HA HF
        go_wp2
        go_roundw
        case rel => exact ⟨k + 1, n, rfl, by omega, HSR.out.step HF2 (by omega) HA2, Lib.grownBy_trans HG.out HF2, HD2, HCC⟩
        case measure =>
          have e1 : ((wr.drewN m).setCell ⟨R, 1, none⟩ (.int .i64 ((i : Int) + (k : Int) + 1))).cell? ⟨R, 1, none⟩ = some (.int .i64 ((i + (k + 1) : Nat) : Int)) := HA2.cells.2.1
          rw [e1, cR]
          simp only [Int.toNat_natCast]
          omega
    · have hnd : isDig s (i + k) = false := by simpa using hd
      have HRun : Hid (digRun s s.size i = k) := digRun_of s s.size i k (by omega) HD.out hnd
      have hc : cpAt s (i + k) < 48 ∨ 57 < cpAt s (i + k) := by
        rcases (show cpAt s (i + k) < 48 ∨ 57 < cpAt s (i + k) ∨ (48 ≤ cpAt s (i + k) ∧ cpAt s (i + k) ≤ 57) by omega) with h | h | h
        · exact .inl h
        · exact .inr h
        · exact absurd ((cp_dig s (i + k)).2 h) hd
      obtain ⟨hn0, hn1, hn2, hn3, hn4⟩ := HCn.out
      have HN : Hid (Calls Tryz.prog 74 #[.pointer (some ⟨R, 0, none⟩)] wr fun e w' => ∃ c : Int, e = .returned (.int .i64 c) ∧ (c < 48 ∨ 57 < c) ∧ w.grownBy w' (some R) ∧ XR W0 w' R s (i + k) o) := by
        refine (now_any L HSR.out ho).mono ?_
        rintro e w' ⟨hg, ⟨h1, rfl, h3⟩ | ⟨h1, rfl, h3⟩⟩
        · exact ⟨_, rfl, hc, Lib.grownBy_trans HG.out hg, .inl ⟨h3, ho⟩⟩
        · exact ⟨_, rfl, .inl (by omega), Lib.grownBy_trans HG.out hg, .inr h3⟩
      have HGood : Hid (k ≠ 0 → ¬ (1 < k ∧ (s.get! i).toNat = 48) → n ≤ 50 → countS s i = some (n, i + k)) := fun h0 h1 h2 => by
        unfold countS
        rw [HRun.out, ← hn3 h2, if_neg (by omega)]
      clear hd hnd hc hzr HCn HD hn2 hn3 hn4 cR
      go_wp2_with fail
      refine HN.out.mono ?_
      rintro e w1 ⟨c, rfl, hc, hg1, hX1⟩
      have HX1 : Hid (XR W0 w1 R s (i + k) o) := hX1
      obtain ⟨i1, hi1, d0, d1, hst⟩ := hX1.at_
      obtain ⟨te, pe, cs⟩ := env_syn L hX1.env
      have HG1 : Hid (w.grownBy w1 (some R)) := hg1
      have HST : Hid (BR W0 w1 R s ∨ (i1 = i + k ∧ SR W0 w1 R s (i + k) o)) := hst
      clear hX1 hst HN hg1
      have hcc : decide (c < 48) = true ∨ (decide (c < 48) = false ∧ decide (c > 57) = true) := by
        rcases hc with h | h
        · exact .inl (by simp; omega)
        · by_cases h' : c < 48
          · exact .inl (by simp; omega)
          · exact .inr ⟨by simp; omega, by simp; omega⟩
      clear hc
      have HFail1 : Hid (∀ y, Calls Tryz.prog 22 #[.pointer (some ⟨R, 0, none⟩), .iface te pe, .int .i64 y] w1 fun e w' => e = .returned (.tuple #[]) ∧ ∃ te2 pe2, w'.cell? ⟨1, 0, none⟩ = some (.iface te2 pe2) ∧ (w.grownBy w' (some R) ∧ BR W0 w' R s)) := fun y => by
        refine (fail_any HX1.out te pe y).mono ?_
        rintro e w' ⟨h1, h2, h3⟩
        obtain ⟨te2, pe2, h4⟩ := env_bnd L h3.env
        exact ⟨h1, te2, pe2, h4, Lib.grownBy_trans HG1.out h2, h3⟩
      obtain ⟨te3, pe3, cs3⟩ := env_bnd L HX1.out.env
      have HFail2 : Hid (∀ y, Calls Tryz.prog 22 #[.pointer (some ⟨R, 0, none⟩), .iface te3 pe3, .int .i64 y] w1 fun e w' => e = .returned (.tuple #[]) ∧ (w.grownBy w' (some R) ∧ BR W0 w' R s)) := fun y => by
        refine (fail_any HX1.out te3 pe3 y).mono ?_
        rintro e w' ⟨h1, h2, h3⟩
        exact ⟨h1, Lib.grownBy_trans HG1.out h2, h3⟩
      have HFail3 : Hid (∀ w2 te pe y, w.grownBy w2 (some R) ∧ BR W0 w2 R s → Calls Tryz.prog 22 #[.pointer (some ⟨R, 0, none⟩), .iface te pe, .int .i64 y] w2 fun e w' => e = .returned (.tuple #[]) ∧ w' = w2) := fun w2 te pe y h => fail_more h.2 te pe y
      have hnn : decide (n > 50) = true ∨ (decide (n > 50) = false ∧ n ≤ 50) := by
        by_cases h : n > 50
        · exact .inl (by simp; omega)
        · exact .inr ⟨by simp; omega, by omega⟩
      have hcase : i1 = i ∨ (((i1 : Int) == (i : Int)) = false ∧ decide ((i1 : Int) > (i : Int) + 1) = true ∧ i < s.size ∧ i1 ≠ i) ∨ (((i1 : Int) == (i : Int)) = false ∧ decide ((i1 : Int) > (i : Int) + 1) = false ∧ i1 ≠ i ∧ ¬ i + 1 < i1) := by
        by_cases h1 : i1 = i
        · exact .inl h1
        · have e1 : ((i1 : Int) == (i : Int)) = false := by rw [beq_eq_false_iff_ne]; omega
          by_cases h2 : i + 1 < i1
          · exact .inr (.inl ⟨e1, by simp; omega, by omega, h1⟩)
          · exact .inr (.inr ⟨e1, by simp; omega, h1, h2⟩)
      rcases hcase with rfl | ⟨e1, e2, e3, e4⟩ | ⟨e1, e2, e3, e4⟩
      · clear HGood HST HFail2 cs3
        rcases hcc with hcc | ⟨hcc, hcc2⟩
        all_goals
          go_wp2_with fail
          refine (HFail1.out _).mono ?_
          rintro e w2 ⟨rfl, te2, pe2, k1, k2⟩
          have HK2 : Hid (w.grownBy w2 (some R) ∧ BR W0 w2 R s) := k2
          clear k2
          rcases hnn with hnn | ⟨hnn, hnn2⟩
          · go_wp2_with fail
            refine (HFail3.out _ _ _ _ HK2.out).mono ?_
            rintro e w3 ⟨rfl, rfl⟩
            go_wp2
            go_ret
            exact ⟨n, rfl, by omega, by omega, HK2.out.1, .inl HK2.out.2⟩
          · go_wp2
            go_ret
            exact ⟨n, rfl, by omega, by omega, HK2.out.1, .inl HK2.out.2⟩
      · have hb1 : (i : Int) < (s.size : Int) := by omega
        have hb0 : (0 : Int) ≤ (i : Int) := by omega
        have hgb : s[i]'e3 = s.get! i := get_at s i e3
        by_cases hb : (s.get! i).toNat = 48
        · have hbq : (((s[i]'e3).toNat : Int) == 48) = true := by rw [hgb, hb]; rfl
          clear HGood HST HFail2 cs3
          rcases hcc with hcc | ⟨hcc, hcc2⟩
          all_goals
            go_wp2_with fail
            refine (HFail1.out _).mono ?_
            rintro e w2 ⟨rfl, te2, pe2, k1, k2⟩
            have HK2 : Hid (w.grownBy w2 (some R) ∧ BR W0 w2 R s) := k2
            clear k2
            rcases hnn with hnn | ⟨hnn, hnn2⟩
            · go_wp2_with fail
              refine (HFail3.out _ _ _ _ HK2.out).mono ?_
              rintro e w3 ⟨rfl, rfl⟩
              go_wp2
              go_ret
              exact ⟨n, rfl, by omega, by omega, HK2.out.1, .inl HK2.out.2⟩
            · go_wp2
              go_ret
              exact ⟨n, rfl, by omega, by omega, HK2.out.1, .inl HK2.out.2⟩
        · have hbq : (((s[i]'e3).toNat : Int) == 48) = false := by rw [hgb, beq_eq_false_iff_ne]; omega
          clear HFail1 cs
          rcases hcc with hcc | ⟨hcc, hcc2⟩
          all_goals
            rcases hnn with hnn | ⟨hnn, hnn2⟩
            · go_wp2_with fail
              refine (HFail2.out _).mono ?_
              rintro e w2 ⟨rfl, k2⟩
              have HK2 : Hid (w.grownBy w2 (some R) ∧ BR W0 w2 R s) := k2
              clear k2
              go_wp2
              go_ret
              exact ⟨n, rfl, by omega, by omega, HK2.out.1, .inl HK2.out.2⟩
            · go_wp2
              go_ret
              refine ⟨n, rfl, by omega, by omega, HG1.out, ?_⟩
              rcases HST.out with hB | ⟨hB1, hB2⟩
              · exact .inl hB
              · exact .inr ⟨i + k, HGood.out (by omega) (by omega) hnn2, hB2⟩
      · clear HFail1 cs
        rcases hcc with hcc | ⟨hcc, hcc2⟩
        all_goals
          rcases hnn with hnn | ⟨hnn, hnn2⟩
          · go_wp2_with fail
            refine (HFail2.out _).mono ?_
            rintro e w2 ⟨rfl, k2⟩
            have HK2 : Hid (w.grownBy w2 (some R) ∧ BR W0 w2 R s) := k2
            clear k2
            go_wp2
            go_ret
            exact ⟨n, rfl, by omega, by omega, HK2.out.1, .inl HK2.out.2⟩
          · go_wp2
            go_ret
            refine ⟨n, rfl, by omega, by omega, HG1.out, ?_⟩
            rcases HST.out with hB | ⟨hB1, hB2⟩
            · exact .inl hB
            · exact .inr ⟨i + k, HGood.out (by omega) (by omega) hnn2, hB2⟩

end Go.Proofs.YtbjohedenfindaaGreatDoor

namespace Go.Proofs.YtbjohedenfindaaGreatDoor
open Go.RowKit
set_option linter.unusedVariables false
set_option maxRecDepth 100000

set_option maxHeartbeats 2000000 in
theorem hex_any (b : Nat) (hb : b < 256) (w : World) : Calls Tryz.prog 173 #[.int .u8 (b : Int)] w fun e w' => e = .returned (.int .i64 (hexOf b)) ∧ w' = w := by
  have HH : Hid (hexOf b = if 48 ≤ b ∧ b ≤ 57 then (b : Int) - 48 else if 97 ≤ b ∧ b ≤ 102 then (b : Int) - 87 else if 65 ≤ b ∧ b ≤ 70 then (b : Int) - 55 else -1) := rfl
  generalize hexOf b = res at *
  by_cases h1 : 48 ≤ b ∧ b ≤ 57
  · have hr := HH.out; rw [if_pos h1] at hr; subst hr
    obtain ⟨p1, p2⟩ := h1
    clear HH
    go_enter Tryz.func173, Tryz.ntmps173
    go_wp2
    go_ret
    exact ⟨by simp, rfl⟩
  · have hr := HH.out; rw [if_neg h1] at hr
    by_cases h2 : 97 ≤ b ∧ b ≤ 102
    · rw [if_pos h2] at hr; subst hr
      obtain ⟨p1, p2⟩ := h2
      have q : ¬ b ≤ 57 := by omega
      clear HH h1
      go_enter Tryz.func173, Tryz.ntmps173
      go_wp2
      go_ret
      refine ⟨?_, rfl⟩
      simp; omega
    · rw [if_neg h2] at hr
      by_cases h3 : 65 ≤ b ∧ b ≤ 70
      · rw [if_pos h3] at hr; subst hr
        obtain ⟨p1, p2⟩ := h3
        have q : ¬ b ≤ 57 := by omega
        have q2 : ¬ 97 ≤ b := by omega
        clear HH h1 h2
        go_enter Tryz.func173, Tryz.ntmps173
        go_wp2
        go_ret
        refine ⟨?_, rfl⟩
        simp; omega
      · rw [if_neg h3] at hr; subst hr
        clear HH
        have hc : b < 48 ∨ (57 < b ∧ b < 65) ∨ (70 < b ∧ b < 97) ∨ 102 < b := by omega
        clear h1 h2 h3
        rcases hc with h | ⟨h, h'⟩ | ⟨h, h'⟩ | h
        all_goals
          go_enter Tryz.func173, Tryz.ntmps173
          go_wp2
          go_ret
          exact ⟨by simp, rfl⟩
end Go.Proofs.YtbjohedenfindaaGreatDoor

namespace Go.Proofs.YtbjohedenfindaaGreatDoor
open Go.RowKit
set_option linter.unusedVariables false
set_option maxRecDepth 100000

def withinS (s : ByteArray) (k : Nat) (c : Int) : Bool := (List.range k).any fun i => ((s.get! i).toNat : Int) == c
theorem within_succ (s : ByteArray) (k : Nat) (c : Int) : withinS s (k + 1) c = (withinS s k c || (((s.get! k).toNat : Int) == c)) := by
  unfold withinS; rw [List.range_succ, List.any_append]; simp
theorem within_mono (s : ByteArray) (c : Int) (k : Nat) (h : withinS s k c = true) : ∀ d, withinS s (k + d) c = true
  | 0 => h
  | d + 1 => by rw [show k + (d + 1) = (k + d) + 1 by omega, within_succ, within_mono s c k h d]; rfl

set_option maxHeartbeats 2000000 in
theorem within_any (s : ByteArray) (c : Int) (w : World) (hs : s.size ≤ 1000) : Calls Tryz.prog 158 #[.string s, .int .i64 c] w fun e w' => e = .returned (.bool (withinS s s.size c)) ∧ w' = w := by
  have HM : Hid (∀ k, k < s.size → (((s.get! k).toNat : Int) == c) = true → withinS s s.size c = true) := fun k hk h => by
    have h1 : withinS s (k + 1) c = true := by rw [within_succ, h]; simp
    have := within_mono s c (k + 1) h1 (s.size - (k + 1))
    rwa [show k + 1 + (s.size - (k + 1)) = s.size by omega] at this
  have HN : Hid (∀ k, withinS s k c = false → (((s.get! k).toNat : Int) == c) = false → withinS s (k + 1) c = false) := fun k h1 h2 => by rw [within_succ, h1, h2]; rfl
  generalize hres : withinS s s.size c = res at *
  have HR : Hid (withinS s s.size c = res) := hres
  clear hres
  go_enter Tryz.func158, Tryz.ntmps158
  go_wp2
  go_loopw [5] (fun iv wr => ∃ k : Nat, k ≤ s.size ∧ iv = .int .i64 k ∧ withinS s k c = false ∧ wr = w) (fun iv _ => s.size - (intOf iv).toNat)
  case atStart => exact ⟨0, Nat.zero_le _, rfl, rfl, rfl⟩
  case round =>
    obtain ⟨k, hk, rfl, hf, rfl⟩ := hrel
    have HF : Hid (withinS s k c = false) := hf
    clear hf
    by_cases hlt : k < s.size
    · have hg : ((s.get! k).toNat : Int) = wrap64 (((s[k]'hlt).toNat : Nat) : Int) := by
        have e : s.get! k = s[k]'hlt := by simp [ByteArray.get!, hlt, getElem!_pos]; rfl
        have := (s[k]'hlt).toNat_lt
        rw [e]; unfold wrap64; omega
      have HN' := HN.out k HF.out
      have HM' := HM.out k hlt
      rw [hg] at HN' HM'
      have HNN : Hid ((wrap64 (((s[k]'hlt).toNat : Nat) : Int) == c) = false → withinS s (k + 1) c = false) := HN'
      have HMM : Hid ((wrap64 (((s[k]'hlt).toNat : Nat) : Int) == c) = true → res = true) := HM'
      clear HN' HM' hg HN HM
      cases hq : (wrap64 (((s[k]'hlt).toNat : Nat) : Int) == c)
      · have hn := HNN.out hq
        have HNk : Hid (withinS s (k + 1) c = false) := hn
        clear hn
        go_wp2
        go_roundw
        case rel => exact ⟨k + 1, by omega, by go_num, HNk.out, by trivial⟩
        case measure => simp [intOf]; omega
      · have hr := HMM.out hq
        subst hr
        go_wp2
        go_ret
        exact ⟨rfl, rfl⟩
    · have hk2 : k = s.size := by omega
      subst hk2
      have hr := HR.out
      rw [HF.out] at hr
      subst hr
      clear HR HF
      go_wp2
      go_ret
      exact ⟨rfl, rfl⟩
end Go.Proofs.YtbjohedenfindaaGreatDoor

namespace Go.Proofs.YtbjohedenfindaaGreatDoor
open Go.RowKit
set_option linter.unusedVariables false
set_option maxRecDepth 100000

set_option maxHeartbeats 2000000 in
theorem rcount_bad {W0 w : World} (L : LibC W0) {R : Nat} {s : ByteArray} (h : BR W0 w R s) :
    Calls Tryz.prog 141 #[.pointer (some ⟨R, 0, none⟩)] w fun e w' => e = .returned (.int .i64 0) ∧ w.grownBy w' (some R) ∧ BR W0 w' R s := by
  have HB : Hid (BR W0 w R s) := h
  obtain ⟨i1, o1, te, pe, z, h1, h2, hz⟩ := h.at_
  obtain ⟨c0, c1, _, _, _⟩ := hz.cells
  have htx := h.text
  have HN : Hid (Calls Tryz.prog 74 #[.pointer (some ⟨R, 0, none⟩)] w fun e w' => e = .returned (.int .i64 (-1)) ∧ ∃ n, w' = w.drewN n) := now_bad h
  obtain ⟨te1, pe1, cs⟩ := env_syn L h.env
  have HF : Hid (∀ n y, Calls Tryz.prog 22 #[.pointer (some ⟨R, 0, none⟩), .iface te1 pe1, .int .i64 y] (w.drewN n) fun e w' => e = .returned (.tuple #[]) ∧ w' = w.drewN n) := fun n y => fail_more (HB.out.kept (grown_drewN w n none)) te1 pe1 y
  clear h hz
  go_enter Tryz.func141, Tryz.ntmps141
  go_wp2
  refine wp_loop_rounds 1 ?_
  rw [rounds_succ]
  go_wp2_with fail
  refine HN.out.mono ?_
  rintro e w1 ⟨rfl, n, rfl⟩
  have d1 : (w.drewN n).cell? ⟨R, 1, none⟩ = some (.int .i64 i1) := c1
  have d2 : (w.drewN n).cell? ⟨0, 0, none⟩ = some (.iface te1 pe1) := cs
  go_wp2_with fail
  refine (HF.out n _).mono ?_
  rintro e w2 ⟨rfl, rfl⟩
  go_wp2
  go_ret
  exact ⟨rfl, grown_drewN w n (some R), HB.out.kept (grown_drewN w n none)⟩

theorem hexOf_range (b : Nat) : -1 ≤ hexOf b ∧ hexOf b ≤ 15 := by
  unfold hexOf
  split
  · omega
  · split
    · omega
    · split <;> omega
theorem pow16 (k : Nat) (h : k ≤ 7) : (16 : Int) ^ k ≤ 268435456 := by
  rcases (show k = 0 ∨ k = 1 ∨ k = 2 ∨ k = 3 ∨ k = 4 ∨ k = 5 ∨ k = 6 ∨ k = 7 by omega) with rfl | rfl | rfl | rfl | rfl | rfl | rfl | rfl <;> decide
theorem hexVal_lt (s : ByteArray) (i : Nat) : ∀ k, k ≤ 7 → (∀ j, j < k → isHex s (i + j) = true) → 0 ≤ hexVal s i k ∧ hexVal s i k < 16 ^ k
  | 0, _, _ => by simp [hexVal]
  | k + 1, hk, h => by
    have ih := hexVal_lt s i k (by omega) (fun j hj => h j (by omega))
    have h1 := h k (by omega)
    simp [isHex] at h1
    have h2 := hexOf_range (s.get! (i + k)).toNat
    rw [hexVal, Int.pow_succ]
    omega

set_option maxHeartbeats 4000000 in
theorem rdigits_any {W0 w : World} (L : LibC W0) {R i o : Nat} {s : ByteArray} (h : SR W0 w R s i o) (ho : o ≤ 1000) (y : Int) :
    Calls Tryz.prog 159 #[.pointer (some ⟨R, 0, none⟩), .int .i64 y] w fun e w' => ∃ z : Int, e = .returned (.int .i64 z) ∧ 0 ≤ z ∧ z ≤ 1114111 ∧ w.grownBy w' (some R) ∧ (BR W0 w' R s ∨ ∃ j, cpAt s i = 123 ∧ hexS s (i + 1) = some (z, j) ∧ SR W0 w' R s j o) := by
  obtain ⟨z0, hz0⟩ := h.at_
  obtain ⟨c0, c1, _, _, _⟩ := hz0.cells
  have hin := h.inn
  have htx := h.text
  have HS : Hid (SR W0 w R s i o) := h
  have HZ0 : Hid (RrAt w R s i o .nilIface z0) := hz0
  obtain ⟨te, pe, cs⟩ := env_syn L h.env
  have HFail : Hid (∀ m y, Calls Tryz.prog 22 #[.pointer (some ⟨R, 0, none⟩), .iface te pe, .int .i64 y] (w.drewN m) fun e w' => e = .returned (.tuple #[]) ∧ (w.grownBy w' (some R) ∧ BR W0 w' R s)) := fun m y => by
    refine (fail_first (HS.out.kept (grown_drewN w m none)) ho te pe y).mono ?_
    rintro e w' ⟨h1, h2, h3⟩
    exact ⟨h1, Lib.grownBy_trans (grown_drewN w m (some R)) h2, h3⟩
  clear h hz0
  have hcase : (¬ i < s.size ∧ decide ((i : Int) ≥ (s.size : Int)) = true) ∨ ∃ hi : i < s.size, decide ((i : Int) ≥ (s.size : Int)) = false ∧ (((((s[i]'hi).toNat : Int) != 123) = true) ∨ ((((s[i]'hi).toNat : Int) != 123) = false ∧ cpAt s i = 123)) := by
    by_cases hi : i < s.size
    · refine .inr ⟨hi, by simp; omega, ?_⟩
      rw [get_at s i hi]
      by_cases hb : (s.get! i).toNat = 123
      · exact .inr ⟨by rw [hb]; rfl, by have := ascii_cp hi (by omega); omega⟩
      · exact .inl (by rw [bne_iff_ne]; omega)
    · exact .inl ⟨hi, by simp; omega⟩
  rcases hcase with ⟨e1, e2⟩ | ⟨hi, e2, e3 | ⟨e3, e4⟩⟩
  · go_enter Tryz.func159, Tryz.ntmps159
    go_wp2
    go_quiet (fail)
    have d2 : (w.drewN nq).cell? ⟨0, 0, none⟩ = some (.iface te pe) := cs
    go_wp2_with fail
    refine (HFail.out _ _).mono ?_
    rintro e w2 ⟨rfl, hg2, hB2⟩
    go_wp2
    go_ret
    exact ⟨0, rfl, by omega, by omega, hg2, .inl hB2⟩
  · go_enter Tryz.func159, Tryz.ntmps159
    go_wp2
    go_quiet (fail)
    have d2 : (w.drewN nq).cell? ⟨0, 0, none⟩ = some (.iface te pe) := cs
    go_wp2_with fail
    refine (HFail.out _ _).mono ?_
    rintro e w2 ⟨rfl, hg2, hB2⟩
    go_wp2
    go_ret
    exact ⟨0, rfl, by omega, by omega, hg2, .inl hB2⟩
  · go_enter Tryz.func159, Tryz.ntmps159
    go_wp2
    go_quiet (fail)
    have HZ1 : Hid (RrAt (w.drewN nq) R s i o .nilIface z0) := HZ0.out.kept (grown_drewN w nq none)
    have HS1 : Hid (SR W0 (w.drewN nq) R s i o) := HS.out.kept (grown_drewN w nq none)
    have HG1 : Hid (w.grownBy (w.drewN nq) (some R)) := grown_drewN w nq (some R)
    have HF1 := HFail.out nq
    have HFF : Hid (∀ y, Calls Tryz.prog 22 #[.pointer (some ⟨R, 0, none⟩), .iface te pe, .int .i64 y] (w.drewN nq) fun e w' => e = .returned (.tuple #[]) ∧ (w.grownBy w' (some R) ∧ BR W0 w' R s)) := HF1
    have d2 : (w.drewN nq).cell? ⟨0, 0, none⟩ = some (.iface te pe) := cs
    have d0 : (w.drewN nq).cell? ⟨R, 0, none⟩ = some (.string s) := c0
    have d1 : (w.drewN nq).cell? ⟨R, 1, none⟩ = some (.int .i64 i) := c1
    clear HF1 HFail HS HZ0 cs c0 c1 e2 e3
    have hde : decide (s.size ≤ i) = false := by simp; omega
    generalize w.drewN nq = w1 at *
    go_wp2
    rw [hde]
    go_loopw [5, 6, 7] (fun a b c wr => ∃ k : Nat, wr = w1 ∧ a = .int .i64 (hexVal s (i + 1) k) ∧ b = .int .i64 k ∧ c = .int .i64 ((i + 1 + k : Nat) : Int) ∧ k ≤ 7 ∧ i + 1 + k ≤ s.size ∧ Hid (∀ j, j < k → isHex s (i + 1 + j) = true)) (fun _ b _ _ => 8 - (intOf b).toNat)
    case atStart => exact ⟨0, rfl, rfl, rfl, by go_num, by omega, by omega, fun j hj => by omega⟩
    case round =>
      obtain ⟨k, hw, rfl, rfl, rfl, hk7, hks, HX⟩ := hrel
      obtain rfl := hw.symm
      have hv := hexVal_lt s (i + 1) k hk7 HX.out
      have hv2 : hexVal s (i + 1) k < 268435456 := by
        have := pow16 k hk7
        omega
      obtain ⟨hv0, _⟩ := hv
      by_cases hp : i + 1 + k < s.size
      · have hpi : ((i + 1 + k : Nat) : Int) < (s.size : Int) := by omega
        by_cases hk6 : k ≤ 6
        · have hb := get_at s (i + 1 + k) hp
          have hlt : (s.get! (i + 1 + k)).toNat < 256 := (s.get! (i + 1 + k)).toNat_lt
          have HHex : Hid (Calls Tryz.prog 173 #[.int .u8 (((s.get! (i + 1 + k)).toNat : Nat) : Int)] w1 fun e w' => e = .returned (.int .i64 (hexOf (s.get! (i + 1 + k)).toNat)) ∧ w' = w1) := hex_any _ hlt w1
          have hr := hexOf_range (s.get! (i + 1 + k)).toNat
          by_cases hh : 0 ≤ hexOf (s.get! (i + 1 + k)).toNat
          · have HX2 : Hid (∀ j, j < k + 1 → isHex s (i + 1 + j) = true) := fun j hj => by
              by_cases e : j = k
              · subst e; simp [isHex]; exact ⟨by omega, hh⟩
              · exact HX.out j (by omega)
            have HE : Hid (hexVal s (i + 1) (k + 1) = hexVal s (i + 1) k * 16 + hexOf (s.get! (i + 1 + k)).toNat) := rfl
            generalize hexOf (s.get! (i + 1 + k)).toNat = d at *
            have hd0 : ¬ d < 0 := by omega
            generalize hexVal s (i + 1) k = n at *
            go_wp2_with fail
            go_at_call 173
            refine HHex.out.mono ?_
            rintro e w2 ⟨rfl, rfl⟩
            go_wp2
            go_roundw
            case rel => exact ⟨k + 1, by first | rfl | trivial, by rw [HE.out], by go_num, by go_num, by omega, by omega, HX2⟩
            case measure => simp [intOf]; omega
          · have hnx : isHex s (i + 1 + k) = false := by simp [isHex]; intro _; omega
            have HRun : Hid (hexRun s 7 (i + 1) = k) := hexRun_of s 7 (i + 1) k (by omega) HX.out hnx
            have HGood : Hid (1 ≤ k → hexVal s (i + 1) k ≤ 1114111 → (s.get! (i + 1 + k)).toNat = 125 → hexS s (i + 1) = some (hexVal s (i + 1) k, i + 1 + k + 1)) := fun g1 g2 g3 => by
              have := ascii_cp hp (by omega)
              unfold hexS
              rw [HRun.out, if_pos ⟨g1, hk6, by omega, g2⟩]
            have HSet : Hid (SR W0 (w1.setCell ⟨R, 1, none⟩ (.int .i64 ((i + 1 + k + 1 : Nat) : Int))) R s (i + 1 + k + 1) o ∧ w.grownBy (w1.setCell ⟨R, 1, none⟩ (.int .i64 ((i + 1 + k + 1 : Nat) : Int))) (some R)) := by
              have hg : w1.grownBy (w1.setCell ⟨R, 1, none⟩ (.int .i64 ((i + 1 + k + 1 : Nat) : Int))) (some R) := Lib.grownBy_setCell w1 R 1 _
              exact ⟨HS1.out.step hg (by omega) (HZ1.out.set1 _), Lib.grownBy_trans HG1.out hg⟩
            have hfr := HZ1.out.frozen 1
            have hd0 : hexOf (s.get! (i + 1 + k)).toNat < 0 := by omega
            generalize hexOf (s.get! (i + 1 + k)).toNat = d at *
            have hby : (((s.get! (i + 1 + k)).toNat : Int) != 125) = true ∨ ((((s.get! (i + 1 + k)).toNat : Int) != 125) = false ∧ (s.get! (i + 1 + k)).toNat = 125) := by
              by_cases h5 : (s.get! (i + 1 + k)).toNat = 125
              · exact .inr ⟨by rw [h5]; rfl, h5⟩
              · exact .inl (by rw [bne_iff_ne]; omega)
            generalize hexVal s (i + 1) k = n at *
            clear hh hnx HX HS1 HZ1 hr
            by_cases g1 : k < 1
            · have hq1 : decide ((k : Int) < 1) = true := by simp; omega
              clear hby HSet HGood HRun
              go_wp2_with fail
              go_at_call 173
              refine HHex.out.mono ?_
              rintro e w2 ⟨rfl, rfl⟩
              go_wp2_with fail
              go_at_call 22
              refine (HFF.out _).mono ?_
              rintro e w2 ⟨rfl, hg2, hB2⟩
              go_wp2
              go_ret
              exact ⟨0, rfl, by omega, by omega, hg2, .inl hB2⟩
            · have hq1 : decide ((k : Int) < 1) = false := by simp; omega
              have hq2 : decide ((k : Int) > 6) = false := by simp; omega
              by_cases g2 : n > 1114111
              · clear hby HSet HGood HRun
                go_wp2_with fail
                go_at_call 173
                refine HHex.out.mono ?_
                rintro e w2 ⟨rfl, rfl⟩
                go_wp2_with fail
                go_at_call 22
                refine (HFF.out _).mono ?_
                rintro e w2 ⟨rfl, hg2, hB2⟩
                go_wp2
                go_ret
                exact ⟨0, rfl, by omega, by omega, hg2, .inl hB2⟩
              · rcases hby with hby | ⟨hby, hb5⟩
                · clear HSet HGood HRun
                  go_wp2_with fail
                  go_at_call 173
                  refine HHex.out.mono ?_
                  rintro e w2 ⟨rfl, rfl⟩
                  go_wp2_with fail
                  go_at_call 22
                  refine (HFF.out _).mono ?_
                  rintro e w2 ⟨rfl, hg2, hB2⟩
                  go_wp2
                  go_ret
                  exact ⟨0, rfl, by omega, by omega, hg2, .inl hB2⟩
                · have HFin := HGood.out (by omega) (by omega) hb5
                  have HFH : Hid (hexS s (i + 1) = some (n, i + 1 + k + 1)) := HFin
                  clear HGood HFin HFF hb5
                  go_wp2_with fail
                  go_at_call 173
                  refine HHex.out.mono ?_
                  rintro e w2 ⟨rfl, rfl⟩
                  go_wp2
                  go_ret
                  exact ⟨n, rfl, by omega, by omega, HSet.out.2, .inr ⟨_, e4, HFH.out, HSet.out.1⟩⟩
        · obtain rfl : k = 7 := by omega
          clear HX HS1 HZ1
          generalize hexVal s (i + 1) 7 = n at *
          go_wp2_with fail
          go_at_call 22
          refine (HFF.out _).mono ?_
          rintro e w2 ⟨rfl, hg2, hB2⟩
          go_wp2
          go_ret
          exact ⟨0, rfl, by omega, by omega, hg2, .inl hB2⟩
      · have hpi : ¬ ((i + 1 + k : Nat) : Int) < (s.size : Int) := by omega
        have hpi2 : decide (((i + 1 + k : Nat) : Int) ≥ (s.size : Int)) = true := by simp; omega
        clear HX HS1 HZ1
        generalize hexVal s (i + 1) k = n at *
        by_cases g1 : k < 1
        · have hq1 : decide ((k : Int) < 1) = true := by simp; omega
          go_wp2_with fail
          go_at_call 22
          refine (HFF.out _).mono ?_
          rintro e w2 ⟨rfl, hg2, hB2⟩
          go_wp2
          go_ret
          exact ⟨0, rfl, by omega, by omega, hg2, .inl hB2⟩
        · have hq1 : decide ((k : Int) < 1) = false := by simp; omega
          by_cases g3 : k > 6
          · have hq2 : decide ((k : Int) > 6) = true := by simp; omega
            go_wp2_with fail
            go_at_call 22
            refine (HFF.out _).mono ?_
            rintro e w2 ⟨rfl, hg2, hB2⟩
            go_wp2
            go_ret
            exact ⟨0, rfl, by omega, by omega, hg2, .inl hB2⟩
          · have hq2 : decide ((k : Int) > 6) = false := by simp; omega
            by_cases g2 : n > 1114111
            · go_wp2_with fail
              go_at_call 22
              refine (HFF.out _).mono ?_
              rintro e w2 ⟨rfl, hg2, hB2⟩
              go_wp2
              go_ret
              exact ⟨0, rfl, by omega, by omega, hg2, .inl hB2⟩
            · go_wp2_with fail
              go_at_call 22
              refine (HFF.out _).mono ?_
              rintro e w2 ⟨rfl, hg2, hB2⟩
              go_wp2
              go_ret
              exact ⟨0, rfl, by omega, by omega, hg2, .inl hB2⟩

end Go.Proofs.YtbjohedenfindaaGreatDoor
