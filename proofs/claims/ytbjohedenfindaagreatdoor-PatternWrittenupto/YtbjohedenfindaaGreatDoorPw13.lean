/- Texts of the proof, put together: RCnt, RHex, Wthn. -/
import Derived.Test.YtbjohedenfindaaGreatDoorPw11
import Derived.Test.YtbjohedenfindaaGreatDoorPw12
namespace Go.Proofs.YtbjohedenfindaaGreatDoor
open Go.RowKit
set_option linter.unusedVariables false
set_option maxRecDepth 100000

theorem grown_self (w : World) (row : Option Nat) : w.grownBy w row := ⟨rfl, rfl, rfl, Nat.le_refl _, fun _ _ _ => rfl⟩
theorem get_at (s : ByteArray) (i : Nat) (h : i < s.size) : s[i]'h = s.get! i := by
  rw [get_bang]
  have h2 : i < s.data.size := h
  rw [Array.getElem?_eq_getElem h2]
  rfl
theorem env_bnd {W0 w : World} (L : LibR W0) (h : Env W0 w) : ∃ te pe, w.cell? ⟨1, 0, none⟩ = some (.iface te pe) := by
  obtain ⟨te, pe, e⟩ := L.bnd
  exact ⟨te, pe, (World.cell?_of_block (a := ⟨1, 0, none⟩) (h.2 1 (by omega))).trans e⟩
/-- good at a place, or bad -/
def XR (W0 w : World) (R : Nat) (s : ByteArray) (i o : Nat) : Prop := (SR W0 w R s i o ∧ o ≤ 1000) ∨ BR W0 w R s
theorem XR.env {W0 w : World} {R i o : Nat} {s : ByteArray} (h : XR W0 w R s i o) : Env W0 w := h.elim (fun h => h.1.env) fun h => h.env
theorem XR.r16 {W0 w : World} {R i o : Nat} {s : ByteArray} (h : XR W0 w R s i o) : 16 ≤ R := h.elim (fun h => h.1.r16) fun h => h.r16
theorem XR.lt {W0 w : World} {R i o : Nat} {s : ByteArray} (h : XR W0 w R s i o) : R < w.heap.size := h.elim (fun h => h.1.lt) fun h => h.lt
theorem XR.kept {W0 w w' : World} {R i o : Nat} {s : ByteArray} (h : XR W0 w R s i o) (hg : w.grownBy w' none) : XR W0 w' R s i o := h.elim (fun h => .inl ⟨h.1.kept hg, h.2⟩) fun h => .inr (h.kept hg)
/-- the text, and the place -/
theorem XR.at_ {W0 w : World} {R i o : Nat} {s : ByteArray} (h : XR W0 w R s i o) : ∃ i1 : Nat, i1 ≤ s.size ∧ w.cell? ⟨R, 0, none⟩ = some (.string s) ∧ w.cell? ⟨R, 1, none⟩ = some (.int .i64 i1) ∧ (BR W0 w R s ∨ (i1 = i ∧ SR W0 w R s i o)) := by
  rcases h with ⟨h, ho⟩ | h
  · obtain ⟨z, hz⟩ := h.at_
    exact ⟨i, h.inn, hz.cells.1, hz.cells.2.1, .inr ⟨rfl, h⟩⟩
  · obtain ⟨i1, o1, te, pe, z, h1, h2, hz⟩ := h.at_
    exact ⟨i1, h1, hz.cells.1, hz.cells.2.1, .inl h⟩
theorem XR.text {W0 w : World} {R i o : Nat} {s : ByteArray} (h : XR W0 w R s i o) : s.size ≤ 1000000 := h.elim (fun h => h.1.text) fun h => h.text
theorem fail_any {W0 w : World} {R i o : Nat} {s : ByteArray} (h : XR W0 w R s i o) (te : TypeId) (pe : Value) (y : Int) :
    Calls Tryz.prog 22 #[.pointer (some ⟨R, 0, none⟩), .iface te pe, .int .i64 y] w fun e w' => e = .returned (.tuple #[]) ∧ w.grownBy w' (some R) ∧ BR W0 w' R s := by
  rcases h with ⟨h, ho⟩ | h
  · exact fail_first h ho te pe y
  · refine (fail_more h te pe y).mono ?_
    rintro e w' ⟨h1, rfl⟩
    exact ⟨h1, grown_self _ _, h⟩

theorem cp_dig (s : ByteArray) (i : Nat) : isDig s i = true ↔ (48 ≤ cpAt s i ∧ cpAt s i ≤ 57) := by
  constructor
  · intro h
    simp [isDig] at h
    obtain ⟨h0, h1, h2⟩ := h
    have := ascii_cp h0 (by omega)
    omega
  · rintro ⟨h1, h2⟩
    have hc := cp_ascii (s := s) (i := i) (by omega) (by omega)
    have hlt := cp_lt (s := s) (i := i) (by omega)
    simp [isDig]
    exact ⟨hlt, by omega, by omega⟩
theorem digRun_of (s : ByteArray) : ∀ (f i k : Nat), k ≤ f → (∀ j, j < k → isDig s (i + j) = true) → isDig s (i + k) = false → digRun s f i = k
  | 0, i, k, h, _, _ => by simp [digRun]; omega
  | f + 1, i, 0, h, h1, h2 => by
    have : isDig s i = false := by simpa using h2
    simp [digRun, this]
  | f + 1, i, k + 1, h, h1, h2 => by
    have h0 : isDig s i = true := by simpa using h1 0 (by omega)
    rw [digRun, if_pos h0, digRun_of s f (i + 1) k (by omega) (fun j hj => by have := h1 (j + 1) (by omega); rwa [show i + (j + 1) = i + 1 + j by omega] at this) (by rwa [show i + (k + 1) = i + 1 + k by omega] at h2)]

/-- the number so far: exact up to 50 -/
def Cnt (s : ByteArray) (i k : Nat) (n : Int) : Prop := 0 ≤ n ∧ n ≤ 509 ∧ 0 ≤ digVal s i k ∧ (n ≤ 50 → n = digVal s i k) ∧ (50 < n → 50 < digVal s i k)
theorem Cnt.step {s : ByteArray} {i k : Nat} {n : Int} (h : Cnt s i k n) (hd : isDig s (i + k) = true) : (n ≤ 50 → Cnt s i (k + 1) (n * 10 + cpAt s (i + k) - 48)) ∧ (50 < n → Cnt s i (k + 1) n) := by
  obtain ⟨h1, h2, h3, h4, h5⟩ := h
  have hc := (cp_dig s (i + k)).1 hd
  have ha := cp_ascii (s := s) (i := i + k) (by omega) (by omega)
  have hv : digVal s i (k + 1) = digVal s i k * 10 + (cpAt s (i + k) - 48) := by rw [digVal, ha.2]
  constructor
  · intro hn
    have := h4 hn
    refine ⟨by omega, by omega, by omega, fun _ => by omega, fun _ => by omega⟩
  · intro hn
    have := h5 hn
    refine ⟨h1, h2, by omega, fun _ => by omega, fun _ => by omega⟩

/-- the end of count: where nothing is wrong it is as it should be -/
def CntP (W0 w : World) (R : Nat) (s : ByteArray) (i o : Nat) (e : Ending) (w' : World) : Prop := ∃ z : Int, e = .returned (.int .i64 z) ∧ -1000 ≤ z ∧ z ≤ 1000 ∧ w.grownBy w' (some R) ∧ (BR W0 w' R s ∨ ∃ j, countS s i = some (z, j) ∧ SR W0 w' R s j o) ∧ (BR W0 w' R s → BadR s (countS s i))

set_option maxHeartbeats 4000000 in
theorem rcount_any {W0 w : World} (L : LibR W0) {R i o : Nat} {s : ByteArray} (h : SR W0 w R s i o) (ho : o ≤ 1000) :
    Calls Tryz.prog 141 #[.pointer (some ⟨R, 0, none⟩)] w fun e w' => CntP W0 w R s i o e w' := by
  obtain ⟨z0, hz0⟩ := h.at_
  obtain ⟨c0, c1, _, _, _⟩ := hz0.cells
  have hin := h.inn
  have htx := h.text
  have HS : Hid (SR W0 w R s i o) := h
  clear h hz0 c0
  go_enter Tryz.func141, Tryz.ntmps141
  go_wp2
  go_loopw [4] (fun x wr => ∃ (k : Nat) (n : Int), x = .int .i64 n ∧ i + k ≤ s.size ∧ Hid (SR W0 wr R s (i + k) o) ∧ Hid (w.grownBy wr (some R)) ∧ Hid (∀ j, j < k → isDig s (i + j) = true) ∧ Hid (Cnt s i k n)) (fun x wr => (match wr.cell? ⟨R, 1, none⟩ with | some (.int _ z) => s.size - z.toNat | _ => 0))
  case atStart => exact ⟨0, 0, rfl, by omega, HS, grown_self _ _, fun j hj => by omega, ⟨by omega, by omega, by simp [digVal], fun _ => by simp [digVal], fun h => by omega⟩⟩
  case round =>
    obtain ⟨k, n, rfl, hik, HSR, HG, HD, HCn⟩ := hrel
    obtain ⟨zr, hzr⟩ := HSR.out.at_
    have cR := hzr.cells.2.1
    by_cases hd : isDig s (i + k) = true
    · have hcp := (cp_dig s (i + k)).1 hd
      have hsl := cp_lt (s := s) (i := i + k) (by omega)
      obtain ⟨hst1, hst2⟩ := HCn.out.step hd
      have hnb := HCn.out
      have HD2 : Hid (∀ j, j < k + 1 → isDig s (i + j) = true) := fun j hj => by
        by_cases e : j = k
        · subst e; exact hd
        · exact HD.out j (by omega)
      obtain ⟨hn0, hn1, _⟩ := hnb
      have HN : Hid (Calls Tryz.prog 74 #[.pointer (some ⟨R, 0, none⟩)] wr fun e w' => e = .returned (.int .i64 (cpAt s (i + k))) ∧ ∃ n, w' = wr.drewN n) := now_in HSR.out (by omega)
      have HA : Hid (∀ m, RrAt ((wr.drewN m).setCell ⟨R, 1, none⟩ (.int .i64 ((i + (k + 1) : Nat) : Int))) R s (i + (k + 1)) o .nilIface zr) := fun m => RrAt.set1 (hzr.kept (grown_drewN wr m none)) _
      have HF : Hid (∀ m, wr.grownBy ((wr.drewN m).setCell ⟨R, 1, none⟩ (.int .i64 ((i + (k + 1) : Nat) : Int))) (some R)) := fun m => Lib.grownBy_setB (grown_drewN wr m (some R)) 1 _
      have hfr : ∀ m, (wr.drewN m).frozen? ⟨R, 1, none⟩ = false := fun m => (hzr.kept (grown_drewN wr m none)).frozen 1
      have hcc : ∀ m, (wr.drewN m).cell? ⟨R, 1, none⟩ = some (.int .i64 ((i + k : Nat) : Int)) := fun m => cR
      generalize cpAt s (i + k) = c at *
      obtain ⟨p1, p2⟩ := hcp
      clear hd hzr
      by_cases hn : n ≤ 50
      · have HCC : Hid (Cnt s i (k + 1) (n * 10 + c - 48)) := hst1 hn
        clear hst1 hst2
        go_wp2_with fail
        refine HN.out.mono ?_
        rintro e w' ⟨rfl, m, rfl⟩
        have hfm := hfr m
        have hcm := hcc m
        have HA2 := HA.out m
        have HF2 := HF.out m
        clear hfr hcc HA HF
        go_wp2
        go_roundw
        case rel => exact ⟨k + 1, n * 10 + c - 48, rfl, by omega, HSR.out.step HF2 (by omega) HA2, Lib.grownBy_trans HG.out HF2, HD2, HCC⟩
        case measure =>
          have e1 : ((wr.drewN m).setCell ⟨R, 1, none⟩ (.int .i64 ((i : Int) + (k : Int) + 1))).cell? ⟨R, 1, none⟩ = some (.int .i64 ((i + (k + 1) : Nat) : Int)) := HA2.cells.2.1
          rw [e1, cR]
          simp only [Int.toNat_natCast]
          omega
      · have HCC : Hid (Cnt s i (k + 1) n) := hst2 (by omega)
        clear hst1 hst2
        go_wp2_with fail
        refine HN.out.mono ?_
        rintro e w' ⟨rfl, m, rfl⟩
        have hfm := hfr m
        have hcm := hcc m
        have HA2 := HA.out m
        have HF2 := HF.out m
        clear hfr hcc HA HF
        go_wp2
        go_roundw
        case rel => exact ⟨k + 1, n, rfl, by omega, HSR.out.step HF2 (by omega) HA2, Lib.grownBy_trans HG.out HF2, HD2, HCC⟩
        case measure =>
          have e1 : ((wr.drewN m).setCell ⟨R, 1, none⟩ (.int .i64 ((i : Int) + (k : Int) + 1))).cell? ⟨R, 1, none⟩ = some (.int .i64 ((i + (k + 1) : Nat) : Int)) := HA2.cells.2.1
          rw [e1, cR]
          simp only [Int.toNat_natCast]
          omega
    · have hnd : isDig s (i + k) = false := by simpa using hd
      have HRun : Hid (digRun s s.size i = k) := digRun_of s s.size i k (by omega) HD.out hnd
      have hc : cpAt s (i + k) < 48 ∨ 57 < cpAt s (i + k) := by
        rcases (show cpAt s (i + k) < 48 ∨ 57 < cpAt s (i + k) ∨ (48 ≤ cpAt s (i + k) ∧ cpAt s (i + k) ≤ 57) by omega) with h | h | h
        · exact .inl h
        · exact .inr h
        · exact absurd ((cp_dig s (i + k)).2 h) hd
      obtain ⟨hn0, hn1, hn2, hn3, hn4⟩ := HCn.out
      have HN : Hid (Calls Tryz.prog 74 #[.pointer (some ⟨R, 0, none⟩)] wr fun e w' => ∃ c : Int, e = .returned (.int .i64 c) ∧ (c < 48 ∨ 57 < c) ∧ w.grownBy w' (some R) ∧ XR W0 w' R s (i + k) o ∧ (BR W0 w' R s → cpAt s (i + k) = -2)) := by
        refine (now_any L HSR.out ho).mono ?_
        rintro e w' ⟨hg, ⟨h1, rfl, h3⟩ | ⟨h1, rfl, h3⟩⟩
        · exact ⟨_, rfl, hc, Lib.grownBy_trans HG.out hg, .inl ⟨h3, ho⟩, fun hB => (sr_not_br h3 hB).elim⟩
        · exact ⟨_, rfl, .inl (by omega), Lib.grownBy_trans HG.out hg, .inr h3, fun _ => h1⟩
      have HGood : Hid (k ≠ 0 → ¬ (1 < k ∧ (s.get! i).toNat = 48) → n ≤ 50 → countS s i = some (n, i + k)) := fun h0 h1 h2 => by
        unfold countS
        rw [HRun.out, ← hn3 h2, if_neg (by omega)]
      have HBad : Hid (cpAt s (i + k) = -2 → BadR s (countS s i)) := fun h => by
        unfold BadR countS
        rw [HRun.out]
        split
        · exact .inl rfl
        · exact .inr ⟨_, _, rfl, h⟩
      have HNone : Hid ((k = 0 ∨ (1 < k ∧ (s.get! i).toNat = 48) ∨ 50 < n) → countS s i = none) := fun h => by
        unfold countS
        rw [HRun.out, if_pos]
        rcases h with h | h | h
        · exact .inl h
        · exact .inr (.inl h)
        · exact .inr (.inr (hn4 h))
      clear hd hnd hc hzr HCn HD hn2 hn3 hn4 cR
      go_wp2_with fail
      refine HN.out.mono ?_
      rintro e w1 ⟨c, rfl, hc, hg1, hX1, hBd1⟩
      have HX1 : Hid (XR W0 w1 R s (i + k) o) := hX1
      obtain ⟨i1, hi1, d0, d1, hst⟩ := hX1.at_
      obtain ⟨te, pe, cs⟩ := env_syn L hX1.env
      have HG1 : Hid (w.grownBy w1 (some R)) := hg1
      have HST : Hid (BR W0 w1 R s ∨ (i1 = i + k ∧ SR W0 w1 R s (i + k) o)) := hst
      have HBA : Hid (i1 = i → BadR s (countS s i)) := fun h => by
        rcases HST.out with hB | ⟨hB1, _⟩
        · exact HBad.out (hBd1 hB)
        · exact .inl (HNone.out (.inl (by omega)))
      have HBB : Hid (i + 1 < i1 → (s.get! i).toNat = 48 → BadR s (countS s i)) := fun h h8 => by
        rcases HST.out with hB | ⟨hB1, _⟩
        · exact HBad.out (hBd1 hB)
        · exact .inl (HNone.out (.inr (.inl ⟨by omega, h8⟩)))
      have HBC : Hid (decide (n > 50) = true → BadR s (countS s i)) := fun h => .inl (HNone.out (.inr (.inr (by simpa using h))))
      have HBD : Hid (BR W0 w1 R s → BadR s (countS s i)) := fun hB => HBad.out (hBd1 hB)
      clear hX1 hst HN hg1 hBd1 HBad HNone
      have hcc : decide (c < 48) = true ∨ (decide (c < 48) = false ∧ decide (c > 57) = true) := by
        rcases hc with h | h
        · exact .inl (by simp; omega)
        · by_cases h' : c < 48
          · exact .inl (by simp; omega)
          · exact .inr ⟨by simp; omega, by simp; omega⟩
      clear hc
      have HFail1 : Hid (∀ y, Calls Tryz.prog 22 #[.pointer (some ⟨R, 0, none⟩), .iface te pe, .int .i64 y] w1 fun e w' => e = .returned (.tuple #[]) ∧ ∃ te2 pe2, w'.cell? ⟨1, 0, none⟩ = some (.iface te2 pe2) ∧ (w.grownBy w' (some R) ∧ BR W0 w' R s)) := fun y => by
        refine (fail_any HX1.out te pe y).mono ?_
        rintro e w' ⟨h1, h2, h3⟩
        obtain ⟨te2, pe2, h4⟩ := env_bnd L h3.env
        exact ⟨h1, te2, pe2, h4, Lib.grownBy_trans HG1.out h2, h3⟩
      obtain ⟨te3, pe3, cs3⟩ := env_bnd L HX1.out.env
      have HFail2 : Hid (∀ y, Calls Tryz.prog 22 #[.pointer (some ⟨R, 0, none⟩), .iface te3 pe3, .int .i64 y] w1 fun e w' => e = .returned (.tuple #[]) ∧ (w.grownBy w' (some R) ∧ BR W0 w' R s)) := fun y => by
        refine (fail_any HX1.out te3 pe3 y).mono ?_
        rintro e w' ⟨h1, h2, h3⟩
        exact ⟨h1, Lib.grownBy_trans HG1.out h2, h3⟩
      have HFail3 : Hid (∀ w2 te pe y, w.grownBy w2 (some R) ∧ BR W0 w2 R s → Calls Tryz.prog 22 #[.pointer (some ⟨R, 0, none⟩), .iface te pe, .int .i64 y] w2 fun e w' => e = .returned (.tuple #[]) ∧ w' = w2) := fun w2 te pe y h => fail_more h.2 te pe y
      have hnn : decide (n > 50) = true ∨ (decide (n > 50) = false ∧ n ≤ 50) := by
        by_cases h : n > 50
        · exact .inl (by simp; omega)
        · exact .inr ⟨by simp; omega, by omega⟩
      have hcase : i1 = i ∨ (((i1 : Int) == (i : Int)) = false ∧ decide ((i1 : Int) > (i : Int) + 1) = true ∧ i < s.size ∧ i1 ≠ i) ∨ (((i1 : Int) == (i : Int)) = false ∧ decide ((i1 : Int) > (i : Int) + 1) = false ∧ i1 ≠ i ∧ ¬ i + 1 < i1) := by
        by_cases h1 : i1 = i
        · exact .inl h1
        · have e1 : ((i1 : Int) == (i : Int)) = false := by rw [beq_eq_false_iff_ne]; omega
          by_cases h2 : i + 1 < i1
          · exact .inr (.inl ⟨e1, by simp; omega, by omega, h1⟩)
          · exact .inr (.inr ⟨e1, by simp; omega, h1, h2⟩)
      rcases hcase with rfl | ⟨e1, e2, e3, e4⟩ | ⟨e1, e2, e3, e4⟩
      · have HBX := HBA.out rfl
        have HBY : Hid (BadR s _) := HBX
        clear HGood HST HFail2 cs3 HBA HBB HBC HBD HBX
        rcases hcc with hcc | ⟨hcc, hcc2⟩
        all_goals
          go_wp2_with fail
          refine (HFail1.out _).mono ?_
          rintro e w2 ⟨rfl, te2, pe2, k1, k2⟩
          have HK2 : Hid (w.grownBy w2 (some R) ∧ BR W0 w2 R s) := k2
          clear k2
          rcases hnn with hnn | ⟨hnn, hnn2⟩
          · go_wp2_with fail
            refine (HFail3.out _ _ _ _ HK2.out).mono ?_
            rintro e w3 ⟨rfl, rfl⟩
            go_wp2
            go_ret
            exact ⟨n, rfl, by omega, by omega, HK2.out.1, .inl HK2.out.2, fun _ => HBY.out⟩
          · go_wp2
            go_ret
            exact ⟨n, rfl, by omega, by omega, HK2.out.1, .inl HK2.out.2, fun _ => HBY.out⟩
      · have hb1 : (i : Int) < (s.size : Int) := by omega
        have hb0 : (0 : Int) ≤ (i : Int) := by omega
        have hgb : s[i]'e3 = s.get! i := get_at s i e3
        by_cases hb : (s.get! i).toNat = 48
        · have hbq : (((s[i]'e3).toNat : Int) == 48) = true := by rw [hgb, hb]; rfl
          have HBY : Hid (BadR s (countS s i)) := HBB.out (by have := of_decide_eq_true e2; omega) hb
          clear HGood HST HFail2 cs3 HBA HBB HBC HBD
          rcases hcc with hcc | ⟨hcc, hcc2⟩
          all_goals
            go_wp2_with fail
            refine (HFail1.out _).mono ?_
            rintro e w2 ⟨rfl, te2, pe2, k1, k2⟩
            have HK2 : Hid (w.grownBy w2 (some R) ∧ BR W0 w2 R s) := k2
            clear k2
            rcases hnn with hnn | ⟨hnn, hnn2⟩
            · go_wp2_with fail
              refine (HFail3.out _ _ _ _ HK2.out).mono ?_
              rintro e w3 ⟨rfl, rfl⟩
              go_wp2
              go_ret
              exact ⟨n, rfl, by omega, by omega, HK2.out.1, .inl HK2.out.2, fun _ => HBY.out⟩
            · go_wp2
              go_ret
              exact ⟨n, rfl, by omega, by omega, HK2.out.1, .inl HK2.out.2, fun _ => HBY.out⟩
        · have hbq : (((s[i]'e3).toNat : Int) == 48) = false := by rw [hgb, beq_eq_false_iff_ne]; omega
          clear HFail1 cs
          rcases hcc with hcc | ⟨hcc, hcc2⟩
          all_goals
            rcases hnn with hnn | ⟨hnn, hnn2⟩
            · go_wp2_with fail
              refine (HFail2.out _).mono ?_
              rintro e w2 ⟨rfl, k2⟩
              have HK2 : Hid (w.grownBy w2 (some R) ∧ BR W0 w2 R s) := k2
              clear k2
              go_wp2
              go_ret
              exact ⟨n, rfl, by omega, by omega, HK2.out.1, .inl HK2.out.2, fun _ => HBC.out hnn⟩
            · go_wp2
              go_ret
              refine ⟨n, rfl, by omega, by omega, HG1.out, ?_, HBD.out⟩
              rcases HST.out with hB | ⟨hB1, hB2⟩
              · exact .inl hB
              · exact .inr ⟨i + k, HGood.out (by omega) (by omega) hnn2, hB2⟩
      · clear HFail1 cs
        rcases hcc with hcc | ⟨hcc, hcc2⟩
        all_goals
          rcases hnn with hnn | ⟨hnn, hnn2⟩
          · go_wp2_with fail
            refine (HFail2.out _).mono ?_
            rintro e w2 ⟨rfl, k2⟩
            have HK2 : Hid (w.grownBy w2 (some R) ∧ BR W0 w2 R s) := k2
            clear k2
            go_wp2
            go_ret
            exact ⟨n, rfl, by omega, by omega, HK2.out.1, .inl HK2.out.2, fun _ => HBC.out hnn⟩
          · go_wp2
            go_ret
            refine ⟨n, rfl, by omega, by omega, HG1.out, ?_, HBD.out⟩
            rcases HST.out with hB | ⟨hB1, hB2⟩
            · exact .inl hB
            · exact .inr ⟨i + k, HGood.out (by omega) (by omega) hnn2, hB2⟩

end Go.Proofs.YtbjohedenfindaaGreatDoor

namespace Go.Proofs.YtbjohedenfindaaGreatDoor
open Go.RowKit
set_option linter.unusedVariables false
set_option maxRecDepth 100000

set_option maxHeartbeats 2000000 in
theorem hex_any (b : Nat) (hb : b < 256) (w : World) : Calls Tryz.prog 173 #[.int .u8 (b : Int)] w fun e w' => e = .returned (.int .i64 (hexOf b)) ∧ w' = w := by
  have HH : Hid (hexOf b = if 48 ≤ b ∧ b ≤ 57 then (b : Int) - 48 else if 97 ≤ b ∧ b ≤ 102 then (b : Int) - 87 else if 65 ≤ b ∧ b ≤ 70 then (b : Int) - 55 else -1) := rfl
  generalize hexOf b = res at *
  by_cases h1 : 48 ≤ b ∧ b ≤ 57
  · have hr := HH.out; rw [if_pos h1] at hr; subst hr
    obtain ⟨p1, p2⟩ := h1
    clear HH
    go_enter Tryz.func173, Tryz.ntmps173
    go_wp2
    go_ret
    exact ⟨by simp, rfl⟩
  · have hr := HH.out; rw [if_neg h1] at hr
    by_cases h2 : 97 ≤ b ∧ b ≤ 102
    · rw [if_pos h2] at hr; subst hr
      obtain ⟨p1, p2⟩ := h2
      have q : ¬ b ≤ 57 := by omega
      clear HH h1
      go_enter Tryz.func173, Tryz.ntmps173
      go_wp2
      go_ret
      refine ⟨?_, rfl⟩
      simp; omega
    · rw [if_neg h2] at hr
      by_cases h3 : 65 ≤ b ∧ b ≤ 70
      · rw [if_pos h3] at hr; subst hr
        obtain ⟨p1, p2⟩ := h3
        have q : ¬ b ≤ 57 := by omega
        have q2 : ¬ 97 ≤ b := by omega
        clear HH h1 h2
        go_enter Tryz.func173, Tryz.ntmps173
        go_wp2
        go_ret
        refine ⟨?_, rfl⟩
        simp; omega
      · rw [if_neg h3] at hr; subst hr
        clear HH
        have hc : b < 48 ∨ (57 < b ∧ b < 65) ∨ (70 < b ∧ b < 97) ∨ 102 < b := by omega
        clear h1 h2 h3
        rcases hc with h | ⟨h, h'⟩ | ⟨h, h'⟩ | h
        all_goals
          go_enter Tryz.func173, Tryz.ntmps173
          go_wp2
          go_ret
          exact ⟨by simp, rfl⟩
end Go.Proofs.YtbjohedenfindaaGreatDoor

namespace Go.Proofs.YtbjohedenfindaaGreatDoor
open Go.RowKit
set_option linter.unusedVariables false
set_option maxRecDepth 100000

def withinS (s : ByteArray) (k : Nat) (c : Int) : Bool := (List.range k).any fun i => ((s.get! i).toNat : Int) == c
theorem within_succ (s : ByteArray) (k : Nat) (c : Int) : withinS s (k + 1) c = (withinS s k c || (((s.get! k).toNat : Int) == c)) := by
  unfold withinS; rw [List.range_succ, List.any_append]; simp
theorem within_mono (s : ByteArray) (c : Int) (k : Nat) (h : withinS s k c = true) : ∀ d, withinS s (k + d) c = true
  | 0 => h
  | d + 1 => by rw [show k + (d + 1) = (k + d) + 1 by omega, within_succ, within_mono s c k h d]; rfl

set_option maxHeartbeats 2000000 in
theorem within_any (s : ByteArray) (c : Int) (w : World) (hs : s.size ≤ 1000) : Calls Tryz.prog 158 #[.string s, .int .i64 c] w fun e w' => e = .returned (.bool (withinS s s.size c)) ∧ w' = w := by
  have HM : Hid (∀ k, k < s.size → (((s.get! k).toNat : Int) == c) = true → withinS s s.size c = true) := fun k hk h => by
    have h1 : withinS s (k + 1) c = true := by rw [within_succ, h]; simp
    have := within_mono s c (k + 1) h1 (s.size - (k + 1))
    rwa [show k + 1 + (s.size - (k + 1)) = s.size by omega] at this
  have HN : Hid (∀ k, withinS s k c = false → (((s.get! k).toNat : Int) == c) = false → withinS s (k + 1) c = false) := fun k h1 h2 => by rw [within_succ, h1, h2]; rfl
  generalize hres : withinS s s.size c = res at *
  have HR : Hid (withinS s s.size c = res) := hres
  clear hres
  go_enter Tryz.func158, Tryz.ntmps158
  go_wp2
  go_loopw [5] (fun iv wr => ∃ k : Nat, k ≤ s.size ∧ iv = .int .i64 k ∧ withinS s k c = false ∧ wr = w) (fun iv _ => s.size - (intOf iv).toNat)
  case atStart => exact ⟨0, Nat.zero_le _, rfl, rfl, rfl⟩
  case round =>
    obtain ⟨k, hk, rfl, hf, rfl⟩ := hrel
    have HF : Hid (withinS s k c = false) := hf
    clear hf
    by_cases hlt : k < s.size
    · have hg : ((s.get! k).toNat : Int) = wrap64 (((s[k]'hlt).toNat : Nat) : Int) := by
        have e : s.get! k = s[k]'hlt := by simp [ByteArray.get!, hlt, getElem!_pos]; rfl
        have := (s[k]'hlt).toNat_lt
        rw [e]; unfold wrap64; omega
      have HN' := HN.out k HF.out
      have HM' := HM.out k hlt
      rw [hg] at HN' HM'
      have HNN : Hid ((wrap64 (((s[k]'hlt).toNat : Nat) : Int) == c) = false → withinS s (k + 1) c = false) := HN'
      have HMM : Hid ((wrap64 (((s[k]'hlt).toNat : Nat) : Int) == c) = true → res = true) := HM'
      clear HN' HM' hg HN HM
      cases hq : (wrap64 (((s[k]'hlt).toNat : Nat) : Int) == c)
      · have hn := HNN.out hq
        have HNk : Hid (withinS s (k + 1) c = false) := hn
        clear hn
        go_wp2
        go_roundw
        case rel => exact ⟨k + 1, by omega, by go_num, HNk.out, by trivial⟩
        case measure => simp [intOf]; omega
      · have hr := HMM.out hq
        subst hr
        go_wp2
        go_ret
        exact ⟨rfl, rfl⟩
    · have hk2 : k = s.size := by omega
      subst hk2
      have hr := HR.out
      rw [HF.out] at hr
      subst hr
      clear HR HF
      go_wp2
      go_ret
      exact ⟨rfl, rfl⟩
end Go.Proofs.YtbjohedenfindaaGreatDoor
