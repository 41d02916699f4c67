/- Texts of the proof, put together: PCntB. -/
import Derived.Test.YtbjohedenfindaaGreatDoorMg12
namespace Go.Proofs.YtbjohedenfindaaGreatDoor
open Go.RowKit
set_option linter.unusedVariables false
set_option maxRecDepth 100000

/-- the place that the reader's cell says -/
def placeOf (w : World) (R : Nat) : Nat := match w.cell? ⟨R, 1, none⟩ with
  | some (.int _ q) => q.toNat
  | _ => 0
theorem placeOf_at {w : World} {R i o M : Nat} {s : ByteArray} (h : RdAt w R s i o M) : placeOf w R = i := by
  obtain ⟨_, c1, _, _⟩ := h.cells
  simp [placeOf, c1]
theorem digRun_all (s : ByteArray) : ∀ (f i k : Nat), k < digRun s f i → isDig s (i + k) = true := by
  intro f
  induction f with
  | zero => intro i k h; simp [digRun] at h
  | succ f ih =>
    intro i k h
    unfold digRun at h
    split at h
    · rename_i h1
      cases k with
      | zero => exact h1
      | succ k =>
        have := ih (i + 1) k (by omega)
        rw [show i + (k + 1) = i + 1 + k by omega]; exact this
    · omega
theorem digRun_end (s : ByteArray) : ∀ (f i : Nat), s.size ≤ i + f → isDig s (i + digRun s f i) = false := by
  intro f
  induction f with
  | zero =>
    intro i h
    have h2 : ¬ i < s.size := by omega
    simp [digRun, isDig, h2]
  | succ f ih =>
    intro i h
    unfold digRun
    by_cases h1 : isDig s i = true
    · rw [if_pos h1]
      have := ih (i + 1) (by omega)
      rw [show i + (digRun s f (i + 1) + 1) = i + 1 + digRun s f (i + 1) by omega]; exact this
    · rw [if_neg h1]; simpa using h1
theorem extr_get (s : ByteArray) (i e j : Nat) (he : e ≤ s.size) (hj : i + j < e) : (s.extract i e).get! j = s.get! (i + j) := by
  rw [get_bang, get_bang, ByteArray.data_extract, Array.getElem?_extract]
  have : s.data.size = s.size := rfl
  rw [if_pos (by omega)]
theorem extr_size (s : ByteArray) (i e : Nat) (he : e ≤ s.size) : (s.extract i e).size = e - i := by simp; omega
theorem digVal_same (s T : ByteArray) (i : Nat) : ∀ k, (∀ j, j < k → T.get! j = s.get! (i + j)) → digVal s i k = digVal T 0 k
  | 0, _ => rfl
  | k + 1, h => by
    simp only [digVal]
    rw [digVal_same s T i k (fun j hj => h j (by omega))]
    have := h k (by omega)
    simp [this]
theorem get_elem (s : ByteArray) (k : Nat) (h : k < s.size) : s.get! k = s[k] := by
  rw [get_bang]
  have : k < s.data.size := h
  rw [Array.getElem?_eq_getElem this]
  rfl

set_option maxHeartbeats 4000000 in
theorem count_any {W0 w : World} (L : LibC W0) {R i o M : Nat} {s : ByteArray} (h : St W0 w R s i o M) :
    Calls Tryz.prog 156 #[.pointer (some ⟨R, 0, none⟩)] w (Got W0 w R s o M (countS s i) IntV) := by
  have HS : Hid (St W0 w R s i o M) := h
  have hall : Hid (∀ k, k < digRun s s.size i → isDig s (i + k) = true) := digRun_all s s.size i
  have hend : Hid (isDig s (i + digRun s s.size i) = false) := digRun_end s s.size i (by omega)
  have hle := digRun_le s s.size i h.inn
  have HC : Hid (countS s i = if digRun s s.size i = 0 ∨ (1 < digRun s s.size i ∧ (s.get! i).toNat = 48) ∨ 50 < digVal s i (digRun s s.size i) then none else some (digVal s i (digRun s s.size i), i + digRun s s.size i)) := rfl
  generalize countS s i = res at *
  generalize digRun s s.size i = K at *
  obtain ⟨_, c1, _, _⟩ := h.at_.cells
  have hs := h.text
  clear h
  go_enter Tryz.func156, Tryz.ntmps156
  go_wp2
  go_loopw [44] (fun _ wr => ∃ m : Nat, i ≤ m ∧ m ≤ i + K ∧ w.grownBy wr (some R) ∧ St W0 wr R s m o M) (fun _ wr => s.size - placeOf wr R)
  case atStart => exact ⟨i, Nat.le_refl _, by omega, World.grownBy.refl _ _, HS.out⟩
  case round =>
    obtain ⟨m, hm0, hm1, hgr, hSr⟩ := hrel
    obtain ⟨d0, d1, _, _⟩ := hSr.at_.cells
    have HSr : Hid (St W0 wr R s m o M) := hSr
    by_cases hlt : m < i + K
    · have hd := hall.out (m - i) (by omega)
      rw [show i + (m - i) = m by omega] at hd
      simp [isDig] at hd
      obtain ⟨q1, q2, q3⟩ := hd
      rw [get_elem s m q1] at q2 q3
      have f1 := hSr.at_.frozen 1
      have e1 : decide ((m : Int) < (s.size : Int)) = true := by simp; omega
      have q2' : decide ((48 : Int) ≤ (s[m].toNat : Int)) = true := by simp; omega
      have q3' : decide ((s[m].toNat : Int) ≤ (57 : Int)) = true := by simp; omega
      clear hSr
      go_wp2
      go_quiet (fail)
      go_wp2
      go_roundw
      case rel =>
        have hg2 := Lib.grownBy_setB (w := wr.drewN nq) (grownBy_undrew (n := 0) (⟨hgr.os, hgr.tape, hgr.output, hgr.size, hgr.block⟩ : w.grownBy (wr.drewN nq) (some R))) 1 (.int .i64 ((m : Int) + 1))
        refine ⟨m + 1, by omega, by omega, hg2, ?_⟩
        exact HS.out.step hg2 (by omega) (by simpa using (show RdAt (wr.drewN nq) R s m o M from HSr.out.at_).set1 (m + 1))
      case measure =>
        have h1 : placeOf wr R = m := placeOf_at HSr.out.at_
        have h2 : placeOf ((wr.drewN nq).setCell ⟨R, 1, none⟩ (.int .i64 ((m : Int) + 1))) R = m + 1 := placeOf_at (s := s) (o := o) (M := M) (by simpa using (show RdAt (wr.drewN nq) R s m o M from HSr.out.at_).set1 (m + 1))
        rw [h1, h2]
        omega
    · have hmK : m = i + K := by omega
      subst hmK
      have hnd := hend.out
      have hcase : (¬ i + K < s.size) ∨ ∃ h : i + K < s.size, (s[i + K].toNat < 48 ∨ (48 ≤ s[i + K].toNat ∧ 57 < s[i + K].toNat)) := by
        by_cases h1 : i + K < s.size
        · refine Or.inr ⟨h1, ?_⟩
          simp [isDig, h1] at hnd
          rw [get_elem s _ h1] at hnd
          by_cases h2 : 48 ≤ s[i + K].toNat
          · exact Or.inr ⟨h2, hnd h2⟩
          · exact Or.inl (by omega)
        · exact Or.inl h1
      clear hend hSr
      generalize hmm : i + K = m at *
      have HM : Hid (i + K = m) := hmm
      clear hmm
      have HT1 : Hid ((s.extract i m).size = K) := by show _ = _; rw [extr_size s i m hle]; have := HM.out; omega
      have HT2 : Hid (∀ j, j < K → (s.extract i m).get! j = s.get! (i + j)) := fun j hj => extr_get s i m j hle (by have := HM.out; omega)
      have HT3 : Hid (allDig (s.extract i m)) := fun j hj => by
        have hj' : j < K := by have := HT1.out; omega
        rw [HT2.out j hj']
        have := hall.out j hj'
        simp [isDig] at this
        exact this.2
      have HT4 : Hid (digVal s i K = digVal (s.extract i m) 0 K) := digVal_same s _ i K HT2.out
      obtain ⟨te, pe, d2⟩ := L.synAt HSr.out.env
      obtain ⟨te', pe', d3⟩ := L.bndAt HSr.out.env
      have hKs : K ≤ 1000000 := by have := HM.out; omega
      clear hnd hlt hm1 hall
      have tail : ∀ (T : ByteArray), T = s.extract i m → T.size = K ∧ (∀ j, j < K → T.get! j = s.get! (i + j)) ∧ allDig T ∧ digVal s i K = digVal T 0 T.size := fun T hT => by
        subst hT
        exact ⟨HT1.out, HT2.out, HT3.out, by rw [HT1.out]; exact HT4.out⟩
      have TAIL : Hid (∀ (T : ByteArray), T = s.extract i m → T.size = K ∧ (∀ j, j < K → T.get! j = s.get! (i + j)) ∧ allDig T ∧ digVal s i K = digVal T 0 T.size) := tail
      clear tail HT1 HT2 HT3 HT4
      rcases hcase with h1 | ⟨h1, h2 | ⟨h2, h3⟩⟩
      · have e1 : decide ((m : Int) < (s.size : Int)) = false := by simp; omega
        go_wp2
        go_quiet (fail)
        go_wp2
        go_quiet (fail)
        obtain ⟨T, hT⟩ : ∃ T, T = s.extract i m := ⟨_, rfl⟩
        rw [← hT]
        obtain ⟨t1, t2, t3, t4⟩ := TAIL.out T hT
        have HX : Hid (T = s.extract i m) := hT
        clear hT
        have HT3 : Hid (allDig T) := t3
        have HT4 : Hid (digVal s i K = digVal T 0 T.size) := t4
        have HG : Hid (∀ k, w.grownBy (wr.drewN k) (some R)) := fun k => ⟨hgr.os, hgr.tape, hgr.output, hgr.size, hgr.block⟩
        have hE : Env W0 wr := HSr.out.env
        clear t3 t4
        by_cases hK0 : K = 0
        · have b1 : T = (⟨#[]⟩ : ByteArray) := by
            have : T.data.size = 0 := by have : T.data.size = T.size := rfl; omega
            cases T; simp at this ⊢; exact this
          clear t2 t1
          subst b1
          go_wp2_with fail
          refine (throw_any _ _ _ _).mono ?_
          rintro e w' ⟨⟨f, rfl⟩, hg2⟩
          refine ⟨rfl, Got.bad ?_ (Lib.grownBy_trans (HG.out _) (hg2 _)) ⟨f, rfl⟩⟩
          rw [HC.out, if_pos (Or.inl hK0)]
        · have b0 : ¬ T.toList = [] := by
            rw [Lib.toList_data]
            intro h
            have h2 := congrArg List.length h
            have h3 : T.data.toList.length = T.size := by simp
            simp at h2
            exact hK0 (by rw [← t1, ← h3, h2]; rfl)
          have b1 : T.toList.isEmpty = false := by
            cases h : T.toList with
            | nil => exact absurd h b0
            | cons _ _ => rfl
          have hT0 : T[0]'(by omega) = s.get! i := by
            have := t2 0 (by omega)
            rw [get_elem T 0 (by omega)] at this
            simpa using this
          by_cases hz : 1 < K ∧ (s.get! i).toNat = 48
          · have b2 : (((T[0]'(by omega)).toNat : Int) == 48) = true := by rw [beq_iff_eq, hT0]; omega
            have b3 : (1 : Int) < (T.size : Int) := by omega
            clear t2 hT0
            go_wp2_with fail
            refine (throw_any _ _ _ _).mono ?_
            rintro e w' ⟨⟨f, rfl⟩, hg2⟩
            refine ⟨rfl, Got.bad ?_ (Lib.grownBy_trans (HG.out _) (hg2 _)) ⟨f, rfl⟩⟩
            rw [HC.out, if_pos (Or.inr (Or.inl hz))]
          · have b4 : ¬ (1 : Int) < (T.size : Int) ∨ ((1 : Int) < (T.size : Int) ∧ (((T[0]'(by omega)).toNat : Int) == 48) = false) := by
              by_cases h5 : 1 < K
              · refine Or.inr ⟨by omega, ?_⟩
                rw [beq_eq_false_iff_ne, hT0]
                intro h6
                exact hz ⟨h5, by omega⟩
              · exact Or.inl (by omega)
            clear t2 hT0
            rcases b4 with b5 | ⟨b5, b6⟩
            all_goals
              go_wp2_with fail
              refine (L.ato T _ (hE.drewN _) (by omega) (by omega) HT3.out).mono ?_
              rintro e w5 ⟨⟨n, ev, rfl, hn⟩, hb5⟩
              have hg5 := Lib.grownBy_trans (HG.out _) (grownBy_of_below hb5 (some R))
              have hE5 : Env W0 w5 := hE.grown (R := R) (grownBy_undrew (grownBy_of_below hb5 _)) HS.out.r16
              obtain ⟨te5, pe5, d5⟩ := L.bndAt hE5
              have hR5 : RdAt w5 R s m o M := HSr.out.at_.kept (grownBy_undrew (grownBy_of_below hb5 none))
              have HR5 : Hid (St W0 w5 R s m o M) := HS.out.step hg5 hle hR5
              clear hR5 hb5 hE5
              rcases hn with ⟨rfl, hn⟩ | ⟨t7, p7, rfl, hbig⟩
              · rw [← HT4.out] at hn
                by_cases h50 : 50 < n
                · go_wp2_with fail
                  refine (throw_any _ _ _ _).mono ?_
                  rintro e w' ⟨⟨f, rfl⟩, hg2⟩
                  refine ⟨rfl, Got.bad ?_ (Lib.grownBy_trans hg5 (hg2 _)) ⟨f, rfl⟩⟩
                  rw [HC.out, if_pos (Or.inr (Or.inr (by rw [← hn]; exact h50)))]
                · have HN : Hid (n = digVal s i K) := hn
                  clear hn
                  go_wp2
                  go_ret
                  refine Got.ok (x := (n, m)) ?_ hg5 rfl HR5.out
                  rw [HC.out, ← HN.out, if_neg (fun hh => by rcases hh with hh | hh | hh <;> first | exact hK0 hh | exact hz hh | omega)]
              · rw [← HT4.out] at hbig
                have HB : Hid (50 < digVal s i K) := hbig
                clear hbig
                go_wp2_with fail
                refine (throw_any _ _ _ _).mono ?_
                rintro e w' ⟨⟨f, rfl⟩, hg2⟩
                refine ⟨rfl, Got.bad ?_ (Lib.grownBy_trans hg5 (hg2 _)) ⟨f, rfl⟩⟩
                rw [HC.out, if_pos (Or.inr (Or.inr HB.out))]
      · have e1 : decide ((m : Int) < (s.size : Int)) = true := by simp; omega
        have q2' : decide ((48 : Int) ≤ (s[m].toNat : Int)) = false := by simp; omega
        go_wp2
        go_quiet (fail)
        go_wp2
        go_quiet (fail)
        obtain ⟨T, hT⟩ : ∃ T, T = s.extract i m := ⟨_, rfl⟩
        rw [← hT]
        obtain ⟨t1, t2, t3, t4⟩ := TAIL.out T hT
        have HX : Hid (T = s.extract i m) := hT
        clear hT
        have HT3 : Hid (allDig T) := t3
        have HT4 : Hid (digVal s i K = digVal T 0 T.size) := t4
        have HG : Hid (∀ k, w.grownBy (wr.drewN k) (some R)) := fun k => ⟨hgr.os, hgr.tape, hgr.output, hgr.size, hgr.block⟩
        have hE : Env W0 wr := HSr.out.env
        clear t3 t4
        by_cases hK0 : K = 0
        · have b1 : T = (⟨#[]⟩ : ByteArray) := by
            have : T.data.size = 0 := by have : T.data.size = T.size := rfl; omega
            cases T; simp at this ⊢; exact this
          clear t2 t1
          subst b1
          go_wp2_with fail
          refine (throw_any _ _ _ _).mono ?_
          rintro e w' ⟨⟨f, rfl⟩, hg2⟩
          refine ⟨rfl, Got.bad ?_ (Lib.grownBy_trans (HG.out _) (hg2 _)) ⟨f, rfl⟩⟩
          rw [HC.out, if_pos (Or.inl hK0)]
        · have b0 : ¬ T.toList = [] := by
            rw [Lib.toList_data]
            intro h
            have h2 := congrArg List.length h
            have h3 : T.data.toList.length = T.size := by simp
            simp at h2
            exact hK0 (by rw [← t1, ← h3, h2]; rfl)
          have b1 : T.toList.isEmpty = false := by
            cases h : T.toList with
            | nil => exact absurd h b0
            | cons _ _ => rfl
          have hT0 : T[0]'(by omega) = s.get! i := by
            have := t2 0 (by omega)
            rw [get_elem T 0 (by omega)] at this
            simpa using this
          by_cases hz : 1 < K ∧ (s.get! i).toNat = 48
          · have b2 : (((T[0]'(by omega)).toNat : Int) == 48) = true := by rw [beq_iff_eq, hT0]; omega
            have b3 : (1 : Int) < (T.size : Int) := by omega
            clear t2 hT0
            go_wp2_with fail
            refine (throw_any _ _ _ _).mono ?_
            rintro e w' ⟨⟨f, rfl⟩, hg2⟩
            refine ⟨rfl, Got.bad ?_ (Lib.grownBy_trans (HG.out _) (hg2 _)) ⟨f, rfl⟩⟩
            rw [HC.out, if_pos (Or.inr (Or.inl hz))]
          · have b4 : ¬ (1 : Int) < (T.size : Int) ∨ ((1 : Int) < (T.size : Int) ∧ (((T[0]'(by omega)).toNat : Int) == 48) = false) := by
              by_cases h5 : 1 < K
              · refine Or.inr ⟨by omega, ?_⟩
                rw [beq_eq_false_iff_ne, hT0]
                intro h6
                exact hz ⟨h5, by omega⟩
              · exact Or.inl (by omega)
            clear t2 hT0
            rcases b4 with b5 | ⟨b5, b6⟩
            all_goals
              go_wp2_with fail
              refine (L.ato T _ (hE.drewN _) (by omega) (by omega) HT3.out).mono ?_
              rintro e w5 ⟨⟨n, ev, rfl, hn⟩, hb5⟩
              have hg5 := Lib.grownBy_trans (HG.out _) (grownBy_of_below hb5 (some R))
              have hE5 : Env W0 w5 := hE.grown (R := R) (grownBy_undrew (grownBy_of_below hb5 _)) HS.out.r16
              obtain ⟨te5, pe5, d5⟩ := L.bndAt hE5
              have hR5 : RdAt w5 R s m o M := HSr.out.at_.kept (grownBy_undrew (grownBy_of_below hb5 none))
              have HR5 : Hid (St W0 w5 R s m o M) := HS.out.step hg5 hle hR5
              clear hR5 hb5 hE5
              rcases hn with ⟨rfl, hn⟩ | ⟨t7, p7, rfl, hbig⟩
              · rw [← HT4.out] at hn
                by_cases h50 : 50 < n
                · go_wp2_with fail
                  refine (throw_any _ _ _ _).mono ?_
                  rintro e w' ⟨⟨f, rfl⟩, hg2⟩
                  refine ⟨rfl, Got.bad ?_ (Lib.grownBy_trans hg5 (hg2 _)) ⟨f, rfl⟩⟩
                  rw [HC.out, if_pos (Or.inr (Or.inr (by rw [← hn]; exact h50)))]
                · have HN : Hid (n = digVal s i K) := hn
                  clear hn
                  go_wp2
                  go_ret
                  refine Got.ok (x := (n, m)) ?_ hg5 rfl HR5.out
                  rw [HC.out, ← HN.out, if_neg (fun hh => by rcases hh with hh | hh | hh <;> first | exact hK0 hh | exact hz hh | omega)]
              · rw [← HT4.out] at hbig
                have HB : Hid (50 < digVal s i K) := hbig
                clear hbig
                go_wp2_with fail
                refine (throw_any _ _ _ _).mono ?_
                rintro e w' ⟨⟨f, rfl⟩, hg2⟩
                refine ⟨rfl, Got.bad ?_ (Lib.grownBy_trans hg5 (hg2 _)) ⟨f, rfl⟩⟩
                rw [HC.out, if_pos (Or.inr (Or.inr HB.out))]
      · have e1 : decide ((m : Int) < (s.size : Int)) = true := by simp; omega
        have q2' : decide ((48 : Int) ≤ (s[m].toNat : Int)) = true := by simp; omega
        have q3' : decide ((s[m].toNat : Int) ≤ (57 : Int)) = false := by simp; omega
        go_wp2
        go_quiet (fail)
        go_wp2
        go_quiet (fail)
        obtain ⟨T, hT⟩ : ∃ T, T = s.extract i m := ⟨_, rfl⟩
        rw [← hT]
        obtain ⟨t1, t2, t3, t4⟩ := TAIL.out T hT
        have HX : Hid (T = s.extract i m) := hT
        clear hT
        have HT3 : Hid (allDig T) := t3
        have HT4 : Hid (digVal s i K = digVal T 0 T.size) := t4
        have HG : Hid (∀ k, w.grownBy (wr.drewN k) (some R)) := fun k => ⟨hgr.os, hgr.tape, hgr.output, hgr.size, hgr.block⟩
        have hE : Env W0 wr := HSr.out.env
        clear t3 t4
        by_cases hK0 : K = 0
        · have b1 : T = (⟨#[]⟩ : ByteArray) := by
            have : T.data.size = 0 := by have : T.data.size = T.size := rfl; omega
            cases T; simp at this ⊢; exact this
          clear t2 t1
          subst b1
          go_wp2_with fail
          refine (throw_any _ _ _ _).mono ?_
          rintro e w' ⟨⟨f, rfl⟩, hg2⟩
          refine ⟨rfl, Got.bad ?_ (Lib.grownBy_trans (HG.out _) (hg2 _)) ⟨f, rfl⟩⟩
          rw [HC.out, if_pos (Or.inl hK0)]
        · have b0 : ¬ T.toList = [] := by
            rw [Lib.toList_data]
            intro h
            have h2 := congrArg List.length h
            have h3 : T.data.toList.length = T.size := by simp
            simp at h2
            exact hK0 (by rw [← t1, ← h3, h2]; rfl)
          have b1 : T.toList.isEmpty = false := by
            cases h : T.toList with
            | nil => exact absurd h b0
            | cons _ _ => rfl
          have hT0 : T[0]'(by omega) = s.get! i := by
            have := t2 0 (by omega)
            rw [get_elem T 0 (by omega)] at this
            simpa using this
          by_cases hz : 1 < K ∧ (s.get! i).toNat = 48
          · have b2 : (((T[0]'(by omega)).toNat : Int) == 48) = true := by rw [beq_iff_eq, hT0]; omega
            have b3 : (1 : Int) < (T.size : Int) := by omega
            clear t2 hT0
            go_wp2_with fail
            refine (throw_any _ _ _ _).mono ?_
            rintro e w' ⟨⟨f, rfl⟩, hg2⟩
            refine ⟨rfl, Got.bad ?_ (Lib.grownBy_trans (HG.out _) (hg2 _)) ⟨f, rfl⟩⟩
            rw [HC.out, if_pos (Or.inr (Or.inl hz))]
          · have b4 : ¬ (1 : Int) < (T.size : Int) ∨ ((1 : Int) < (T.size : Int) ∧ (((T[0]'(by omega)).toNat : Int) == 48) = false) := by
              by_cases h5 : 1 < K
              · refine Or.inr ⟨by omega, ?_⟩
                rw [beq_eq_false_iff_ne, hT0]
                intro h6
                exact hz ⟨h5, by omega⟩
              · exact Or.inl (by omega)
            clear t2 hT0
            rcases b4 with b5 | ⟨b5, b6⟩
            all_goals
              go_wp2_with fail
              refine (L.ato T _ (hE.drewN _) (by omega) (by omega) HT3.out).mono ?_
              rintro e w5 ⟨⟨n, ev, rfl, hn⟩, hb5⟩
              have hg5 := Lib.grownBy_trans (HG.out _) (grownBy_of_below hb5 (some R))
              have hE5 : Env W0 w5 := hE.grown (R := R) (grownBy_undrew (grownBy_of_below hb5 _)) HS.out.r16
              obtain ⟨te5, pe5, d5⟩ := L.bndAt hE5
              have hR5 : RdAt w5 R s m o M := HSr.out.at_.kept (grownBy_undrew (grownBy_of_below hb5 none))
              have HR5 : Hid (St W0 w5 R s m o M) := HS.out.step hg5 hle hR5
              clear hR5 hb5 hE5
              rcases hn with ⟨rfl, hn⟩ | ⟨t7, p7, rfl, hbig⟩
              · rw [← HT4.out] at hn
                by_cases h50 : 50 < n
                · go_wp2_with fail
                  refine (throw_any _ _ _ _).mono ?_
                  rintro e w' ⟨⟨f, rfl⟩, hg2⟩
                  refine ⟨rfl, Got.bad ?_ (Lib.grownBy_trans hg5 (hg2 _)) ⟨f, rfl⟩⟩
                  rw [HC.out, if_pos (Or.inr (Or.inr (by rw [← hn]; exact h50)))]
                · have HN : Hid (n = digVal s i K) := hn
                  clear hn
                  go_wp2
                  go_ret
                  refine Got.ok (x := (n, m)) ?_ hg5 rfl HR5.out
                  rw [HC.out, ← HN.out, if_neg (fun hh => by rcases hh with hh | hh | hh <;> first | exact hK0 hh | exact hz hh | omega)]
              · rw [← HT4.out] at hbig
                have HB : Hid (50 < digVal s i K) := hbig
                clear hbig
                go_wp2_with fail
                refine (throw_any _ _ _ _).mono ?_
                rintro e w' ⟨⟨f, rfl⟩, hg2⟩
                refine ⟨rfl, Got.bad ?_ (Lib.grownBy_trans hg5 (hg2 _)) ⟨f, rfl⟩⟩
                rw [HC.out, if_pos (Or.inr (Or.inr HB.out))]

end Go.Proofs.YtbjohedenfindaaGreatDoor
