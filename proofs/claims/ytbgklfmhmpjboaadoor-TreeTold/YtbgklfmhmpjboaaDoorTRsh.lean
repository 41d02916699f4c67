/- The document: a tree as a text. -/
import Derived.Test.YtbgklfmhmpjboaaDoorTNum
namespace Go.Proofs.YtbgklfmhmpjboaaDoor
open Go.RowKit
set_option linter.unusedVariables false
set_option maxRecDepth 100000

def ShC (w : World) (u : Value) (t : Tr) : Prop := ∀ w', Below w.heap.size w w' → Calls Tryd.prog 11 #[u] w' fun e w'' => e = .returned (.string ⟨(shT t).toArray⟩) ∧ Below w'.heap.size w' w''

set_option maxHeartbeats 2000000 in
theorem rshow_nil (w : World) : Calls Tryd.prog 11 #[.pointer none] w fun e w' => e = .returned (.string ⟨#[40, 41]⟩) ∧ Below w.heap.size w w' := by
  go_enter Tryd.func11, Tryd.ntmps11
  go_wp2
  go_ret
  exact ⟨rfl, Below.refl _ _⟩

set_option maxHeartbeats 2000000 in
theorem rshow_leaf (p k : Int) (hp : p < 0) (hk : -9223372036854775808 ≤ k ∧ k ≤ 9223372036854775807) (b : Nat) (kv : Value) (w : World) (hb : w.heap[b]? = some (.cells #[.int .i64 p, .int .i64 k, kv] 40 (0, 0))) :
    Calls Tryd.prog 11 #[.pointer (some ⟨b, 0, none⟩)] w fun e w' => e = .returned (.string ⟨(Lib.itoa k).toArray⟩) ∧ Below w.heap.size w w' := by
  have HC : Hid (∀ w', Calls Tryd.prog 17 #[.int .i64 k] w' fun e w'' => e = .returned (.string ⟨(Lib.itoa k).toArray⟩) ∧ Below w'.heap.size w' w'') := fun w' => number_any k hk.1 hk.2 w'
  generalize (⟨(Lib.itoa k).toArray⟩ : ByteArray) = A at *
  have hlt := (Array.getElem?_eq_some_iff.1 hb).1
  have c0 : w.cell? ⟨b, 0, none⟩ = some (.int .i64 p) := by simp [World.cell?, hb]
  have c1 : w.cell? ⟨b, 1, none⟩ = some (.int .i64 k) := by simp [World.cell?, hb]
  clear hb hk
  have d0 : decide (p < 0) = true := decide_eq_true hp
  go_enter Tryd.func11, Tryd.ntmps11
  go_wp2_with fail
  go_at_call 17
  refine (HC.out _).mono ?_
  rintro e w1 ⟨rfl, hb1⟩
  go_wp2
  go_ret
  exact ⟨rfl, hb1⟩

set_option maxHeartbeats 4000000 in
theorem rshow_node (p k : Int) (hp : 0 ≤ p) (hp2 : p ≤ 9223372036854775807) (ks : List Tr) (b : Nat) (ka : Option Addr) (kc : Nat) (w : World) (hb : w.heap[b]? = some (.cells #[.int .i64 p, .int .i64 k, .slice ka ks.length kc] 40 (0, 0))) (hn : ks.length ≤ 1000000) (hl : (40 :: (Lib.itoa p ++ (shK ks ++ [41]))).length ≤ 1000000)
    (hK : ∀ j, j < ks.length → ∃ kb off u, ka = some ⟨kb, off, none⟩ ∧ kb < w.heap.size ∧ w.cell? ⟨kb, off + j, none⟩ = some u ∧ ShC w u (ks.getD j nilT)) :
    Calls Tryd.prog 11 #[.pointer (some ⟨b, 0, none⟩)] w fun e w' => e = .returned (.string ⟨(40 :: (Lib.itoa p ++ (shK ks ++ [41]))).toArray⟩) ∧ Below w.heap.size w w' := by
  have HC : Hid (∀ w', Calls Tryd.prog 17 #[.int .i64 p] w' fun e w'' => e = .returned (.string ⟨(Lib.itoa p).toArray⟩) ∧ Below w'.heap.size w' w'') := fun w' => number_any p (by omega) hp2 w'
  have hlt := (Array.getElem?_eq_some_iff.1 hb).1
  have HCl : Hid (∀ w', Below w.heap.size w w' → w'.cell? ⟨b, 0, none⟩ = some (.int .i64 p) ∧ w'.cell? ⟨b, 2, none⟩ = some (.slice ka ks.length kc)) := fun w' h => by
    have hbb := (h.block b hlt).trans hb
    exact ⟨by simp [World.cell?, hbb], by simp [World.cell?, hbb]⟩
  clear hb
  obtain ⟨c0, c2⟩ := HCl.out w (Below.refl _ _)
  have HL : Hid (∀ j, j ≤ ks.length → (40 :: (Lib.itoa p ++ shK (ks.take j))).length ≤ 1000000) := fun j hj => by
    have e := shK_append (ks.take j) (ks.drop j)
    rw [List.take_append_drop] at e
    rw [e] at hl
    simp at hl ⊢
    omega
  have HF : Hid ((⟨(40 :: (Lib.itoa p ++ shK ks)).toArray⟩ : ByteArray) ++ ⟨#[41]⟩ = ⟨(40 :: (Lib.itoa p ++ (shK ks ++ [41]))).toArray⟩) := by
    show _ = _
    rw [show (⟨#[41]⟩ : ByteArray) = ⟨[41].toArray⟩ from rfl, ByteArray.mk_append_mk]
    simp
  have HS0 : Hid ((⟨#[40]⟩ : ByteArray) ++ ⟨(Lib.itoa p).toArray⟩ = ⟨(40 :: (Lib.itoa p ++ shK (ks.take 0))).toArray⟩) := by
    show _ = _
    rw [show (⟨#[40]⟩ : ByteArray) = ⟨[40].toArray⟩ from rfl, ByteArray.mk_append_mk]
    simp [shK]
  have HST : Hid (∀ j, j < ks.length → (⟨(40 :: (Lib.itoa p ++ shK (ks.take j))).toArray⟩ : ByteArray) ++ ⟨#[32]⟩ ++ ⟨(shT (ks.getD j nilT)).toArray⟩ = ⟨(40 :: (Lib.itoa p ++ shK (ks.take (j + 1)))).toArray⟩) := fun j hj => by
    have e : shK (ks.take (j + 1)) = shK (ks.take j) ++ (32 :: shT (ks.getD j nilT)) := by
      rw [List.take_succ_eq_append_getElem hj, shK_append, shK_one]
      simp [hj]
    rw [e, show (⟨#[32]⟩ : ByteArray) = ⟨[32].toArray⟩ from rfl, ByteArray.mk_append_mk, ByteArray.mk_append_mk]
    simp
  have HLK : Hid (∀ j, j < ks.length → (shT (ks.getD j nilT)).length ≤ 1000000) := fun j hj => by
    have e : shK (ks.take (j + 1)) = shK (ks.take j) ++ (32 :: shT (ks.getD j nilT)) := by
      rw [List.take_succ_eq_append_getElem hj, shK_append, shK_one]
      simp [hj]
    have h1 := HL.out (j + 1) (by omega)
    rw [e] at h1
    simp at h1 ⊢
    omega
  have hl1 : (⟨(Lib.itoa p).toArray⟩ : ByteArray).size ≤ 21 := by
    have := Lib.itoa_length_le p (by omega) hp2
    simpa [ByteArray.size] using this
  have hl2 : (⟨#[40]⟩ : ByteArray).size ≤ 1 := Nat.le_refl 1
  have hl3 : (⟨#[32]⟩ : ByteArray).size ≤ 1 := Nat.le_refl 1
  have hl4 : (⟨#[41]⟩ : ByteArray).size ≤ 1 := Nat.le_refl 1
  clear hl
  have HK : Hid (∀ j, j < ks.length → ∃ kb off u, ka = some ⟨kb, off, none⟩ ∧ kb < w.heap.size ∧ w.cell? ⟨kb, off + j, none⟩ = some u ∧ ShC w u (ks.getD j nilT)) := hK
  clear hK
  generalize hR : (⟨(40 :: (Lib.itoa p ++ (shK ks ++ [41]))).toArray⟩ : ByteArray) = R at *
  clear hR
  generalize (⟨(Lib.itoa p).toArray⟩ : ByteArray) = A at *
  have d0 : decide (p < 0) = false := decide_eq_false (by omega)
  go_enter Tryd.func11, Tryd.ntmps11
  go_wp2_with fail
  go_at_call 17
  refine (HC.out _).mono ?_
  rintro e w1 ⟨rfl, hb1⟩
  obtain ⟨x0, x2⟩ := HCl.out w1 hb1
  clear c0 c2
  go_wp2
  go_loopw [3, 4] (fun sv iv wr => ∃ (j : Nat), j ≤ ks.length ∧ iv = .int .i64 j ∧ Hid (sv = .string ⟨(40 :: (Lib.itoa p ++ shK (ks.take j))).toArray⟩) ∧ Below w.heap.size w wr) (fun _ iv _ => ks.length - (intOf iv).toNat)
  case atStart => exact ⟨0, Nat.zero_le _, rfl, (by show _ = _; rw [← HS0.out]), hb1⟩
  case round =>
    obtain ⟨j, hj, rfl, HSV, hbw⟩ := hrel
    have hsv := HSV.out
    subst hsv
    clear HSV
    obtain ⟨y0, y2⟩ := HCl.out wr hbw
    have hAl : (⟨(40 :: (Lib.itoa p ++ shK (ks.take j))).toArray⟩ : ByteArray).size ≤ 1000000 := by
      have := HL.out j hj
      simpa [ByteArray.size] using this
    by_cases hjn : j < ks.length
    · obtain ⟨kb, off, u, rfl, hkb, hu, hSh⟩ := HK.out j hjn
      have x1 := (hbw.cell (p := ⟨kb, off + j, none⟩) hkb).trans hu
      have hkb2 : kb < wr.heap.size := by have := hbw.size; omega
      have hbl2 : b < wr.heap.size := by have := hbw.size; omega
      have hst := HST.out j hjn
      have hkl : (⟨(shT (ks.getD j nilT)).toArray⟩ : ByteArray).size ≤ 1000000 := by
        have := HLK.out j hjn
        simpa [ByteArray.size] using this
      have HSh : Hid (∀ w', Below w.heap.size w w' → Calls Tryd.prog 11 #[u] w' fun e w'' => e = .returned (.string ⟨(shT (ks.getD j nilT)).toArray⟩) ∧ Below w'.heap.size w' w'') := hSh
      have HSt : Hid (_ = _) := hst
      clear hSh hu hst HK HST HLK
      generalize (⟨(40 :: (Lib.itoa p ++ shK (ks.take j))).toArray⟩ : ByteArray) = S at *
      generalize (⟨(shT (ks.getD j nilT)).toArray⟩ : ByteArray) = K at *
      have hSl : (S ++ ⟨#[32]⟩).size ≤ 1000001 := by rw [ByteArray.size_append]; omega
      go_wp2_with fail
      go_at_call 11
      refine (HSh.out _ hbw).mono ?_
      rintro e w4 ⟨rfl, hb4⟩
      have hb5 := hbw.trans (hb4.mono hbw.size)
      clear y0 y2 x1 hb4
      go_wp2
      go_roundw
      case rel => exact ⟨j + 1, by omega, by go_num, (by show _ = _; rw [HSt.out]), hb5⟩
      case measure => simp [intOf]; omega
    · obtain rfl : j = ks.length := by omega
      rw [List.take_of_length_le (Nat.le_refl _)] at hAl ⊢
      have HF2 := HF
      generalize (⟨(40 :: (Lib.itoa p ++ shK ks)).toArray⟩ : ByteArray) = S at *
      clear HK HST HLK HL HS0
      go_wp2
      go_ret
      exact ⟨by rw [← HF2.out]; rfl, hbw⟩

theorem shK_lenle (ks : List Tr) : ks.length ≤ (shK ks).length := by
  induction ks with
  | nil => simp
  | cons t ks ih =>
    have e := shK_append [t] ks
    rw [shK_one] at e
    rw [show t :: ks = [t] ++ ks from rfl, e]
    simp
    omega
theorem shK_mem (ks : List Tr) (t : Tr) (h : t ∈ ks) : (shT t).length ≤ (shK ks).length := by
  induction ks with
  | nil => simp at h
  | cons x ks ih =>
    have e := shK_append [x] ks
    rw [shK_one] at e
    rw [show x :: ks = [x] ++ ks from rfl, e]
    rcases List.mem_cons.1 h with rfl | h
    · simp; omega
    · have := ih h; simp; omega
theorem rshow_all {ok : Nat → Prop} : ∀ (n : Nat) (w : World) (v : Value) (t : Tr), IsTr ok n w v t → okT t = true → (shT t).length ≤ 1000000 → ShC w v t
  | 0, w, v, t, h, _, _ => h.elim
  | n + 1, w, v, t, h, hok, hl => by
    intro w' hb
    rcases h with ⟨rfl, rfl⟩ | ⟨his, b, kv, rfl, _, hblk, hkids⟩
    · refine (rshow_nil w').mono ?_
      rintro e w'' ⟨rfl, hb2⟩
      exact ⟨by rw [shT_eq]; rfl, hb2⟩
    · have hblk' := (hb.block b (Array.getElem?_eq_some_iff.1 hblk).1).trans hblk
      obtain ⟨o1, o2, o3⟩ := (okT_eq t).1 hok
      obtain ⟨ka, kc, rfl⟩ := hkids.slice
      rw [shT_eq, his] at hl ⊢
      simp only [Bool.true_eq_false, if_false] at hl ⊢
      by_cases hp : t.prod < 0
      · rw [if_pos hp]
        exact rshow_leaf t.prod t.tok hp o2 b _ w' hblk'
      · rw [if_neg hp] at hl ⊢
        have h1 := shK_lenle t.kids
        have hl2 : (shK t.kids).length ≤ 1000000 := by simp at hl; omega
        refine rshow_node t.prod t.tok (by omega) o1.2 t.kids b ka kc w' hblk' (by omega) hl fun j hj => ?_
        obtain ⟨kb, off, u, rfl, hkb, hc, hu⟩ := hkids.at hj
        have hmem : t.kids.getD j nilT ∈ t.kids := by rw [List.getD_eq_getElem?_getD, List.getElem?_eq_getElem hj]; exact List.getElem_mem hj
        exact ⟨kb, off, u, rfl, Nat.lt_of_lt_of_le hkb hb.size, (hb.cell (p := ⟨kb, off + j, none⟩) hkb).trans hc, rshow_all n w' u _ (hu.below hb) (o3 _ hmem) (Nat.le_trans (shK_mem _ _ hmem) hl2)⟩

end Go.Proofs.YtbgklfmhmpjboaaDoor
