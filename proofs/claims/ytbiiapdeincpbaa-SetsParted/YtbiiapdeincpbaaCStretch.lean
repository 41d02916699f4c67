import Derived.Test.YtbiiapdeincpbaaPStretch
import Derived.Test.YtbiiapdeincpbaaCPart
namespace Go.Proofs.Ytbiiapdeincpbaa
open Go.RowKit
set_option linter.unusedVariables false
set_option maxRecDepth 100000

def Keeps (B : Nat) (W W' : World) : Prop := ∀ (k : Nat) (cur : Array Value), B ≤ k → W.heap[k]? = some (.cells cur 83 (0, 0)) → W'.heap[k]? = some (.cells cur 83 (0, 0))

theorem EdgesAt.keeps {w w' : World} {B : Nat} {v : Value} {E : List Eg} (h : EdgesAt w B v E) (hk : Keeps B w w') : EdgesAt w' B v E :=
  h.keep (fun k cur hB hc => by rw [hk k cur hB hc, hc])
theorem EdgesAt.alloc {w : World} {B : Nat} {v : Value} {E : List Eg} (h : EdgesAt w B v E) (o : Obj) : EdgesAt (w.alloc o) B v E :=
  h.keep (fun k cur hB hc => Below.heap_alloc _ _ _ (Array.getElem?_eq_some_iff.1 hc).1)

set_option maxHeartbeats 400000 in
theorem edgesOf_none (a : Option Addr) (c : Nat) (w : World) :
    Calls Try.prog 57 #[.slice a 0 c] w fun e w' => ∃ v' E, e = .returned v' ∧ E.Perm (gen 0 []) ∧ Asc E ∧ EdgesAt w' w.heap.size v' E ∧ Below w.heap.size w w' := by
  go_enter Try.func57, Try.ntmps57
  go_wp2
  refine wp_loop_rounds 1 ?_
  rw [rounds_succ]
  go_wp2_with fail
  refine (sort_own w.heap.size (.slice none 0 0) [] w (World.ownsRow_nil _ _ _ _) (by simp)).mono ?_
  rintro e w1 ⟨rfl, E', hp, ha, he, hg⟩
  go_wp2
  go_ret
  exact ⟨_, E', rfl, hp, ha, he, (Below.refl _ _).grown hg (Nat.le_refl _) (fun k hk => by cases hk)⟩

theorem edgesOf_all (vs : Value) (ls : List (List Rg)) (w : World) (hl : ls.length ≤ 1000) (hll : ∀ l ∈ ls, l.length ≤ 1000) (hs : SetsAt w vs ls) :
    Calls Try.prog 57 #[vs] w fun e w' => ∃ v' E, e = .returned v' ∧ E.Perm (gen 0 ls) ∧ Asc E ∧ EdgesAt w' w.heap.size v' E ∧ Below w.heap.size w w' := by
  rcases hs with ⟨rfl, a, c, rfl⟩ | ⟨b, off, c, rfl, hb, hc⟩
  · exact edgesOf_none a c w
  · exact edgesOf_row b off c ls w hl hll hb hc

set_option maxHeartbeats 2000000 in
theorem stretch_gen (M C P Q : Nat) (vs : Value) (ls : List (List Rg)) (W0 : World) (I : List Eg → World → List Eg → Int → Prop) (hl : ls.length ≤ 1000) (hll : ∀ l ∈ ls, l.length ≤ 1000) (hs : SetsAt W0 vs ls) (hEl : (gen 0 ls).length ≤ 100000)
    (hstart : ∀ E w1, E.Perm (gen 0 ls) → Asc E → Below W0.heap.size W0 w1 → I E w1 [] 0)
    (hal : ∀ E W A fr o, I E W A fr → I E (W.alloc o) A fr)
    (hsize : ∀ E W A fr, I E W A fr → W0.heap.size ≤ W.heap.size)
    (hturn : ∀ E W A B e fr, E.Perm (gen 0 ls) → E = A ++ e :: B → e.1 ≤ fr → I E W A fr → Calls Try.prog 45 #[.pointer (some ⟨M, 0, none⟩), .int .i64 e.2.1, .int .i64 e.2.2] W fun r W' => r = .returned (.tuple #[]) ∧ I E W' (A ++ [e]) fr ∧ Keeps W0.heap.size W W')
    (htake : ∀ E W A B lo hi, E.Perm (gen 0 ls) → E = A ++ B → (∀ e ∈ A, e.1 ≤ lo) → (∀ e ∈ B, hi < e.1) → 0 ≤ lo → lo ≤ hi → hi ≤ 1114111 → I E W A lo → Calls Try.prog 46 #[.agg #[.int .i64 lo, .int .i64 hi], .pointer (some ⟨Q, 0, none⟩), .pointer (some ⟨P, 0, none⟩), .pointer (some ⟨C, 0, none⟩)] W fun r W' => r = .returned (.tuple #[]) ∧ I E W' A (hi + 1) ∧ Keeps W0.heap.size W W') :
    Calls Try.prog 44 #[vs, .func (.func 45) #[.pointer (some ⟨M, 0, none⟩)] #[], .func (.func 46) #[] #[.pointer (some ⟨Q, 0, none⟩), .pointer (some ⟨P, 0, none⟩), .pointer (some ⟨C, 0, none⟩)]] W0 fun e w' => e = .returned (.tuple #[]) ∧ ∃ E, E.Perm (gen 0 ls) ∧ I E w' E 1114112 := by
  have eg1 : ∀ args w, (callFunc 45 args).run Try.prog w = .ok (.enter 45 args) w := enters_of Try.func45 (by kernel_rfl) rfl
  have eg2 : ∀ args w, (callFunc 46 args).run Try.prog w = .ok (.enter 46 args) w := enters_of Try.func46 (by kernel_rfl) rfl
  have HTU : Hid (∀ E W A B e fr, E.Perm (gen 0 ls) → E = A ++ e :: B → e.1 ≤ fr → I E W A fr → Calls Try.prog 45 #[.pointer (some ⟨M, 0, none⟩), .int .i64 e.2.1, .int .i64 e.2.2] W fun r W' => r = .returned (.tuple #[]) ∧ I E W' (A ++ [e]) fr ∧ Keeps W0.heap.size W W') := hturn
  have HTA : Hid (∀ E W A B lo hi, E.Perm (gen 0 ls) → E = A ++ B → (∀ e ∈ A, e.1 ≤ lo) → (∀ e ∈ B, hi < e.1) → 0 ≤ lo → lo ≤ hi → hi ≤ 1114111 → I E W A lo → Calls Try.prog 46 #[.agg #[.int .i64 lo, .int .i64 hi], .pointer (some ⟨Q, 0, none⟩), .pointer (some ⟨P, 0, none⟩), .pointer (some ⟨C, 0, none⟩)] W fun r W' => r = .returned (.tuple #[]) ∧ I E W' A (hi + 1) ∧ Keeps W0.heap.size W W') := htake
  have HAL : Hid (∀ E W A fr o, I E W A fr → I E (W.alloc o) A fr) := hal
  have HSI : Hid (∀ E W A fr, I E W A fr → W0.heap.size ≤ W.heap.size) := hsize
  have HST : Hid (∀ E w1, E.Perm (gen 0 ls) → Asc E → Below W0.heap.size W0 w1 → I E w1 [] 0) := hstart
  clear hturn htake hal hsize hstart
  go_enter Try.func44, Try.ntmps44
  go_wp2_with fail
  refine (edgesOf_all vs ls W0 hl hll hs).mono ?_
  rintro e w1 ⟨v1, E, rfl, hperm, hasc, hat, hb1⟩
  have hI1 := HST.out E w1 hperm hasc hb1
  rw [← hperm.length_eq] at hEl
  have hEb : Hid (∀ e ∈ E, 0 ≤ e.1 ∧ e.1 ≤ 1114112 ∧ 0 ≤ e.2.1 ∧ e.2.1 < ls.length ∧ (e.2.2 = 1 ∨ e.2.2 = -1)) := fun e he => by
    have := gen_bd ls 0 e (hperm.mem_iff.1 he)
    simpa using this
  have HP : Hid (E.Perm (gen 0 ls)) := hperm
  have HA : Hid (Asc E) := hasc
  clear hperm hasc hs hb1 hll
  obtain ⟨ea, ec, rfl⟩ := edges_slice hat
  have HA0 : Hid (∀ e ∈ E, (0 : Int) ≤ e.1) := fun e he => (hEb.out e he).1
  go_wp2
  go_loopw [6, 12] (fun fv i wr => ∃ (k : Nat) (fr : Int), k ≤ E.length ∧ i = .int .i64 k ∧ fv = .int .i64 fr ∧ I E wr (E.take k) fr ∧ EdgesAt wr W0.heap.size (.slice ea E.length ec) E ∧ 0 ≤ fr ∧ fr ≤ 1114112 ∧ Hid (∀ e ∈ E.take k, e.1 ≤ fr) ∧ Hid (∀ e ∈ E.drop k, fr ≤ e.1)) (fun _ i _ => E.length - (intOf i).toNat)
  case atStart => exact ⟨0, 0, Nat.zero_le _, rfl, rfl, hI1, hat, by omega, by omega, (fun e he => by simp at he), (fun e he => HA0.out e (by simpa using he))⟩
  case round =>
    obtain ⟨k, fr, hk, rfl, rfl, hI, hE, hlow, hhigh, HB, HC⟩ := hrel
    clear hI1 hat HST HA0
    by_cases hlt : k < E.length
    · obtain ⟨tk, dr, whole⟩ := take_snoc_eg E k hlt
      have hmem : E.getD k (0, 0, 0) ∈ E := by simp [hlt]
      have hbe := hEb.out _ hmem
      obtain ⟨eg, rfl, e0, e1, e2⟩ := edges_cells hE k hlt
      have HT1 : Hid (E.take (k + 1) = E.take k ++ [E.getD k (0, 0, 0)]) := tk
      have HD1 : Hid (E.drop k = E.getD k (0, 0, 0) :: E.drop (k + 1)) := dr
      have HWH : Hid (E = E.take k ++ E.getD k (0, 0, 0) :: E.drop (k + 1)) := whole
      clear tk dr whole
      have HAS : Hid (∀ e ∈ E.drop (k + 1), (E.getD k (0, 0, 0)).1 ≤ e.1) := fun e he => by
        have h1 := HA.out
        unfold Asc at h1
        rw [HWH.out] at h1
        exact (List.pairwise_cons.1 (List.pairwise_append.1 h1).2.1).1 e he
      have hke : fr ≤ (E.getD k (0, 0, 0)).1 := HC.out _ (by rw [HD1.out]; simp)
      generalize hek : E.getD k (0, 0, 0) = ek at *
      clear hek
      obtain ⟨at', st, by'⟩ := ek
      simp only at e0 e1 e2 hbe hke
      obtain ⟨q1, q2, q3, q4, q5⟩ := hbe
      clear q5 hmem
      have hSize := HSI.out _ _ _ _ hI
      have hIa := HAL.out _ _ _ _ (.cells #[.int .i64 at', .int .i64 st, .int .i64 by'] 83) hI
      have hEa := hE.alloc (.cells #[.int .i64 at', .int .i64 st, .int .i64 by'] 83)
      clear hI hE
      by_cases hgt : fr < at'
      · go_wp2_with fail
        refine (HTA.out E _ (E.take k) ((at', st, by') :: E.drop (k + 1)) fr (at' - 1) HP.out HWH.out HB.out ?_ hlow (by omega) (by omega) hIa).mono ?_
        · intro e he
          rcases List.mem_cons.1 he with rfl | he
          · simp only; omega
          · have := HAS.out e he; omega
        rintro e w2 ⟨rfl, hI2, hkeep⟩
        have hwrs : W0.heap.size ≤ wr.heap.size := hSize
        have hblk := hkeep wr.heap.size #[.int .i64 at', .int .i64 st, .int .i64 by'] hwrs (heap_alloc_new wr _)
        have r0 : w2.cell? ⟨wr.heap.size, 0, none⟩ = some (.int .i64 at') := by simp [World.cell?, hblk]
        have r1 : w2.cell? ⟨wr.heap.size, 1, none⟩ = some (.int .i64 st) := by simp [World.cell?, hblk]
        have r2 : w2.cell? ⟨wr.heap.size, 2, none⟩ = some (.int .i64 by') := by simp [World.cell?, hblk]
        have hE2 := hEa.keeps hkeep
        have e9 : at' - 1 + 1 = at' := by omega
        rw [e9] at hI2
        clear hIa hEa e0 e1 e2 hkeep hblk e9
        go_wp2_with fail
        refine (HTU.out E w2 (E.take k) (E.drop (k + 1)) (at', st, by') at' HP.out HWH.out (Int.le_refl _) hI2).mono ?_
        rintro e w3 ⟨rfl, hI3, hkeep3⟩
        have hE3 := hE2.keeps hkeep3
        clear hkeep3 hE2 hI2
        go_wp2
        go_roundw
        case rel =>
          refine ⟨k + 1, at', by omega, by go_num, rfl, by rw [HT1.out]; exact hI3, hE3, by omega, by omega, ?_, ?_⟩
          · intro e he
            rw [HT1.out] at he
            rcases List.mem_append.1 he with he | he
            · have := HB.out e he; omega
            · simp at he; subst he; simp
          · intro e he
            have := HAS.out e he; omega
        case measure => simp [intOf]; omega
      · obtain rfl : fr = at' := by omega
        go_wp2_with fail
        refine (HTU.out E _ (E.take k) (E.drop (k + 1)) (fr, st, by') fr HP.out HWH.out (Int.le_refl _) hIa).mono ?_
        rintro e w3 ⟨rfl, hI3, hkeep3⟩
        have hE3 := hEa.keeps hkeep3
        clear hkeep3 hEa hIa
        go_wp2
        go_roundw
        case rel =>
          refine ⟨k + 1, fr, by omega, by go_num, rfl, by rw [HT1.out]; exact hI3, hE3, by omega, by omega, ?_, ?_⟩
          · intro e he
            rw [HT1.out] at he
            rcases List.mem_append.1 he with he | he
            · have := HB.out e he; omega
            · simp at he; subst he; simp only; omega
          · intro e he
            have := HAS.out e he; omega
        case measure => simp [intOf]; omega
    · have HTk : Hid (E.take k = E) := List.take_of_length_le (by omega)
      rw [HTk.out] at hI HB
      by_cases hle : fr ≤ 1114111
      · go_wp2_with fail
        refine (HTA.out E _ E [] fr 1114111 HP.out (by simp) HB.out (by simp) hlow hle (by omega) hI).mono ?_
        rintro e w2 ⟨rfl, hI2, _⟩
        go_wp2
        go_end0
        exact ⟨rfl, E, HP.out, hI2⟩
      · have e9 : fr = 1114112 := by omega
        subst e9
        go_wp2
        go_end0
        exact ⟨rfl, E, HP.out, hI⟩

end Go.Proofs.Ytbiiapdeincpbaa
