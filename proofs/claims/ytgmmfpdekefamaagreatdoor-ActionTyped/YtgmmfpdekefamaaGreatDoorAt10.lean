/- Texts of the proof, put together: ASgn, AQuo. -/
import Derived.Test.YtgmmfpdekefamaaGreatDoorAt04
import Derived.BigRegion
namespace Go.Proofs.YtgmmfpdekefamaaGreatDoor
open Go.RowKit
set_option linter.unusedVariables false
set_option maxRecDepth 100000

def signsB : ByteArray := ⟨#[61, 61, 43, 43, 59, 58, 124, 123, 125, 40, 41, 91, 93, 44, 61, 60, 43, 45, 42, 47, 37]⟩
/-- is the byte the sign number k, and one of expressions? -/
def hitS (b : Int) (k : Nat) : Bool := (((signsB.get! k).toNat : Int) == b) && (decide (k < 4) || decide (8 < k))
theorem hit_sgn : ∀ b : Nat, b < 256 → (sgnB b = true ↔ ∃ k, k < 21 ∧ hitS (b : Int) k = true) := by decide +kernel

theorem sgn_one {s : ByteArray} {i k : Nat} (h2 : ¬ (i + 1 < s.size ∧ (((s.get! i).toNat = 61 ∧ (s.get! (i + 1)).toNat = 61) ∨ ((s.get! i).toNat = 43 ∧ (s.get! (i + 1)).toNat = 43)))) (hk : k < 21) (h : hitS ((s.get! i).toNat : Int) k = true) : sgnE s i = 1 := by
 unfold sgnE
 rw [if_neg h2, if_pos ((hit_sgn _ (bang_lt s i)).2 ⟨k, hk, h⟩)]
theorem sgn_none {s : ByteArray} {i : Nat} (h2 : ¬ (i + 1 < s.size ∧ (((s.get! i).toNat = 61 ∧ (s.get! (i + 1)).toNat = 61) ∨ ((s.get! i).toNat = 43 ∧ (s.get! (i + 1)).toNat = 43)))) (h : ∀ k, k < 21 → hitS ((s.get! i).toNat : Int) k = false) : sgnE s i = 0 := by
 unfold sgnE
 rw [if_neg h2, if_neg]
 intro hh
 obtain ⟨k, hk, h3⟩ := (hit_sgn _ (bang_lt s i)).1 hh
 rw [h k hk] at h3
 cases h3
theorem two_list (s : ByteArray) (i : Nat) (h : i + 1 < s.size) : (s.extract i (i + 2)).toList = [s.get! i, s.get! (i + 1)] := by
 rw [Lib.toList_data]
 have h1 : (s.extract i (i + 2)).data.size = 2 := by
  show (s.extract i (i + 2)).size = 2
  rw [ByteArray.size_extract]
  omega
 apply List.ext_getElem
 ·simp only [Array.length_toList, h1]; rfl
 ·intro n hn hn2
  have hn3 : n < 2 := hn2
  have e : ∀ k, k < 2 → (s.extract i (i + 2)).data.toList[k]? = some (s.get! (i + k)) := fun k hk => by
   have h3 : s.data.size = s.size := rfl
   rw [ByteArray.data_extract, Array.getElem?_toList, Array.getElem?_extract, if_pos (by omega), get_bangA]
   rw [Array.getElem?_eq_getElem (by omega)]
   rfl
  have := e n hn3
  rw [List.getElem?_eq_getElem hn] at this
  rcases (show n = 0 ∨ n = 1 by omega) with rfl | rfl
  ·simpa using this
  ·simpa using this

set_option maxHeartbeats 4000000 in
theorem rsign_loop (s : ByteArray) (i : Nat) (hs : s.size ≤ 140737488351232) (hi : i < s.size) (w : World) (h2 : ¬ (i + 1 < s.size ∧ (((s.get! i).toNat = 61 ∧ (s.get! (i + 1)).toNat = 61) ∨ ((s.get! i).toNat = 43 ∧ (s.get! (i + 1)).toNat = 43)))) :
  Calls Tryz.prog 115 #[.string s, .int .i64 i, .bool false] w fun e w' => e = .returned (.string (s.extract i (i + sgnE s i))) ∧ ∃ n, w' = w.drewN n := by
 have H2 : Hid (¬ (i + 1 < s.size ∧ (((s.get! i).toNat = 61 ∧ (s.get! (i + 1)).toNat = 61) ∨ ((s.get! i).toNat = 43 ∧ (s.get! (i + 1)).toNat = 43)))) := h2
 have hii : IntKind.i64.wrap ((i : Int) + 1) = (i : Int) + 1 := by rw [IntKind.wrap_i64]; omega
 have hb := get_atA s i hi
 have h4 : (i + 1 < s.size ∧ ((s.extract i (i + 2)).toList == [61, 61]) = false ∧ ((s.extract i (i + 2)).toList == [43, 43]) = false) ∨ ¬ i + 1 < s.size := by
  by_cases hl : i + 1 < s.size
  ·refine .inl ⟨hl, ?_, ?_⟩
   all_goals
    rw [two_list s i hl]
    simp only [beq_eq_false_iff_ne, ne_eq, List.cons.injEq, and_true]
    rintro ⟨a, b⟩
    exact h2 ⟨hl, by rw [a, b]; simp⟩
  ·exact .inr hl
 clear h2
 rcases h4 with ⟨hl, e1, e2⟩ | hl
 all_goals
  go_enter Tryz.func115, Tryz.ntmps115
  go_wp2
  go_loopw [8, 9] (fun a _ wr => ∃ k : Nat, a = .int .i64 k ∧ k ≤ 21 ∧ Hid (∀ j, j < k → hitS ((s.get! i).toNat : Int) j = false) ∧ ∃ n, wr = w.drewN n) (fun a _ _ => 21 - (intOf a).toNat)
  case atStart => exact ⟨0, rfl, by omega, fun j hj => by omega, 0, rfl⟩
  case round =>
   obtain ⟨k, rfl, hk, HA, n, rfl⟩ := hrel
   by_cases hk21 : k < 21
   ·have hb2 := get_atA signsB k hk21
    have hsz : signsB.size = 21 := rfl
    unfold signsB at hb2 hsz
    cases heq : (((({ data := #[61, 61, 43, 43, 59, 58, 124, 123, 125, 40, 41, 91, 93, 44, 61, 60, 43, 45, 42, 47, 37] } : ByteArray).get! k).toNat : Int) == ((s.get! i).toNat : Int))
    ·have HH : Hid (hitS ((s.get! i).toNat : Int) k = false) := by show _ = _; unfold hitS signsB; rw [heq]; rfl
     by_cases h4 : k ≥ 4
     ·have d1 : decide ((k : Int) ≥ 4) = true := decide_eq_true (by omega)
      by_cases h8 : k ≤ 8
      ·have d2 : decide ((k : Int) ≤ 8) = true := decide_eq_true (by omega)
       have HA2 : Hid (∀ j, j < k + 1 → hitS ((s.get! i).toNat : Int) j = false) := fun j hj => by
        by_cases e : j = k
        ·subst e; exact HH.out
        ·exact HA.out j (by omega)
       clear HA HH
       go_wp2
       go_region
       all_goals
        go_wp2
        exact ⟨⟨k + 1, by go_num, by omega, HA2, n + 1, rfl⟩, by simp [intOf]; omega⟩
      ·have d2 : decide ((k : Int) ≤ 8) = false := decide_eq_false (by omega)
       have HA2 : Hid (∀ j, j < k + 1 → hitS ((s.get! i).toNat : Int) j = false) := fun j hj => by
        by_cases e : j = k
        ·subst e; exact HH.out
        ·exact HA.out j (by omega)
       clear HA HH
       go_wp2
       go_region
       all_goals
        go_wp2
        exact ⟨⟨k + 1, by go_num, by omega, HA2, n + 1, rfl⟩, by simp [intOf]; omega⟩
     ·have d1 : decide ((k : Int) ≥ 4) = false := decide_eq_false (by omega)
      have HA2 : Hid (∀ j, j < k + 1 → hitS ((s.get! i).toNat : Int) j = false) := fun j hj => by
       by_cases e : j = k
       ·subst e; exact HH.out
       ·exact HA.out j (by omega)
      clear HA HH
      go_wp2
      go_region
      all_goals
       go_wp2
       exact ⟨⟨k + 1, by go_num, by omega, HA2, n + 1, rfl⟩, by simp [intOf]; omega⟩
    ·by_cases h4 : k ≥ 4
     ·have d1 : decide ((k : Int) ≥ 4) = true := decide_eq_true (by omega)
      by_cases h8 : k ≤ 8
      ·have d2 : decide ((k : Int) ≤ 8) = true := decide_eq_true (by omega)
       have HH : Hid (hitS ((s.get! i).toNat : Int) k = false) := by show _ = _; unfold hitS; rw [decide_eq_false (by omega : ¬ k < 4), decide_eq_false (by omega : ¬ 8 < k)]; simp
       have HA2 : Hid (∀ j, j < k + 1 → hitS ((s.get! i).toNat : Int) j = false) := fun j hj => by
        by_cases e : j = k
        ·subst e; exact HH.out
        ·exact HA.out j (by omega)
       clear HA HH
       go_wp2
       go_region
       all_goals
        go_wp2
        exact ⟨⟨k + 1, by go_num, by omega, HA2, n + 1, rfl⟩, by simp [intOf]; omega⟩
      ·have d2 : decide ((k : Int) ≤ 8) = false := decide_eq_false (by omega)
       have HH : Hid (hitS ((s.get! i).toNat : Int) k = true) := by show _ = _; unfold hitS signsB; rw [heq, decide_eq_true (by omega : 8 < k)]; simp
       have HN : Hid (sgnE s i = 1) := sgn_one H2.out hk21 HH.out
       clear HA HH
       go_wp2
       go_region
       all_goals
        go_wp2
        go_ret
        exact ⟨by rw [HN.out]; rfl, n + 1, rfl⟩
     ·have d1 : decide ((k : Int) ≥ 4) = false := decide_eq_false (by omega)
      have HH : Hid (hitS ((s.get! i).toNat : Int) k = true) := by show _ = _; unfold hitS signsB; rw [heq, decide_eq_true (by omega : k < 4)]; simp
      have HN : Hid (sgnE s i = 1) := sgn_one H2.out hk21 HH.out
      clear HA HH
      go_wp2
      go_region
      all_goals
       go_wp2
       go_ret
       exact ⟨by rw [HN.out]; rfl, n + 1, rfl⟩
   ·obtain rfl : k = 21 := by omega
    have HN : Hid (sgnE s i = 0) := sgn_none H2.out HA.out
    go_wp2
    go_ret
    exact ⟨by rw [HN.out]; simp; rfl, n, rfl⟩

set_option maxHeartbeats 4000000 in
theorem rsign_two (s : ByteArray) (i : Nat) (hs : s.size ≤ 140737488351232) (w : World) (h2 : i + 1 < s.size ∧ (((s.get! i).toNat = 61 ∧ (s.get! (i + 1)).toNat = 61) ∨ ((s.get! i).toNat = 43 ∧ (s.get! (i + 1)).toNat = 43))) :
  Calls Tryz.prog 115 #[.string s, .int .i64 i, .bool false] w fun e w' => e = .returned (.string (s.extract i (i + sgnE s i))) ∧ ∃ n, w' = w.drewN n := by
 have HE : Hid (sgnE s i = 2) := by show _ = _; unfold sgnE; rw [if_pos h2]
 have hii : IntKind.i64.wrap ((i : Int) + 1) = (i : Int) + 1 := by rw [IntKind.wrap_i64]; omega
 obtain ⟨hl, h3⟩ := h2
 have h4 : ((s.extract i (i + 2)).toList == [61, 61]) = true ∨ (((s.extract i (i + 2)).toList == [61, 61]) = false ∧ ((s.extract i (i + 2)).toList == [43, 43]) = true) := by
  rw [two_list s i hl]
  have e : ∀ a b : UInt8, a.toNat = b.toNat → a = b := fun a b h => UInt8.toNat_inj.1 h
  rcases h3 with ⟨a, b⟩ | ⟨a, b⟩
  ·left; rw [e _ 61 a, e _ 61 b]; rfl
  ·right; rw [e _ 43 a, e _ 43 b]; exact ⟨rfl, rfl⟩
 clear h3
 rcases h4 with e1 | ⟨e1, e2⟩
 all_goals
  go_enter Tryz.func115, Tryz.ntmps115
  go_wp2
  go_ret
  exact ⟨by rw [HE.out]; rfl, 0, rfl⟩
theorem rsign_any (s : ByteArray) (i : Nat) (hs : s.size ≤ 140737488351232) (hi : i < s.size) (w : World) :
  Calls Tryz.prog 115 #[.string s, .int .i64 i, .bool false] w fun e w' => e = .returned (.string (s.extract i (i + sgnE s i))) ∧ ∃ n, w' = w.drewN n := by
 by_cases h2 : i + 1 < s.size ∧ (((s.get! i).toNat = 61 ∧ (s.get! (i + 1)).toNat = 61) ∨ ((s.get! i).toNat = 43 ∧ (s.get! (i + 1)).toNat = 43))
 ·exact rsign_two s i hs w h2
 ·exact rsign_loop s i hs hi w h2
theorem sgn_le (s : ByteArray) (i : Nat) (hi : i < s.size) : i + sgnE s i ≤ s.size := by
 unfold sgnE
 split
 ·omega
 ·split <;> omega

end Go.Proofs.YtgmmfpdekefamaaGreatDoor

namespace Go.Proofs.YtgmmfpdekefamaaGreatDoor
open Go.RowKit
set_option linter.unusedVariables false
set_option maxRecDepth 100000

/-- what quoted answers -/
def QuP (s : ByteArray) (w : World) (f0 t0 : Nat) (n0 : Int) (r : Option (ByteArray × Nat)) (e : Ending) (w' : World) : Prop := Below w.heap.size w w' ∧ ∃ t : Tok, e = .returned (tokV t) ∧ t.fr = f0 ∧ t.num = n0 ∧ ((t.kind = 2 ∧ r = some (t.text, t.fin)) ∨ (t.kind = 7 ∧ r = none ∧ t.fin = t0)) ∧ t.fin ≤ s.size

theorem quoE_eq (s : ByteArray) (f i : Nat) (t : ByteArray) : quoE s (f + 1) i t = 
  if i < s.size then
   if okAt s i = false ∨ (s.get! i).toNat = 10 then none
   else if (s.get! i).toNat = 34 then some (t, i + 1)
   else if (s.get! i).toNat ≠ 92 then quoE s f (i + (Utf8.decode s i).2) (t ++ s.extract i (i + (Utf8.decode s i).2))
   else if i + 1 < s.size then
    if (s.get! (i + 1)).toNat = 110 then quoE s f (i + 2) (t ++ ⟨#[10]⟩)
    else if (s.get! (i + 1)).toNat = 34 then quoE s f (i + 2) (t ++ ⟨#[34]⟩)
    else if (s.get! (i + 1)).toNat = 92 then quoE s f (i + 2) (t ++ ⟨#[92]⟩)
    else none
   else none
  else none := rfl

set_option maxHeartbeats 8000000 in
theorem rquoted_any (s : ByteArray) (hs : s.size ≤ 70000) (t : Tok) (ht : t.fr < s.size) (h0 : t.text = emptyT) (h1 : t.fin ≤ s.size) (w : World) :
  Calls Tryz.prog 113 #[.string s, tokV t] w (QuP s w t.fr t.fin t.num (quoE s (s.size - t.fr) (t.fr + 1) emptyT)) := by
 obtain ⟨k0, x0, f0, t0, n0⟩ := t
 simp only at ht h0 h1
 subst h0
 unfold tokV
 simp only
 generalize hres : quoE s (s.size - f0) (f0 + 1) emptyT = res
 have HRes : Hid (quoE s (s.size - f0) (f0 + 1) emptyT = res) := hres
 clear hres
 go_enter Tryz.func113, Tryz.ntmps113
 go_wp2
 have HT0 : Hid (TwoT w ((w.alloc (.cells #[.int .i64 7, .string emptyT, .int .i64 f0, .int .i64 t0, .int .i64 n0] 71)).alloc (.cells #[.int .i64 0, .string ⟨#[]⟩, .int .i64 0, .int .i64 0, .int .i64 0] 71)) ⟨7, emptyT, f0, t0, n0⟩) := TwoT.new w ⟨7, emptyT, f0, t0, n0⟩ ⟨0, ⟨#[]⟩, 0, 0, 0⟩
 generalize (w.alloc (.cells #[.int .i64 7, .string emptyT, .int .i64 f0, .int .i64 t0, .int .i64 n0] 71)).alloc (.cells #[.int .i64 0, .string ⟨#[]⟩, .int .i64 0, .int .i64 0, .int .i64 0] 71) = w1 at *
 go_loopw [5, 6, 7, 8] (fun a _ _ _ wr => ∃ (pos f : Nat) (x : ByteArray), pos ≤ s.size ∧ a = .int .i64 pos ∧ s.size ≤ pos + f ∧ x.size ≤ pos ∧ Hid (quoE s f pos x = res) ∧ Hid (TwoT w wr ⟨7, x, f0, t0, n0⟩)) (fun a _ _ _ _ => s.size - (intOf a).toNat)
 case atStart => exact ⟨f0 + 1, s.size - f0, emptyT, by omega, by go_num, by omega, by show 0 ≤ f0 + 1; omega, HRes, HT0⟩
 case round =>
  obtain ⟨pos, f, x, hp, rfl, hf, hx, HF, HT⟩ := hrel
  obtain ⟨c0, c1, c2, c3, c4⟩ := HT.out.box.cells
  simp only at c0 c1 c2 c3 c4
  have hfz : Hid (∀ j, wr.frozen? ⟨w.heap.size, j, none⟩ = false) := HT.out.box.fz
  obtain ⟨u, hu⟩ := HT.out.res
  obtain ⟨d0, d1, d2, d3, d4⟩ := hu.cells
  have g0 := hu.fz 0
  have g1 := hu.fz 1
  have g2 := hu.fz 2
  have g3 := hu.fz 3
  have g4 := hu.fz 4
  clear hu
  have hlow : w.heap.size < w.heap.size + 1 := by omega
  by_cases hlt : pos < s.size
  ·have hb := get_atA s pos hlt
   obtain ⟨f', rfl⟩ : ∃ f', f = f' + 1 := ⟨f - 1, by omega⟩
   have hwd := dec_width s pos
   have hw4 := dec_four s pos
   have hle := dec_le s pos hlt
   have HP : Hid (∀ w, Calls Tryz.prog 150 #[.string s, .int .i64 pos] w fun e w' => e = .returned (.tuple #[.int .i64 (Utf8.decode s pos).1, .int .i64 (Utf8.decode s pos).2, .bool (okAt s pos)]) ∧ w' = w) := fun w => point_any s pos w (by omega) hlt
   cases hok : okAt s pos
   ·have HN : Hid (res = none) := by
     show _ = _
     rw [← HF.out, quoE_eq, if_pos hlt, if_pos (.inl hok)]
    rw [hok] at HP
    clear HF hok
    obtain ⟨W, hW, hb, hT⟩ := HT.out.ret
    obtain ⟨r0, r1, r2, r3, r4⟩ := hT.cells
    simp only at r0 r1 r2 r3 r4
    have HW : Hid (putT wr (w.heap.size + 1) ⟨7, x, f0, t0, n0⟩ = W) := hW
    have HB : Hid (Below w.heap.size w W) := hb
    clear hW hT hb HT
    go_wp2_with fail
    go_at_call 150
    refine (HP.out _).mono ?_
    rintro e w' ⟨rfl, rfl⟩
    go_wp2
    have hW := HW.out
    unfold putT at hW
    rw [hW]
    refine bodyPost_ret (v := .agg #[.int .i64 7, .string x, .int .i64 f0, .int .i64 t0, .int .i64 n0]) ?_ rfl ?_
    ·simp [results, go_sem, r0, r1, r2, r3, r4]
    ·exact ⟨HB.out, ⟨7, x, f0, t0, n0⟩, rfl, rfl, rfl, .inr ⟨rfl, HN.out, rfl⟩, h1⟩
   ·rw [hok] at HP
    cases h10 : (((s.get! pos).toNat : Int) == 10)
    ·have hn10 : ¬ (okAt s pos = false ∨ (s.get! pos).toNat = 10) := by
      rintro (h | h)
      ·rw [hok] at h; cases h
      ·rw [h] at h10; cases h10
     cases h34 : (((s.get! pos).toNat : Int) == 34)
     ·have hn34 : ¬ (s.get! pos).toNat = 34 := fun h => by rw [h] at h34; cases h34
      cases h92 : (((s.get! pos).toNat : Int) != 92)
      ·have hn92 : ¬ (s.get! pos).toNat ≠ 92 := fun h => by rw [bne_eq_false_iff_eq] at h92; omega
       by_cases hl2 : pos + 1 < s.size
       ·have hg2 : decide ((pos : Int) + 1 ≥ (s.size : Int)) = false := decide_eq_false (by omega)
        have hb2 := get_atA s (pos + 1) hl2
        cases e110 : (((s.get! (pos + 1)).toNat : Int) == 110)
        ·have hn110 : ¬ (s.get! (pos + 1)).toNat = 110 := fun h => by rw [h] at e110; cases e110
         cases e34 : (((s.get! (pos + 1)).toNat : Int) == 34)
         ·have hn34b : ¬ (s.get! (pos + 1)).toNat = 34 := fun h => by rw [h] at e34; cases e34
          cases e92 : (((s.get! (pos + 1)).toNat : Int) == 92)
          ·have HN : Hid (res = none) := by
            show _ = _
            rw [← HF.out, quoE_eq, if_pos hlt, if_neg hn10, if_neg hn34, if_neg hn92, if_pos hl2, if_neg hn110, if_neg hn34b, if_neg]
            intro h
            rw [h] at e92
            cases e92
           clear HF hok hn10 hn34 hn92 hn110 hn34b
           obtain ⟨W, hW, hb, hT⟩ := HT.out.ret
           obtain ⟨r0, r1, r2, r3, r4⟩ := hT.cells
           simp only at r0 r1 r2 r3 r4
           have HW : Hid (putT wr (w.heap.size + 1) ⟨7, x, f0, t0, n0⟩ = W) := hW
           have HB : Hid (Below w.heap.size w W) := hb
           clear hW hT hb HT
           go_wp2_with fail
           go_at_call 150
           refine (HP.out _).mono ?_
           rintro e w' ⟨rfl, rfl⟩
           go_wp2
           have hW := HW.out
           unfold putT at hW
           rw [hW]
           refine bodyPost_ret (v := .agg #[.int .i64 7, .string x, .int .i64 f0, .int .i64 t0, .int .i64 n0]) ?_ rfl ?_
           ·simp [results, go_sem, r0, r1, r2, r3, r4]
           ·exact ⟨HB.out, ⟨7, x, f0, t0, n0⟩, rfl, rfl, rfl, .inr ⟨rfl, HN.out, rfl⟩, h1⟩
          ·have hy92 : (s.get! (pos + 1)).toNat = 92 := by rw [beq_iff_eq] at e92; omega
           have HF2 : Hid (quoE s f' (pos + 2) (x ++ ⟨#[92]⟩) = res) := by
            show _ = _
            rw [← HF.out, quoE_eq, if_pos hlt, if_neg hn10, if_neg hn34, if_neg hn92, if_pos hl2, if_neg hn110, if_neg hn34b, if_pos hy92]
           have HT2 : Hid (TwoT w (wr.setCell ⟨w.heap.size, 1, none⟩ (.string (x ++ ⟨#[92]⟩))) ⟨7, x ++ ⟨#[92]⟩, f0, t0, n0⟩) := HT.out.set 1 _ rfl (HT.out.box.set1 _)
           have hx2 : (x ++ ⟨#[92]⟩ : ByteArray).size ≤ pos + 2 := by rw [ByteArray.size_append]; show x.size + 1 ≤ pos + 2; omega
           have f1 := hfz.out 1
           have hxs : x.size + 1 ≤ 140000 := by omega
           clear HF HT hn10 hn34 hn92 hok hn110 hn34b hy92
           go_wp2_with fail
           go_at_call 150
           refine (HP.out _).mono ?_
           rintro e w' ⟨rfl, rfl⟩
           go_wp2
           go_roundw
           case rel => exact ⟨pos + 2, f', _, by omega, by go_num, by omega, hx2, HF2, HT2⟩
           case measure => simp [intOf]; omega
         ·have hy34 : (s.get! (pos + 1)).toNat = 34 := by rw [beq_iff_eq] at e34; omega
          have HF2 : Hid (quoE s f' (pos + 2) (x ++ ⟨#[34]⟩) = res) := by
           show _ = _
           rw [← HF.out, quoE_eq, if_pos hlt, if_neg hn10, if_neg hn34, if_neg hn92, if_pos hl2, if_neg hn110, if_pos hy34]
          have HT2 : Hid (TwoT w (wr.setCell ⟨w.heap.size, 1, none⟩ (.string (x ++ ⟨#[34]⟩))) ⟨7, x ++ ⟨#[34]⟩, f0, t0, n0⟩) := HT.out.set 1 _ rfl (HT.out.box.set1 _)
          have hx2 : (x ++ ⟨#[34]⟩ : ByteArray).size ≤ pos + 2 := by rw [ByteArray.size_append]; show x.size + 1 ≤ pos + 2; omega
          have f1 := hfz.out 1
          have hxs : x.size + 1 ≤ 140000 := by omega
          clear HF HT hn10 hn34 hn92 hok hn110 hy34
          go_wp2_with fail
          go_at_call 150
          refine (HP.out _).mono ?_
          rintro e w' ⟨rfl, rfl⟩
          go_wp2
          go_roundw
          case rel => exact ⟨pos + 2, f', _, by omega, by go_num, by omega, hx2, HF2, HT2⟩
          case measure => simp [intOf]; omega
        ·have hy110 : (s.get! (pos + 1)).toNat = 110 := by rw [beq_iff_eq] at e110; omega
         have HF2 : Hid (quoE s f' (pos + 2) (x ++ ⟨#[10]⟩) = res) := by
          show _ = _
          rw [← HF.out, quoE_eq, if_pos hlt, if_neg hn10, if_neg hn34, if_neg hn92, if_pos hl2, if_pos hy110]
         have HT2 : Hid (TwoT w (wr.setCell ⟨w.heap.size, 1, none⟩ (.string (x ++ ⟨#[10]⟩))) ⟨7, x ++ ⟨#[10]⟩, f0, t0, n0⟩) := HT.out.set 1 _ rfl (HT.out.box.set1 _)
         have hx2 : (x ++ ⟨#[10]⟩ : ByteArray).size ≤ pos + 2 := by rw [ByteArray.size_append]; show x.size + 1 ≤ pos + 2; omega
         have f1 := hfz.out 1
         have hxs : x.size + 1 ≤ 140000 := by omega
         clear HF HT hn10 hn34 hn92 hok hy110
         go_wp2_with fail
         go_at_call 150
         refine (HP.out _).mono ?_
         rintro e w' ⟨rfl, rfl⟩
         go_wp2
         go_roundw
         case rel => exact ⟨pos + 2, f', _, by omega, by go_num, by omega, hx2, HF2, HT2⟩
         case measure => simp [intOf]; omega
       ·have hg2 : decide ((pos : Int) + 1 ≥ (s.size : Int)) = true := decide_eq_true (by omega)
        have HN : Hid (res = none) := by
         show _ = _
         rw [← HF.out, quoE_eq, if_pos hlt, if_neg hn10, if_neg hn34, if_neg hn92, if_neg hl2]
        clear HF hok hn10 hn34 hn92
        obtain ⟨W, hW, hb, hT⟩ := HT.out.ret
        obtain ⟨r0, r1, r2, r3, r4⟩ := hT.cells
        simp only at r0 r1 r2 r3 r4
        have HW : Hid (putT wr (w.heap.size + 1) ⟨7, x, f0, t0, n0⟩ = W) := hW
        have HB : Hid (Below w.heap.size w W) := hb
        clear hW hT hb HT
        go_wp2_with fail
        go_at_call 150
        refine (HP.out _).mono ?_
        rintro e w' ⟨rfl, rfl⟩
        go_wp2
        have hW := HW.out
        unfold putT at hW
        rw [hW]
        refine bodyPost_ret (v := .agg #[.int .i64 7, .string x, .int .i64 f0, .int .i64 t0, .int .i64 n0]) ?_ rfl ?_
        ·simp [results, go_sem, r0, r1, r2, r3, r4]
        ·exact ⟨HB.out, ⟨7, x, f0, t0, n0⟩, rfl, rfl, rfl, .inr ⟨rfl, HN.out, rfl⟩, h1⟩
      ·have hy92 : (s.get! pos).toNat ≠ 92 := fun h => by rw [h] at h92; cases h92
       have HF2 : Hid (quoE s f' (pos + (Utf8.decode s pos).2) (x ++ s.extract pos (pos + (Utf8.decode s pos).2)) = res) := by
        show _ = _
        rw [← HF.out, quoE_eq, if_pos hlt, if_neg hn10, if_neg hn34, if_pos hy92]
       have HT2 : Hid (TwoT w (wr.setCell ⟨w.heap.size, 1, none⟩ (.string (x ++ s.extract pos (pos + (Utf8.decode s pos).2)))) ⟨7, x ++ s.extract pos (pos + (Utf8.decode s pos).2), f0, t0, n0⟩) := HT.out.set 1 _ rfl (HT.out.box.set1 _)
       have hx2 : (x ++ s.extract pos (pos + (Utf8.decode s pos).2) : ByteArray).size ≤ pos + (Utf8.decode s pos).2 := by rw [ByteArray.size_append, ByteArray.size_extract]; omega
       have hxs : x.size + (s.extract pos (pos + (Utf8.decode s pos).2)).size ≤ 140000 := by rw [ByteArray.size_extract]; omega
       have f1 := hfz.out 1
       clear HF HT hn10 hn34 hok hy92
       generalize hnn : (Utf8.decode s pos).2 = nn at *
       generalize (Utf8.decode s pos).1 = pp at *
       clear hnn
       have hii : IntKind.i64.wrap ((pos : Int) + (nn : Int)) = ((pos + nn : Nat) : Int) := by rw [IntKind.wrap_i64]; omega
       go_wp2_with fail
       go_at_call 150
       refine (HP.out _).mono ?_
       rintro e w' ⟨rfl, rfl⟩
       go_wp2
       go_region
       all_goals
        go_wp2
        exact ⟨⟨pos + nn, f', _, hle, by go_num, by omega, hx2, HF2, HT2.out.drewN 1⟩, by simp [intOf]; omega⟩
     ·have hy34 : (s.get! pos).toNat = 34 := by rw [beq_iff_eq] at h34; omega
      have HN : Hid (res = some (x, pos + 1)) := by
       show _ = _
       rw [← HF.out, quoE_eq, if_pos hlt, if_neg hn10, if_pos hy34]
      have HT2 := (HT.out.set 0 _ rfl (HT.out.box.set0 2))
      have HT3 := HT2.set 3 _ rfl (HT2.box.set3 (pos + 1))
      obtain ⟨W, hW, hb, hT⟩ := HT3.ret
      obtain ⟨r0, r1, r2, r3, r4⟩ := hT.cells
      simp only at r0 r1 r2 r3 r4
      have HW : Hid (putT ((wr.setCell ⟨w.heap.size, 0, none⟩ (.int .i64 2)).setCell ⟨w.heap.size, 3, none⟩ (.int .i64 ((pos + 1 : Nat) : Int))) (w.heap.size + 1) ⟨2, x, f0, pos + 1, n0⟩ = W) := hW
      have HB : Hid (Below w.heap.size w W) := hb
      have f1 := hfz.out 0
      have f3 := hfz.out 3
      clear hW hT hb HT HT2 HT3 HF hok hn10 hy34
      go_wp2_with fail
      go_at_call 150
      refine (HP.out _).mono ?_
      rintro e w' ⟨rfl, rfl⟩
      go_wp2
      have hW := HW.out
      unfold putT at hW
      simp only [Int.natCast_add, Int.cast_ofNat_Int] at hW
      rw [hW]
      refine bodyPost_ret (v := .agg #[.int .i64 2, .string x, .int .i64 f0, .int .i64 ((pos + 1 : Nat) : Int), .int .i64 n0]) ?_ rfl ?_
      ·simp [results, go_sem, r0, r1, r2, r3, r4]
      ·exact ⟨HB.out, ⟨2, x, f0, pos + 1, n0⟩, rfl, rfl, rfl, .inl ⟨rfl, HN.out⟩, by simp only; omega⟩
    ·have HN : Hid (res = none) := by
      show _ = _
      rw [← HF.out, quoE_eq, if_pos hlt, if_pos]
      rw [beq_iff_eq] at h10
      exact .inr (by omega)
     clear HF hok
     obtain ⟨W, hW, hb, hT⟩ := HT.out.ret
     obtain ⟨r0, r1, r2, r3, r4⟩ := hT.cells
     simp only at r0 r1 r2 r3 r4
     have HW : Hid (putT wr (w.heap.size + 1) ⟨7, x, f0, t0, n0⟩ = W) := hW
     have HB : Hid (Below w.heap.size w W) := hb
     clear hW hT hb HT
     go_wp2_with fail
     go_at_call 150
     refine (HP.out _).mono ?_
     rintro e w' ⟨rfl, rfl⟩
     go_wp2
     have hW := HW.out
     unfold putT at hW
     rw [hW]
     refine bodyPost_ret (v := .agg #[.int .i64 7, .string x, .int .i64 f0, .int .i64 t0, .int .i64 n0]) ?_ rfl ?_
     ·simp [results, go_sem, r0, r1, r2, r3, r4]
     ·exact ⟨HB.out, ⟨7, x, f0, t0, n0⟩, rfl, rfl, rfl, .inr ⟨rfl, HN.out, rfl⟩, h1⟩
  ·have HN : Hid (res = none) := by
    show _ = _
    rw [← HF.out]
    cases f with
    | zero => rfl
    | succ f => rw [quoE_eq, if_neg hlt]
   clear HF
   obtain ⟨W, hW, hb, hT⟩ := HT.out.ret
   obtain ⟨r0, r1, r2, r3, r4⟩ := hT.cells
   simp only at r0 r1 r2 r3 r4
   have HW : Hid (putT wr (w.heap.size + 1) ⟨7, x, f0, t0, n0⟩ = W) := hW
   have HB : Hid (Below w.heap.size w W) := hb
   clear hW hT hb HT
   go_wp2
   have hW := HW.out
   unfold putT at hW
   rw [hW]
   refine bodyPost_ret (v := .agg #[.int .i64 7, .string x, .int .i64 f0, .int .i64 t0, .int .i64 n0]) ?_ rfl ?_
   ·simp [results, go_sem, r0, r1, r2, r3, r4]
   ·exact ⟨HB.out, ⟨7, x, f0, t0, n0⟩, rfl, rfl, rfl, .inr ⟨rfl, HN.out, rfl⟩, h1⟩

end Go.Proofs.YtgmmfpdekefamaaGreatDoor
