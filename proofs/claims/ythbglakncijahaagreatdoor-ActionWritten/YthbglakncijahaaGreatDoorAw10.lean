/- Texts of the proof, put together: AQuo. -/
import Derived.Test.YthbglakncijahaaGreatDoorAw08
namespace Go.Proofs.YthbglakncijahaaGreatDoor
open Go.RowKit
set_option linter.unusedVariables false
set_option maxRecDepth 100000

/-- what quoted answers -/
def QuP (s : ByteArray) (w : World) (f0 t0 : Nat) (n0 : Int) (r : Option (ByteArray × Nat)) (e : Ending) (w' : World) : Prop := Below w.heap.size w w' ∧ ∃ t : Tok, e = .returned (tokV t) ∧ t.fr = f0 ∧ t.num = n0 ∧ ((t.kind = 2 ∧ r = some (t.text, t.fin)) ∨ (t.kind = 7 ∧ r = none ∧ t.fin = t0)) ∧ t.fin ≤ s.size

theorem quoE_eq (s : ByteArray) (f i : Nat) (t : ByteArray) : quoE s (f + 1) i t = 
    if i < s.size then
      if okAt s i = false ∨ (s.get! i).toNat = 10 then none
      else if (s.get! i).toNat = 34 then some (t, i + 1)
      else if (s.get! i).toNat ≠ 92 then quoE s f (i + (Utf8.decode s i).2) (t ++ s.extract i (i + (Utf8.decode s i).2))
      else if i + 1 < s.size then
        if (s.get! (i + 1)).toNat = 110 then quoE s f (i + 2) (t ++ ⟨#[10]⟩)
        else if (s.get! (i + 1)).toNat = 34 then quoE s f (i + 2) (t ++ ⟨#[34]⟩)
        else if (s.get! (i + 1)).toNat = 92 then quoE s f (i + 2) (t ++ ⟨#[92]⟩)
        else none
      else none
    else none := rfl

set_option maxHeartbeats 8000000 in
theorem rquoted_any (s : ByteArray) (hs : s.size ≤ 70000) (t : Tok) (ht : t.fr < s.size) (h0 : t.text = emptyT) (h1 : t.fin ≤ s.size) (w : World) :
    Calls Tryz.prog 113 #[.string s, tokV t] w (QuP s w t.fr t.fin t.num (quoE s (s.size - t.fr) (t.fr + 1) emptyT)) := by
  obtain ⟨k0, x0, f0, t0, n0⟩ := t
  simp only at ht h0 h1
  subst h0
  unfold tokV
  simp only
  generalize hres : quoE s (s.size - f0) (f0 + 1) emptyT = res
  have HRes : Hid (quoE s (s.size - f0) (f0 + 1) emptyT = res) := hres
  clear hres
  go_enter Tryz.func113, Tryz.ntmps113
  go_wp2
  have HT0 : Hid (TwoT w ((w.alloc (.cells #[.int .i64 7, .string emptyT, .int .i64 f0, .int .i64 t0, .int .i64 n0] 71)).alloc (.cells #[.int .i64 0, .string ⟨#[]⟩, .int .i64 0, .int .i64 0, .int .i64 0] 71)) ⟨7, emptyT, f0, t0, n0⟩) := TwoT.new w ⟨7, emptyT, f0, t0, n0⟩ ⟨0, ⟨#[]⟩, 0, 0, 0⟩
  generalize (w.alloc (.cells #[.int .i64 7, .string emptyT, .int .i64 f0, .int .i64 t0, .int .i64 n0] 71)).alloc (.cells #[.int .i64 0, .string ⟨#[]⟩, .int .i64 0, .int .i64 0, .int .i64 0] 71) = w1 at *
  go_loopw [5, 6, 7, 8] (fun a _ _ _ wr => ∃ (pos f : Nat) (x : ByteArray), pos ≤ s.size ∧ a = .int .i64 pos ∧ s.size ≤ pos + f ∧ x.size ≤ pos ∧ Hid (quoE s f pos x = res) ∧ Hid (TwoT w wr ⟨7, x, f0, t0, n0⟩)) (fun a _ _ _ _ => s.size - (intOf a).toNat)
  case atStart => exact ⟨f0 + 1, s.size - f0, emptyT, by omega, by go_num, by omega, by show 0 ≤ f0 + 1; omega, HRes, HT0⟩
  case round =>
    obtain ⟨pos, f, x, hp, rfl, hf, hx, HF, HT⟩ := hrel
    obtain ⟨c0, c1, c2, c3, c4⟩ := HT.out.box.cells
    simp only at c0 c1 c2 c3 c4
    have hfz : Hid (∀ j, wr.frozen? ⟨w.heap.size, j, none⟩ = false) := HT.out.box.fz
    obtain ⟨u, hu⟩ := HT.out.res
    obtain ⟨d0, d1, d2, d3, d4⟩ := hu.cells
    have g0 := hu.fz 0
    have g1 := hu.fz 1
    have g2 := hu.fz 2
    have g3 := hu.fz 3
    have g4 := hu.fz 4
    clear hu
    have hlow : w.heap.size < w.heap.size + 1 := by omega
    by_cases hlt : pos < s.size
    · have hb := get_atA s pos hlt
      obtain ⟨f', rfl⟩ : ∃ f', f = f' + 1 := ⟨f - 1, by omega⟩
      have hwd := dec_width s pos
      have hw4 := dec_four s pos
      have hle := dec_le s pos hlt
      have HP : Hid (∀ w, Calls Tryz.prog 150 #[.string s, .int .i64 pos] w fun e w' => e = .returned (.tuple #[.int .i64 (Utf8.decode s pos).1, .int .i64 (Utf8.decode s pos).2, .bool (okAt s pos)]) ∧ w' = w) := fun w => point_any s pos w (by omega) hlt
      cases hok : okAt s pos
      · have HN : Hid (res = none) := by
          show _ = _
          rw [← HF.out, quoE_eq, if_pos hlt, if_pos (.inl hok)]
        rw [hok] at HP
        clear HF hok
        obtain ⟨W, hW, hb, hT⟩ := HT.out.ret
        obtain ⟨r0, r1, r2, r3, r4⟩ := hT.cells
        simp only at r0 r1 r2 r3 r4
        have HW : Hid (putT wr (w.heap.size + 1) ⟨7, x, f0, t0, n0⟩ = W) := hW
        have HB : Hid (Below w.heap.size w W) := hb
        clear hW hT hb HT
        go_wp2_with fail
        go_at_call 150
        refine (HP.out _).mono ?_
        rintro e w' ⟨rfl, rfl⟩
        go_wp2
        have hW := HW.out
        unfold putT at hW
        rw [hW]
        refine bodyPost_ret (v := .agg #[.int .i64 7, .string x, .int .i64 f0, .int .i64 t0, .int .i64 n0]) ?_ rfl ?_
        · simp [results, go_sem, r0, r1, r2, r3, r4]
        · exact ⟨HB.out, ⟨7, x, f0, t0, n0⟩, rfl, rfl, rfl, .inr ⟨rfl, HN.out, rfl⟩, h1⟩
      · rw [hok] at HP
        cases h10 : (((s.get! pos).toNat : Int) == 10)
        · have hn10 : ¬ (okAt s pos = false ∨ (s.get! pos).toNat = 10) := by
            rintro (h | h)
            · rw [hok] at h; cases h
            · rw [h] at h10; cases h10
          cases h34 : (((s.get! pos).toNat : Int) == 34)
          · have hn34 : ¬ (s.get! pos).toNat = 34 := fun h => by rw [h] at h34; cases h34
            cases h92 : (((s.get! pos).toNat : Int) != 92)
            · have hn92 : ¬ (s.get! pos).toNat ≠ 92 := fun h => by rw [bne_eq_false_iff_eq] at h92; omega
              by_cases hl2 : pos + 1 < s.size
              · have hg2 : decide ((pos : Int) + 1 ≥ (s.size : Int)) = false := decide_eq_false (by omega)
                have hb2 := get_atA s (pos + 1) hl2
                cases e110 : (((s.get! (pos + 1)).toNat : Int) == 110)
                · have hn110 : ¬ (s.get! (pos + 1)).toNat = 110 := fun h => by rw [h] at e110; cases e110
                  cases e34 : (((s.get! (pos + 1)).toNat : Int) == 34)
                  · have hn34b : ¬ (s.get! (pos + 1)).toNat = 34 := fun h => by rw [h] at e34; cases e34
                    cases e92 : (((s.get! (pos + 1)).toNat : Int) == 92)
                    · have HN : Hid (res = none) := by
                        show _ = _
                        rw [← HF.out, quoE_eq, if_pos hlt, if_neg hn10, if_neg hn34, if_neg hn92, if_pos hl2, if_neg hn110, if_neg hn34b, if_neg]
                        intro h
                        rw [h] at e92
                        cases e92
                      clear HF hok hn10 hn34 hn92 hn110 hn34b
                      obtain ⟨W, hW, hb, hT⟩ := HT.out.ret
                      obtain ⟨r0, r1, r2, r3, r4⟩ := hT.cells
                      simp only at r0 r1 r2 r3 r4
                      have HW : Hid (putT wr (w.heap.size + 1) ⟨7, x, f0, t0, n0⟩ = W) := hW
                      have HB : Hid (Below w.heap.size w W) := hb
                      clear hW hT hb HT
                      go_wp2_with fail
                      go_at_call 150
                      refine (HP.out _).mono ?_
                      rintro e w' ⟨rfl, rfl⟩
                      go_wp2
                      have hW := HW.out
                      unfold putT at hW
                      rw [hW]
                      refine bodyPost_ret (v := .agg #[.int .i64 7, .string x, .int .i64 f0, .int .i64 t0, .int .i64 n0]) ?_ rfl ?_
                      · simp [results, go_sem, r0, r1, r2, r3, r4]
                      · exact ⟨HB.out, ⟨7, x, f0, t0, n0⟩, rfl, rfl, rfl, .inr ⟨rfl, HN.out, rfl⟩, h1⟩
                    · have hy92 : (s.get! (pos + 1)).toNat = 92 := by rw [beq_iff_eq] at e92; omega
                      have HF2 : Hid (quoE s f' (pos + 2) (x ++ ⟨#[92]⟩) = res) := by
                        show _ = _
                        rw [← HF.out, quoE_eq, if_pos hlt, if_neg hn10, if_neg hn34, if_neg hn92, if_pos hl2, if_neg hn110, if_neg hn34b, if_pos hy92]
                      have HT2 : Hid (TwoT w (wr.setCell ⟨w.heap.size, 1, none⟩ (.string (x ++ ⟨#[92]⟩))) ⟨7, x ++ ⟨#[92]⟩, f0, t0, n0⟩) := HT.out.set 1 _ rfl (HT.out.box.set1 _)
                      have hx2 : (x ++ ⟨#[92]⟩ : ByteArray).size ≤ pos + 2 := by rw [ByteArray.size_append]; show x.size + 1 ≤ pos + 2; omega
                      have f1 := hfz.out 1
                      have hxs : x.size + 1 ≤ 140000 := by omega
                      clear HF HT hn10 hn34 hn92 hok hn110 hn34b hy92
                      go_wp2_with fail
                      go_at_call 150
                      refine (HP.out _).mono ?_
                      rintro e w' ⟨rfl, rfl⟩
                      go_wp2
                      go_roundw
                      case rel => exact ⟨pos + 2, f', _, by omega, by go_num, by omega, hx2, HF2, HT2⟩
                      case measure => simp [intOf]; omega
                  · have hy34 : (s.get! (pos + 1)).toNat = 34 := by rw [beq_iff_eq] at e34; omega
                    have HF2 : Hid (quoE s f' (pos + 2) (x ++ ⟨#[34]⟩) = res) := by
                      show _ = _
                      rw [← HF.out, quoE_eq, if_pos hlt, if_neg hn10, if_neg hn34, if_neg hn92, if_pos hl2, if_neg hn110, if_pos hy34]
                    have HT2 : Hid (TwoT w (wr.setCell ⟨w.heap.size, 1, none⟩ (.string (x ++ ⟨#[34]⟩))) ⟨7, x ++ ⟨#[34]⟩, f0, t0, n0⟩) := HT.out.set 1 _ rfl (HT.out.box.set1 _)
                    have hx2 : (x ++ ⟨#[34]⟩ : ByteArray).size ≤ pos + 2 := by rw [ByteArray.size_append]; show x.size + 1 ≤ pos + 2; omega
                    have f1 := hfz.out 1
                    have hxs : x.size + 1 ≤ 140000 := by omega
                    clear HF HT hn10 hn34 hn92 hok hn110 hy34
                    go_wp2_with fail
                    go_at_call 150
                    refine (HP.out _).mono ?_
                    rintro e w' ⟨rfl, rfl⟩
                    go_wp2
                    go_roundw
                    case rel => exact ⟨pos + 2, f', _, by omega, by go_num, by omega, hx2, HF2, HT2⟩
                    case measure => simp [intOf]; omega
                · have hy110 : (s.get! (pos + 1)).toNat = 110 := by rw [beq_iff_eq] at e110; omega
                  have HF2 : Hid (quoE s f' (pos + 2) (x ++ ⟨#[10]⟩) = res) := by
                    show _ = _
                    rw [← HF.out, quoE_eq, if_pos hlt, if_neg hn10, if_neg hn34, if_neg hn92, if_pos hl2, if_pos hy110]
                  have HT2 : Hid (TwoT w (wr.setCell ⟨w.heap.size, 1, none⟩ (.string (x ++ ⟨#[10]⟩))) ⟨7, x ++ ⟨#[10]⟩, f0, t0, n0⟩) := HT.out.set 1 _ rfl (HT.out.box.set1 _)
                  have hx2 : (x ++ ⟨#[10]⟩ : ByteArray).size ≤ pos + 2 := by rw [ByteArray.size_append]; show x.size + 1 ≤ pos + 2; omega
                  have f1 := hfz.out 1
                  have hxs : x.size + 1 ≤ 140000 := by omega
                  clear HF HT hn10 hn34 hn92 hok hy110
                  go_wp2_with fail
                  go_at_call 150
                  refine (HP.out _).mono ?_
                  rintro e w' ⟨rfl, rfl⟩
                  go_wp2
                  go_roundw
                  case rel => exact ⟨pos + 2, f', _, by omega, by go_num, by omega, hx2, HF2, HT2⟩
                  case measure => simp [intOf]; omega
              · have hg2 : decide ((pos : Int) + 1 ≥ (s.size : Int)) = true := decide_eq_true (by omega)
                have HN : Hid (res = none) := by
                  show _ = _
                  rw [← HF.out, quoE_eq, if_pos hlt, if_neg hn10, if_neg hn34, if_neg hn92, if_neg hl2]
                clear HF hok hn10 hn34 hn92
                obtain ⟨W, hW, hb, hT⟩ := HT.out.ret
                obtain ⟨r0, r1, r2, r3, r4⟩ := hT.cells
                simp only at r0 r1 r2 r3 r4
                have HW : Hid (putT wr (w.heap.size + 1) ⟨7, x, f0, t0, n0⟩ = W) := hW
                have HB : Hid (Below w.heap.size w W) := hb
                clear hW hT hb HT
                go_wp2_with fail
                go_at_call 150
                refine (HP.out _).mono ?_
                rintro e w' ⟨rfl, rfl⟩
                go_wp2
                have hW := HW.out
                unfold putT at hW
                rw [hW]
                refine bodyPost_ret (v := .agg #[.int .i64 7, .string x, .int .i64 f0, .int .i64 t0, .int .i64 n0]) ?_ rfl ?_
                · simp [results, go_sem, r0, r1, r2, r3, r4]
                · exact ⟨HB.out, ⟨7, x, f0, t0, n0⟩, rfl, rfl, rfl, .inr ⟨rfl, HN.out, rfl⟩, h1⟩
            · have hy92 : (s.get! pos).toNat ≠ 92 := fun h => by rw [h] at h92; cases h92
              have HF2 : Hid (quoE s f' (pos + (Utf8.decode s pos).2) (x ++ s.extract pos (pos + (Utf8.decode s pos).2)) = res) := by
                show _ = _
                rw [← HF.out, quoE_eq, if_pos hlt, if_neg hn10, if_neg hn34, if_pos hy92]
              have HT2 : Hid (TwoT w (wr.setCell ⟨w.heap.size, 1, none⟩ (.string (x ++ s.extract pos (pos + (Utf8.decode s pos).2)))) ⟨7, x ++ s.extract pos (pos + (Utf8.decode s pos).2), f0, t0, n0⟩) := HT.out.set 1 _ rfl (HT.out.box.set1 _)
              have hx2 : (x ++ s.extract pos (pos + (Utf8.decode s pos).2) : ByteArray).size ≤ pos + (Utf8.decode s pos).2 := by rw [ByteArray.size_append, ByteArray.size_extract]; omega
              have hxs : x.size + (s.extract pos (pos + (Utf8.decode s pos).2)).size ≤ 140000 := by rw [ByteArray.size_extract]; omega
              have f1 := hfz.out 1
              clear HF HT hn10 hn34 hok hy92
              generalize hnn : (Utf8.decode s pos).2 = nn at *
              generalize (Utf8.decode s pos).1 = pp at *
              clear hnn
              have hii : IntKind.i64.wrap ((pos : Int) + (nn : Int)) = ((pos + nn : Nat) : Int) := by rw [IntKind.wrap_i64]; omega
              go_wp2_with fail
              go_at_call 150
              refine (HP.out _).mono ?_
              rintro e w' ⟨rfl, rfl⟩
              go_wp2
              go_region
              all_goals
                go_wp2
                exact ⟨⟨pos + nn, f', _, hle, by go_num, by omega, hx2, HF2, HT2.out.drewN 1⟩, by simp [intOf]; omega⟩
          · have hy34 : (s.get! pos).toNat = 34 := by rw [beq_iff_eq] at h34; omega
            have HN : Hid (res = some (x, pos + 1)) := by
              show _ = _
              rw [← HF.out, quoE_eq, if_pos hlt, if_neg hn10, if_pos hy34]
            have HT2 := (HT.out.set 0 _ rfl (HT.out.box.set0 2))
            have HT3 := HT2.set 3 _ rfl (HT2.box.set3 (pos + 1))
            obtain ⟨W, hW, hb, hT⟩ := HT3.ret
            obtain ⟨r0, r1, r2, r3, r4⟩ := hT.cells
            simp only at r0 r1 r2 r3 r4
            have HW : Hid (putT ((wr.setCell ⟨w.heap.size, 0, none⟩ (.int .i64 2)).setCell ⟨w.heap.size, 3, none⟩ (.int .i64 ((pos + 1 : Nat) : Int))) (w.heap.size + 1) ⟨2, x, f0, pos + 1, n0⟩ = W) := hW
            have HB : Hid (Below w.heap.size w W) := hb
            have f1 := hfz.out 0
            have f3 := hfz.out 3
            clear hW hT hb HT HT2 HT3 HF hok hn10 hy34
            go_wp2_with fail
            go_at_call 150
            refine (HP.out _).mono ?_
            rintro e w' ⟨rfl, rfl⟩
            go_wp2
            have hW := HW.out
            unfold putT at hW
            simp only [Int.natCast_add, Int.cast_ofNat_Int] at hW
            rw [hW]
            refine bodyPost_ret (v := .agg #[.int .i64 2, .string x, .int .i64 f0, .int .i64 ((pos + 1 : Nat) : Int), .int .i64 n0]) ?_ rfl ?_
            · simp [results, go_sem, r0, r1, r2, r3, r4]
            · exact ⟨HB.out, ⟨2, x, f0, pos + 1, n0⟩, rfl, rfl, rfl, .inl ⟨rfl, HN.out⟩, by simp only; omega⟩
        · have HN : Hid (res = none) := by
            show _ = _
            rw [← HF.out, quoE_eq, if_pos hlt, if_pos]
            rw [beq_iff_eq] at h10
            exact .inr (by omega)
          clear HF hok
          obtain ⟨W, hW, hb, hT⟩ := HT.out.ret
          obtain ⟨r0, r1, r2, r3, r4⟩ := hT.cells
          simp only at r0 r1 r2 r3 r4
          have HW : Hid (putT wr (w.heap.size + 1) ⟨7, x, f0, t0, n0⟩ = W) := hW
          have HB : Hid (Below w.heap.size w W) := hb
          clear hW hT hb HT
          go_wp2_with fail
          go_at_call 150
          refine (HP.out _).mono ?_
          rintro e w' ⟨rfl, rfl⟩
          go_wp2
          have hW := HW.out
          unfold putT at hW
          rw [hW]
          refine bodyPost_ret (v := .agg #[.int .i64 7, .string x, .int .i64 f0, .int .i64 t0, .int .i64 n0]) ?_ rfl ?_
          · simp [results, go_sem, r0, r1, r2, r3, r4]
          · exact ⟨HB.out, ⟨7, x, f0, t0, n0⟩, rfl, rfl, rfl, .inr ⟨rfl, HN.out, rfl⟩, h1⟩
    · have HN : Hid (res = none) := by
        show _ = _
        rw [← HF.out]
        cases f with
        | zero => rfl
        | succ f => rw [quoE_eq, if_neg hlt]
      clear HF
      obtain ⟨W, hW, hb, hT⟩ := HT.out.ret
      obtain ⟨r0, r1, r2, r3, r4⟩ := hT.cells
      simp only at r0 r1 r2 r3 r4
      have HW : Hid (putT wr (w.heap.size + 1) ⟨7, x, f0, t0, n0⟩ = W) := hW
      have HB : Hid (Below w.heap.size w W) := hb
      clear hW hT hb HT
      go_wp2
      have hW := HW.out
      unfold putT at hW
      rw [hW]
      refine bodyPost_ret (v := .agg #[.int .i64 7, .string x, .int .i64 f0, .int .i64 t0, .int .i64 n0]) ?_ rfl ?_
      · simp [results, go_sem, r0, r1, r2, r3, r4]
      · exact ⟨HB.out, ⟨7, x, f0, t0, n0⟩, rfl, rfl, rfl, .inr ⟨rfl, HN.out, rfl⟩, h1⟩

end Go.Proofs.YthbglakncijahaaGreatDoor
