/- Texts of the proof, put together: AWrH. -/
import Derived.Test.YthbglakncijahaaGreatDoorAw27
namespace Go.Proofs.YthbglakncijahaaGreatDoor
open Go.RowKit
set_option linter.unusedVariables false
set_option maxRecDepth 100000

/-- all kids are read again -/
def RdK (ks : List Ex) : Prop := ∀ k ∈ ks, ∀ lv, lv ≤ 5 → RdT k (wrU k lv) lv
theorem rowU_map (a b : Ex) (l : List Ex) : rowU ((a :: b :: l).map wrU) = wrU a 0 ++ ([44] ++ ([32] ++ rowU ((b :: l).map wrU))) := by
  simp only [List.map_cons, rowU]
  rfl
theorem cut_close {s : ByteArray} {i : Nat} {c : UInt8} (h : At s i [c]) (hc : c = 93 ∨ c = 41 ∨ c = 44) : cutE s i = some ⟨6, ⟨#[c]⟩, i, i + 1, 0⟩ := by
  rcases hc with rfl | rfl | rfl <;> exact cut_one h (by decide) (by decide) (by decide)
theorem close_op {c : UInt8} {i j : Nat} {n k : Int} (hc : c = 93 ∨ c = 41 ∨ c = 44) (hk : 0 ≤ k) : ¬ opAt k ⟨6, ⟨#[c]⟩, i, j, n⟩ := by
  rcases hc with rfl | rfl | rfl <;> exact op_sign rfl hk
theorem close_noW {s : ByteArray} {j : Nat} {c : UInt8} {l : List UInt8} (h : At s j (c :: l)) (hc : c = 93 ∨ c = 41 ∨ c = 44) : NoW s j := by
  rcases hc with rfl | rfl | rfl <;> exact noW_byte h (by decide)
/-- the elements of a list, up to the bracket -/
theorem rd_els {s : ByteArray} {f : Nat} : ∀ (ks : List Ex) (i g : Nat) (acc : List Ex) (u : Tok), ks ≠ [] → RdK ks → At s i (rowU (ks.map wrU) ++ [93]) → i ≤ s.size → cutE s (i + (rowU (ks.map wrU)).length + 1) = some u → s.size + 1 ≤ f + i → s.size + 1 ≤ g + i → ∃ t0, cutE s i = some t0 ∧ t0.fr = i ∧ isS [93] (some t0) = false ∧ elsS s (exprS s f) g acc (some t0) = some (exN 9 0 emptyT (acc ++ ks), u)
  | [], i, g, acc, u, h, _, _, _, _, _, _ => absurd rfl h
  | k :: ks, i, g, acc, u, _, hK, hA, hi, hu, hf, hg => by
    have hk := hK k (by simp) 0 (by omega)
    obtain ⟨f', rfl⟩ : ∃ f', f = f' + 1 := ⟨f - 1, by omega⟩
    obtain ⟨g', rfl⟩ : ∃ g', g = g' + 1 := ⟨g - 1, by omega⟩
    cases ks with
    | nil =>
      have hA2 : At s i (wrU k 0 ++ [93]) := hA
      have hu2 : cutE s (i + (wrU k 0).length + 1) = some u := hu
      obtain ⟨h1, h2, h3⟩ := at_split hA2 hi
      have hc := cut_close h2 (.inl rfl)
      obtain ⟨t0, a1, a2, a3⟩ := hk s i _ f' h1 hi (close_noW h2 (.inl rfl)) hc (by omega)
      have e := a3.1 (close_op (.inl rfl) (by omega)) (close_op (.inl rfl) (by omega)) (close_op (.inl rfl) (by omega))
      refine ⟨t0, a1, a2, a3.2, ?_⟩
      rw [elsS, Option.bind_some, e]
      simp only
      rw [isS_sign, if_pos (by rfl)]
      have n1 : nextS s (some ⟨6, ⟨#[93]⟩, i + (wrU k 0).length, i + (wrU k 0).length + 1, 0⟩) = some u := hu2
      rw [n1]
      rfl
    | cons k2 ks =>
      rw [rowU_map] at hA hu
      rw [List.append_assoc, List.append_assoc, List.append_assoc] at hA
      obtain ⟨h1, A1, i1⟩ := at_split hA hi
      obtain ⟨h2, A2, i2⟩ := at_split A1 i1
      obtain ⟨h3, A3, i3⟩ := at_split A2 i2
      have e1 : ([32] : List UInt8).length = 1 := rfl
      have e2 : ([44] : List UInt8).length = 1 := rfl
      simp only [e1, e2] at *
      have hc := cut_close h2 (.inr (.inr rfl))
      obtain ⟨t0, a1, a2, a3⟩ := hk s i _ f' h1 hi (close_noW h2 (.inr (.inr rfl))) hc (by omega)
      have e := a3.1 (close_op (.inr (.inr rfl)) (by omega)) (close_op (.inr (.inr rfl)) (by omega)) (close_op (.inr (.inr rfl)) (by omega))
      have hlen : i + (wrU k 0 ++ ([44] ++ ([32] ++ rowU ((k2 :: ks).map wrU)))).length + 1 = i + (wrU k 0).length + 1 + 1 + (rowU ((k2 :: ks).map wrU)).length + 1 := by simp; omega
      rw [hlen] at hu
      obtain ⟨t2, b1, b2, b3, b4⟩ := rd_els (s := s) (f := f' + 1) (k2 :: ks) (i + (wrU k 0).length + 1 + 1) g' (acc ++ [k]) u (by simp) (fun x hx => hK x (List.mem_cons_of_mem _ hx)) A3 i3 hu (by omega) (by omega)
      refine ⟨t0, a1, a2, a3.2, ?_⟩
      rw [elsS, Option.bind_some, e]
      simp only
      rw [isS_sign, if_neg (by decide)]
      have n1 : needS s [44] (some ⟨6, ⟨#[44]⟩, i + (wrU k 0).length, i + (wrU k 0).length + 1, 0⟩) = some t2 := by
        unfold needS
        rw [isS_sign, if_pos (by rfl)]
        show cutE s (i + (wrU k 0).length + 1) = _
        rw [cut_blank h3]
        exact b1
      rw [n1, b4]
      simp
theorem rd_list {ks : List Ex} (hK : RdK ks) : RdT (exN 9 0 emptyT ks) (91 :: (rowU (ks.map wrU) ++ [93])) 5 := by
  intro s i u f hA hi hn hu hf
  obtain ⟨⟨p1, p2⟩, hB⟩ := At.cons.1 hA
  have hlen : i + (91 :: (rowU (ks.map wrU) ++ [93])).length = i + 1 + (rowU (ks.map wrU)).length + 1 := by simp; omega
  rw [hlen] at hu
  have c0 : cutE s i = some ⟨6, ⟨#[91]⟩, i, i + 1, 0⟩ := cut_one (At.one.2 ⟨p1, p2⟩) (by decide) (by decide) (by decide)
  refine ⟨_, c0, rfl, ?_, by rw [isS_sign]; rfl, notLI_sign (by decide)⟩
  have ha : atomS s (exF s f) ⟨6, ⟨#[91]⟩, i, i + 1, 0⟩ = listS s (exF s f) (cutE s (i + 1)) := by
    unfold atomS
    rw [if_neg (by simp), if_neg (by simp), if_neg (by simp), isS_sign, if_neg (by decide), isS_sign, if_pos (by rfl)]
    rfl
  rw [ha]
  cases ks with
  | nil =>
    have hB2 : At s (i + 1) [93] := hB
    have hu2 : cutE s (i + 1 + 1) = some u := hu
    rw [cut_close hB2 (.inl rfl)]
    unfold listS
    rw [isS_sign, if_pos (by rfl)]
    have n1 : nextS s (some ⟨6, ⟨#[93]⟩, i + 1, i + 1 + 1, 0⟩) = some u := hu2
    rw [n1]
    rfl
  | cons k ks =>
    obtain ⟨t0, a1, a2, a3, a4⟩ := rd_els (s := s) (f := f) (k :: ks) (i + 1) (s.size + 1) [] u (by simp) hK hB (by omega) hu (by omega) (by omega)
    rw [a1]
    unfold listS
    rw [a3, if_neg (by simp), a4]
    rfl
/-- what a function is called with, up to the bracket -/
theorem rd_args {s : ByteArray} {f : Nat} : ∀ (ks : List Ex) (i : Nat) (acc : List Ex) (t : Tok), ks ≠ [] → RdK ks → At s i (rowU (ks.map wrU) ++ [41]) → i ≤ s.size → s.size + 1 ≤ f + i → (acc.length = 0 → cutE s i = some t) → (acc.length ≠ 0 → needS s [44] (some t) = cutE s i) → argS s (exprS s f) ks.length acc (some t) = some (acc ++ ks, ⟨6, ⟨#[41]⟩, i + (rowU (ks.map wrU)).length, i + (rowU (ks.map wrU)).length + 1, 0⟩)
  | [], i, acc, t, h, _, _, _, _, _, _ => absurd rfl h
  | k :: ks, i, acc, t, _, hK, hA, hi, hf, h0, h1' => by
    have hk := hK k (by simp) 0 (by omega)
    obtain ⟨f', rfl⟩ : ∃ f', f = f' + 1 := ⟨f - 1, by omega⟩
    have hst : (if acc.length = 0 then some t else needS s [44] (some t)) = cutE s i := by
      split
      · rename_i h; exact (h0 h).symm
      · rename_i h; exact h1' h
    rw [List.length_cons, argS, hst]
    cases ks with
    | nil =>
      have hA2 : At s i (wrU k 0 ++ [41]) := hA
      obtain ⟨h1, h2, h3⟩ := at_split hA2 hi
      have hc := cut_close h2 (.inr (.inl rfl))
      obtain ⟨t0, a1, a2, a3⟩ := hk s i _ f' h1 hi (close_noW h2 (.inr (.inl rfl))) hc (by omega)
      have e := a3.1 (close_op (.inr (.inl rfl)) (by omega)) (close_op (.inr (.inl rfl)) (by omega)) (close_op (.inr (.inl rfl)) (by omega))
      rw [a1, Option.bind_some, e]
      rfl
    | cons k2 ks =>
      have hlen : i + (rowU ((k :: k2 :: ks).map wrU)).length = i + (wrU k 0).length + 1 + 1 + (rowU ((k2 :: ks).map wrU)).length := by rw [rowU_map]; simp; omega
      rw [rowU_map] at hA
      rw [List.append_assoc, List.append_assoc, List.append_assoc] at hA
      obtain ⟨h1, A1, i1⟩ := at_split hA hi
      obtain ⟨h2, A2, i2⟩ := at_split A1 i1
      obtain ⟨h3, A3, i3⟩ := at_split A2 i2
      have e1 : ([32] : List UInt8).length = 1 := rfl
      have e2 : ([44] : List UInt8).length = 1 := rfl
      simp only [e1, e2] at *
      have hc := cut_close h2 (.inr (.inr rfl))
      obtain ⟨t0, a1, a2, a3⟩ := hk s i _ f' h1 hi (close_noW h2 (.inr (.inr rfl))) hc (by omega)
      have e := a3.1 (close_op (.inr (.inr rfl)) (by omega)) (close_op (.inr (.inr rfl)) (by omega)) (close_op (.inr (.inr rfl)) (by omega))
      rw [a1, Option.bind_some, e]
      simp only
      rw [rd_args (s := s) (f := f' + 1) (k2 :: ks) (i + (wrU k 0).length + 1 + 1) (acc ++ [k]) _ (by simp) (fun x hx => hK x (List.mem_cons_of_mem _ hx)) A3 i3 (by omega) (fun h => by simp at h) (fun _ => by
        unfold needS
        rw [isS_sign, if_pos (by rfl)]
        show cutE s (i + (wrU k 0).length + 1) = _
        rw [cut_blank h3])]
      rw [hlen]
      simp
theorem fun_list {l : List UInt8} (h : 0 < kidsL l) : WordL l ∧ keptL l = false := by
  have key : l = [108, 101, 110] ∨ l = [116, 101, 120, 116] ∨ l = [116, 97, 103] ∨ l = [107, 105, 100, 115] ∨ l = [105, 110, 116] ∨ l = [110, 111, 100, 101] ∨ l = [97, 116] := by
    unfold kidsL at h
    cases h1 : l == [108, 101, 110]
    · cases h2 : l == [116, 101, 120, 116]
      · cases h3 : l == [116, 97, 103]
        · cases h4 : l == [107, 105, 100, 115]
          · cases h5 : l == [105, 110, 116]
            · cases h6 : l == [110, 111, 100, 101]
              · cases h7 : l == [97, 116]
                · simp [h1, h2, h3, h4, h5, h6, h7] at h
                · simp only [beq_iff_eq] at h7; simp [h7]
              · simp only [beq_iff_eq] at h6; simp [h6]
            · simp only [beq_iff_eq] at h5; simp [h5]
          · simp only [beq_iff_eq] at h4; simp [h4]
        · simp only [beq_iff_eq] at h3; simp [h3]
      · simp only [beq_iff_eq] at h2; simp [h2]
    · simp only [beq_iff_eq] at h1; simp [h1]
  rcases key with rfl | rfl | rfl | rfl | rfl | rfl | rfl
  all_goals exact ⟨⟨⟨_, _, rfl, by decide⟩, by decide⟩, by decide⟩
theorem rd_call {x : ByteArray} {ks : List Ex} (hx : 0 < kidsL x.toList) (hn : (ks.length : Int) = kidsL x.toList) (hK : RdK ks) : RdT (exN 10 0 x ks) (x.data.toList ++ (40 :: (rowU (ks.map wrU) ++ [41]))) 5 := by
  have hx2 := hx
  rw [Lib.toList_data] at hx2
  obtain ⟨hw, hkp⟩ := fun_list hx2
  have hne : ks ≠ [] := fun e => by rw [e] at hn; simp at hn; omega
  intro s i u f hA hi hnw hu hf
  obtain ⟨h1, A1, i1⟩ := at_split hA hi
  obtain ⟨⟨p1, p2⟩, hB⟩ := At.cons.1 A1
  have hlen : i + (x.data.toList ++ (40 :: (rowU (ks.map wrU) ++ [41]))).length = i + x.data.toList.length + 1 + (rowU (ks.map wrU)).length + 1 := by simp; omega
  rw [hlen] at hu
  have c0 := hw.cut h1 (noW_byte A1 (by decide)) hi
  have c1 : cutE s (i + x.data.toList.length) = some ⟨6, ⟨#[40]⟩, i + x.data.toList.length, i + x.data.toList.length + 1, 0⟩ := cut_one (At.one.2 ⟨p1, p2⟩) (by decide) (by decide) (by decide)
  refine ⟨_, c0, rfl, ?_, hw.isS (by decide), kept_not hw (by rw [Lib.toList_data]; exact hkp)⟩
  have ha : atomS s (exF s f) ⟨4, x, i, i + x.data.toList.length, 0⟩ = callS s (exF s f) ks.length x (cutE s (i + x.data.toList.length)) := by
    unfold atomS
    rw [if_neg (by simp), if_neg (by simp), if_neg (by simp), if_neg (by rw [hw.isS (by decide)]; simp), if_neg (by rw [hw.isS (by decide)]; simp), if_pos ⟨rfl, hx⟩]
    simp only
    rw [← hn, Int.toNat_natCast]
    rfl
  rw [ha, c1]
  unfold callS
  have n1 : needS s [40] (some ⟨6, ⟨#[40]⟩, i + x.data.toList.length, i + x.data.toList.length + 1, 0⟩) = cutE s (i + x.data.toList.length + 1) := by
    unfold needS
    rw [isS_sign, if_pos (by rfl)]
    rfl
  rw [n1]
  obtain ⟨t0, a1⟩ : ∃ t0, cutE s (i + x.data.toList.length + 1) = some t0 := by
    cases ks with
    | nil => exact absurd rfl hne
    | cons k ks =>
      have hk := hK k (by simp) 0 (by omega)
      obtain ⟨l2, hl2⟩ : ∃ l2, rowU ((k :: ks).map wrU) ++ [41] = wrU k 0 ++ l2 ∧ ∃ c r, l2 = c :: r ∧ (c = 93 ∨ c = 41 ∨ c = 44) := by
        cases ks with
        | nil => exact ⟨[41], rfl, 41, [], rfl, .inr (.inl rfl)⟩
        | cons k2 ks => exact ⟨44 :: (32 :: rowU ((k2 :: ks).map wrU) ++ [41]), by rw [rowU_map, List.append_assoc]; rfl, 44, _, rfl, .inr (.inr rfl)⟩
      obtain ⟨e, c, r, rfl, hc⟩ := hl2
      rw [e] at hB
      obtain ⟨q1, q2, q3⟩ := at_split hB (by omega)
      have hcc := cut_close (At.one.2 (At.cons.1 q2).1) hc
      obtain ⟨t0, a1, _⟩ := hk s _ _ f q1 (by omega) (close_noW q2 hc) hcc (by omega)
      exact ⟨t0, a1⟩
  rw [a1, rd_args ks (i + x.data.toList.length + 1) [] t0 hne hK hB (by omega) (by omega) (fun _ => a1) (fun h => absurd rfl h)]
  simp only
  unfold needS
  rw [isS_sign, if_pos (by rfl)]
  have n2 : nextS s (some ⟨6, ⟨#[41]⟩, i + x.data.toList.length + 1 + (rowU (ks.map wrU)).length, i + x.data.toList.length + 1 + (rowU (ks.map wrU)).length + 1, 0⟩) = some u := hu
  rw [n2]
  rfl

end Go.Proofs.YthbglakncijahaaGreatDoor
