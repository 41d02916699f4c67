/- Texts of the proof, put together: WrD, WrE, WrF. -/
import Derived.Test.YtbjohedenfindaaGreatDoorPw35
import Derived.Test.YtbjohedenfindaaGreatDoorPw18
import Derived.Test.YtbjohedenfindaaGreatDoorPw26
import Derived.Test.YtbjohedenfindaaGreatDoorPw27
namespace Go.Proofs.YtbjohedenfindaaGreatDoor
set_option linter.unusedVariables false

variable {mk : List Rg → Bool → List Rg}

/-- first bytes: no repetition, no end of a row -/
def Fst (l : List Nat) : Prop := ∀ s i, At s i l → i < s.size ∧ 0 ≤ cpAt s i ∧ cpAt s i ≠ 42 ∧ cpAt s i ≠ 43 ∧ cpAt s i ≠ 63 ∧ cpAt s i ≠ 123 ∧ rowEndS (cpAt s i) = false
/-- read as a unit, a part, a row, rows with and, a pattern: at each level of brackets from N on -/
def RU (mk : List Rg → Bool → List Rg) (N : Nat) (l : List Nat) (t : Re) : Prop := ∀ s i n, N ≤ n → At s i l → i ≤ s.size → unitS s mk n i = some (t, i + l.length)
def RP (mk : List Rg → Bool → List Rg) (N : Nat) (l : List Nat) (t : Re) : Prop := ∀ s i n, N ≤ n → At s i l → i ≤ s.size → ∃ u i1 m, unitS s mk n i = some (u, i1) ∧ m ≤ l.length ∧ ∀ f, partS s (f + m) u i1 = partS s f t (i + l.length)
def RR (mk : List Rg → Bool → List Rg) (N : Nat) (l : List Nat) (t : Re) : Prop := ∀ s i n, N ≤ n → At s i l → i ≤ s.size → rowEndS (cpAt s (i + l.length)) = true → rowReS s (fun j => unitS s mk n j) i = some (t, i + l.length)
def RB (mk : List Rg → Bool → List Rg) (N : Nat) (l : List Nat) (t : Re) : Prop := ∀ s i n, N ≤ n → At s i l → i ≤ s.size → rowEndS (cpAt s (i + l.length)) = true → cpAt s (i + l.length) ≠ 38 → bothS s (fun j => unitS s mk n j) i = some (t, i + l.length)
def RA (mk : List Rg → Bool → List Rg) (N : Nat) (l : List Nat) (t : Re) : Prop := ∀ s i n, N ≤ n → At s i l → i ≤ s.size → rowEndS (cpAt s (i + l.length)) = true → cpAt s (i + l.length) ≠ 38 → cpAt s (i + l.length) ≠ 124 → patS s (fun j => unitS s mk n j) i = some (t, i + l.length)

theorem end_no {c : Int} (h : rowEndS c = true) : c ≠ 42 ∧ c ≠ 43 ∧ c ≠ 63 ∧ c ≠ 123 := by
  simp [rowEndS] at h
  omega
theorem part_stop {s : ByteArray} {f i : Nat} {t : Re} (h : cpAt s i ≠ 42 ∧ cpAt s i ≠ 43 ∧ cpAt s i ≠ 63 ∧ cpAt s i ≠ 123) : partS s (f + 1) t i = some (t, i) := by
  rw [partS_eq, if_neg h.1, if_neg h.2.1, if_neg h.2.2.1, if_neg h.2.2.2]
theorem ru_rp {N : Nat} {l : List Nat} {t : Re} (h : RU mk N l t) : RP mk N l t := fun s i n hn hA hi => ⟨t, _, 0, h s i n hn hA hi, by omega, fun f => rfl⟩
/-- a part, where no repetition follows -/
theorem rp_one {N : Nat} {l : List Nat} {t : Re} (h : RP mk N l t) {s : ByteArray} {i n : Nat} (hn : N ≤ n) (hA : At s i l) (hi : i ≤ s.size) (he : cpAt s (i + l.length) ≠ 42 ∧ cpAt s (i + l.length) ≠ 43 ∧ cpAt s (i + l.length) ≠ 63 ∧ cpAt s (i + l.length) ≠ 123) :
    ((unitS s mk n i).bind fun x => partS s (s.size + 1) x.1 x.2) = some (t, i + l.length) := by
  obtain ⟨u, i1, m, h1, h2, h3⟩ := h s i n hn hA hi
  have hle := hA.le hi
  rw [h1]
  simp only [Option.bind_some]
  rw [show s.size + 1 = (s.size - m) + 1 + m by omega, h3, part_stop he]

/-- a row of parts -/
theorem row_at {N : Nat} {s : ByteArray} {n : Nat} (hn : N ≤ n) : ∀ (ws : List (List Nat × Re)) (acc : List Re) (i f : Nat), (∀ x ∈ ws, RP mk N x.1 x.2 ∧ Fst x.1 ∧ 1 ≤ x.1.length) → At s i (ws.map (·.1)).flatten → i ≤ s.size → rowEndS (cpAt s (i + (ws.map (·.1)).flatten.length)) = true → (ws.map (·.1)).flatten.length + 1 ≤ f →
    rowS s (fun j => unitS s mk n j) f acc i = some (acc ++ ws.map (·.2), i + (ws.map (·.1)).flatten.length)
  | [], acc, i, f, _, _, _, he, hf => by
    obtain ⟨f', rfl⟩ : ∃ f', f = f' + 1 := ⟨f - 1, by omega⟩
    rw [rowS_eq, if_pos (by simpa using he)]
    simp
  | x :: ws, acc, i, f, hw, hA, hi, he, hf => by
    obtain ⟨f', rfl⟩ : ∃ f', f = f' + 1 := ⟨f - 1, by omega⟩
    obtain ⟨hP, hF, h1⟩ := hw x (by simp)
    have e : ((x :: ws).map (·.1)).flatten = x.1 ++ (ws.map (·.1)).flatten := by simp
    rw [e] at hA he hf ⊢
    rw [List.length_append] at he hf ⊢
    obtain ⟨hA1, hA2⟩ := At.append.1 hA
    have hF1 := hF s i hA1
    have hle := hA1.le hi
    have he2 : rowEndS (cpAt s (i + x.1.length + (ws.map (·.1)).flatten.length)) = true := by rw [Nat.add_assoc]; exact he
    have hstop : cpAt s (i + x.1.length) ≠ 42 ∧ cpAt s (i + x.1.length) ≠ 43 ∧ cpAt s (i + x.1.length) ≠ 63 ∧ cpAt s (i + x.1.length) ≠ 123 := by
      cases ws with
      | nil => exact end_no (by simpa using he2)
      | cons y ws =>
        have hFy := (hw y (by simp)).2.1
        have e2 : ((y :: ws).map (·.1)).flatten = y.1 ++ (ws.map (·.1)).flatten := by simp
        rw [e2] at hA2
        have := hFy s _ (At.append.1 hA2).1
        exact ⟨this.2.2.1, this.2.2.2.1, this.2.2.2.2.1, this.2.2.2.2.2.1⟩
    have hone := rp_one hP hn hA1 hi hstop
    rw [rowS_eq, if_neg (by rw [hF1.2.2.2.2.2.2]; simp)]
    rw [hone]
    simp only
    rw [row_at hn ws (acc ++ [x.2]) (i + x.1.length) f' (fun y hy => hw y (by simp [hy])) hA2 hle he2 (by omega)]
    simp
    omega
theorem rr_row {N : Nat} (ws : List (List Nat × Re)) (hw : ∀ x ∈ ws, RP mk N x.1 x.2 ∧ Fst x.1 ∧ 1 ≤ x.1.length) : RR mk N (ws.map (·.1)).flatten (gatherS 2 (ws.map (·.2))) := by
  intro s i n hn hA hi he
  unfold rowReS
  have := hA.le hi
  rw [row_at hn ws [] i (s.size + 1) hw hA hi he (by omega)]
  simp
theorem rp_rr {N : Nat} {l : List Nat} {t : Re} (h : RP mk N l t) (hF : Fst l) (h1 : 1 ≤ l.length) : RR mk N l t := by
  have := rr_row (mk := mk) (N := N) [(l, t)] (by simp; exact ⟨h, hF, h1⟩)
  simpa [gatherS] using this

/-- what stands between signs -/
def joinB (c : Nat) : List (List Nat) → List Nat
  | [] => []
  | x :: t => x ++ (t.map (fun y => c :: y)).flatten
/-- a list of what r reads, behind signs -/
theorem sevS_at {s : ByteArray} {c : Nat} (hc : c < 128) {r : Nat → Option (Re × Nat)} (ok : Int → Prop) (hok : ok (c : Int)) : ∀ (ws : List (List Nat × Re)) (acc : List Re) (i f : Nat),
    (∀ x ∈ ws, ∀ j, At s j x.1 → j ≤ s.size → ok (cpAt s (j + x.1.length)) → r j = some (x.2, j + x.1.length)) →
    At s i (ws.map (fun x => c :: x.1)).flatten → i ≤ s.size → ok (cpAt s (i + (ws.map (fun x => c :: x.1)).flatten.length)) → cpAt s (i + (ws.map (fun x => c :: x.1)).flatten.length) ≠ (c : Int) → (ws.map (fun x => c :: x.1)).flatten.length + 1 ≤ f →
    sevS s (c : Int) r f acc i = some (acc ++ ws.map (·.2), i + (ws.map (fun x => c :: x.1)).flatten.length)
  | [], acc, i, f, _, _, _, _, hne, hf => by
    obtain ⟨f', rfl⟩ : ∃ f', f = f' + 1 := ⟨f - 1, by omega⟩
    rw [sevS_eq, if_neg (by simpa using hne)]
    simp
  | x :: ws, acc, i, f, hw, hA, hi, he, hne, hf => by
    obtain ⟨f', rfl⟩ : ∃ f', f = f' + 1 := ⟨f - 1, by omega⟩
    have e : ((x :: ws).map (fun x => c :: x.1)).flatten = c :: (x.1 ++ (ws.map (fun x => c :: x.1)).flatten) := by simp
    rw [e] at hA he hne hf ⊢
    simp only [List.length_cons, List.length_append] at he hne hf ⊢
    have hcp := (At.cp hA hc).1
    obtain ⟨hlt, hA1⟩ := At.cons.1 hA
    obtain ⟨hA2, hA3⟩ := At.append.1 hA1
    have hle := hA2.le (by omega)
    have ee : i + (x.1.length + (ws.map (fun x => c :: x.1)).flatten.length + 1) = i + 1 + x.1.length + (ws.map (fun x => c :: x.1)).flatten.length := by omega
    rw [ee] at he hne ⊢
    have hnx : ok (cpAt s (i + 1 + x.1.length)) := by
      cases ws with
      | nil => simpa using he
      | cons y ws =>
        have e2 : ((y :: ws).map (fun x => c :: x.1)).flatten = c :: (y.1 ++ (ws.map (fun x => c :: x.1)).flatten) := by simp
        rw [e2] at hA3
        rw [(At.cp hA3 hc).1]
        exact hok
    have h1 := hw x (by simp) (i + 1) hA2 (by omega) hnx
    rw [sevS_eq, if_pos hcp, h1]
    simp only
    rw [sevS_at hc ok hok ws (acc ++ [x.2]) (i + 1 + x.1.length) f' (fun y hy => hw y (by simp [hy])) hA3 (by omega) he hne (by omega)]
    simp
theorem several_at {s : ByteArray} {k : Int} {c : Nat} (hc : c < 128) {r : Nat → Option (Re × Nat)} (ok : Int → Prop) (hok : ok (c : Int)) (x : List Nat × Re) (ws : List (List Nat × Re)) (i : Nat)
    (hw : ∀ y ∈ x :: ws, ∀ j, At s j y.1 → j ≤ s.size → ok (cpAt s (j + y.1.length)) → r j = some (y.2, j + y.1.length))
    (hA : At s i (joinB c ((x :: ws).map (·.1)))) (hi : i ≤ s.size) (he : ok (cpAt s (i + (joinB c ((x :: ws).map (·.1))).length))) (hne : cpAt s (i + (joinB c ((x :: ws).map (·.1))).length) ≠ (c : Int)) :
    severalS s k (c : Int) r i = some (gatherS k ((x :: ws).map (·.2)), i + (joinB c ((x :: ws).map (·.1))).length) := by
  have e : joinB c ((x :: ws).map (·.1)) = x.1 ++ (ws.map (fun x => c :: x.1)).flatten := by simp [joinB, List.map_map, Function.comp_def]
  rw [e] at hA he hne ⊢
  rw [List.length_append] at he hne ⊢
  rw [← Nat.add_assoc] at he hne ⊢
  obtain ⟨hA1, hA2⟩ := At.append.1 hA
  have hle := hA1.le hi
  have hle2 := hA2.le hle
  have hnx : ok (cpAt s (i + x.1.length)) := by
    cases ws with
    | nil => simpa using he
    | cons y ws =>
      have e2 : ((y :: ws).map (fun x => c :: x.1)).flatten = c :: (y.1 ++ (ws.map (fun x => c :: x.1)).flatten) := by simp
      rw [e2] at hA2
      rw [(At.cp hA2 hc).1]
      exact hok
  unfold severalS
  rw [hw x (by simp) i hA1 hi hnx]
  simp only
  rw [sevS_at hc ok hok ws [x.2] (i + x.1.length) (s.size + 1) (fun y hy => hw y (by simp [hy])) hA2 hle he hne (by omega)]
  simp
theorem rb_both {N : Nat} (x : List Nat × Re) (ws : List (List Nat × Re)) (hw : ∀ y ∈ x :: ws, RR mk N y.1 y.2) : RB mk N (joinB 38 ((x :: ws).map (·.1))) (gatherS 4 ((x :: ws).map (·.2))) := by
  intro s i n hn hA hi he hne
  exact several_at (k := 4) (c := 38) (by omega) (fun c => rowEndS c = true) (by decide) x ws i (fun y hy j hAj hj ho => hw y hy s j n hn hAj hj ho) hA hi he hne
theorem rr_rb {N : Nat} {l : List Nat} {t : Re} (h : RR mk N l t) : RB mk N l t := by
  have := rb_both (mk := mk) (N := N) (l, t) [] (by simp; exact h)
  simpa [gatherS, joinB] using this
theorem ra_any {N : Nat} (x : List Nat × Re) (ws : List (List Nat × Re)) (hw : ∀ y ∈ x :: ws, RB mk N y.1 y.2) : RA mk N (joinB 124 ((x :: ws).map (·.1))) (gatherS 3 ((x :: ws).map (·.2))) := by
  intro s i n hn hA hi he hne hne2
  exact several_at (k := 3) (c := 124) (by omega) (fun c => rowEndS c = true ∧ c ≠ 38) (by decide) x ws i (fun y hy j hAj hj ho => hw y hy s j n hn hAj hj ho.1 ho.2) hA hi ⟨he, hne⟩ hne2
theorem rb_ra {N : Nat} {l : List Nat} {t : Re} (h : RB mk N l t) : RA mk N l t := by
  have := ra_any (mk := mk) (N := N) (l, t) [] (by simp; exact h)
  simpa [gatherS, joinB] using this
/-- brackets -/
theorem ra_ru {N : Nat} {l : List Nat} {t : Re} (h : RA mk N l t) : RU mk (N + 1) (40 :: (l ++ [41])) t := by
  intro s i n hn hA hi
  obtain ⟨n', rfl⟩ : ∃ n', n = n' + 1 := ⟨n - 1, by omega⟩
  have c1 : cpAt s i = 40 := by simpa using (At.cp hA (by omega)).1
  obtain ⟨hlt, hA1⟩ := At.cons.1 hA
  obtain ⟨hA2, hA3⟩ := At.append.1 hA1
  have c2 : cpAt s (i + 1 + l.length) = 41 := by simpa using (At.cp hA3 (by omega)).1
  have hp := h s (i + 1) n' (by omega) hA2 (by omega) (by rw [c2]; decide) (by omega) (by omega)
  rw [unitS, if_neg (by omega), if_pos c1, hp]
  simp only
  rw [if_pos c2]
  simp
  omega
theorem fst_open {l : List Nat} : Fst (40 :: l) := by
  intro s i hA
  obtain ⟨e1, _, e2⟩ := At.cp hA (by omega)
  rw [e1]
  exact ⟨e2, by omega, by omega, by omega, by omega, by omega, by decide⟩
theorem fst_append {a b : List Nat} (h : Fst a) : Fst (a ++ b) := fun s i hA => h s i (At.append.1 hA).1

/-- where a pattern of a kind may stand without brackets -/
def placeK (k : Int) : Nat := if k = 3 then 0 else if k = 4 then 1 else if k = 2 then 2 else if k = 6 then 3 else 4
def wrapB (own place : Nat) (l : List Nat) : List Nat := if own < place then 40 :: (l ++ [41]) else l
def bodyB (mk : List Rg → Bool → List Rg) (k : Int) (s : List Rg) (a b : Int) (ws : List (Nat → List Nat)) : List Nat :=
  if k = 1 then setB mk s
  else if k = 2 then (if ws.length = 0 then [40, 41] else (ws.map fun w => w 3).flatten)
  else if k = 3 then joinB 124 (ws.map fun w => w 1)
  else if k = 4 then joinB 38 (ws.map fun w => w 2)
  else if k = 5 then 126 :: (ws.map fun w => w 4).flatten
  else (ws.map fun w => w 3).flatten ++ timesB a b
/-- the text of a pattern where a place is asked -/
def wrT (mk : List Rg → Bool → List Rg) (t : Tm) : Nat → List Nat := match t with
  | ⟨k, s, a, b, ks⟩ => fun place => wrapB (placeK k) place (bodyB mk k s a b (ks.map fun x => wrT mk x))
theorem wrT_eq (t : Tm) (place : Nat) : wrT mk t place = wrapB (placeK t.kind) place (bodyB mk t.kind t.set t.mn t.mx (t.kids.map (wrT mk))) := by
  obtain ⟨k, s, a, b, ks⟩ := t; rw [wrT]
/-- how deep a pattern is -/
def hT (t : Tm) : Nat := match t with
  | ⟨k, s, a, b, ks⟩ => 1 + (ks.map fun x => hT x).foldl max 0
theorem hT_eq (t : Tm) : hT t = 1 + (t.kids.map hT).foldl max 0 := by
  obtain ⟨k, s, a, b, ks⟩ := t; rw [hT]
theorem foldl_max (l : List Nat) (a : Nat) : a ≤ l.foldl max a ∧ ∀ x ∈ l, x ≤ l.foldl max a := by
  induction l generalizing a with
  | nil => simp
  | cons y t ih =>
    have := ih (max a y)
    simp only [List.foldl_cons]
    refine ⟨by omega, fun x hx => ?_⟩
    rcases List.mem_cons.1 hx with rfl | hx
    · omega
    · exact this.2 x hx
theorem hT_kid {t x : Tm} (h : x ∈ t.kids) : hT x + 1 ≤ hT t := by
  rw [hT_eq t]
  have := (foldl_max (t.kids.map hT) 0).2 (hT x) (List.mem_map_of_mem h)
  omega

/-- a pattern's text is read again, at each place -/
structure Rd (mk : List Rg → Bool → List Rg) (N : Nat) (t : Tm) : Prop where
  u : RU mk N (wrT mk t 4) (reOf t)
  p : RP mk N (wrT mk t 3) (reOf t)
  r : RR mk N (wrT mk t 2) (reOf t)
  b : RB mk N (wrT mk t 1) (reOf t)
  a : RA mk N (wrT mk t 0) (reOf t)
  f : ∀ place, Fst (wrT mk t place)
  len : ∀ place, 1 ≤ (wrT mk t place).length
theorem RU.mono {N N' : Nat} {l : List Nat} {t : Re} (h : RU mk N l t) (hN : N ≤ N') : RU mk N' l t := fun s i n hn => h s i n (by omega)
theorem RP.mono {N N' : Nat} {l : List Nat} {t : Re} (h : RP mk N l t) (hN : N ≤ N') : RP mk N' l t := fun s i n hn => h s i n (by omega)
theorem RR.mono {N N' : Nat} {l : List Nat} {t : Re} (h : RR mk N l t) (hN : N ≤ N') : RR mk N' l t := fun s i n hn => h s i n (by omega)
theorem RB.mono {N N' : Nat} {l : List Nat} {t : Re} (h : RB mk N l t) (hN : N ≤ N') : RB mk N' l t := fun s i n hn => h s i n (by omega)
theorem RA.mono {N N' : Nat} {l : List Nat} {t : Re} (h : RA mk N l t) (hN : N ≤ N') : RA mk N' l t := fun s i n hn => h s i n (by omega)

/-- out of what holds at a pattern's own place -/
theorem rd_of {N own : Nat} {t : Tm} {l : List Nat} (hown : own ≤ 4) (he : ∀ place, wrT mk t place = wrapB own place l) (hF : Fst l) (h1 : 1 ≤ l.length)
    (hu : own = 4 → RU mk N l (reOf t)) (hp : own = 3 → RP mk N l (reOf t)) (hr : own = 2 → RR mk N l (reOf t)) (hb : own = 1 → RB mk N l (reOf t)) (ha : own = 0 → RA mk N l (reOf t)) : Rd mk (N + 1) t := by
  have P : 3 ≤ own → RP mk N l (reOf t) := fun h => by
    rcases (show own = 4 ∨ own = 3 by omega) with e | e
    · exact ru_rp (hu e)
    · exact hp e
  have R : 2 ≤ own → RR mk N l (reOf t) := fun h => by
    rcases (show 3 ≤ own ∨ own = 2 by omega) with e | e
    · exact rp_rr (P e) hF h1
    · exact hr e
  have B : 1 ≤ own → RB mk N l (reOf t) := fun h => by
    rcases (show 2 ≤ own ∨ own = 1 by omega) with e | e
    · exact rr_rb (R e)
    · exact hb e
  have A : RA mk N l (reOf t) := by
    rcases (show 1 ≤ own ∨ own = 0 by omega) with e | e
    · exact rb_ra (B e)
    · exact ha e
  have U : RU mk (N + 1) (40 :: (l ++ [41])) (reOf t) := ra_ru A
  have hFo : Fst (40 :: (l ++ [41])) := fst_open
  have h1o : 1 ≤ (40 :: (l ++ [41])).length := by simp
  refine ⟨?_, ?_, ?_, ?_, ?_, fun place => ?_, fun place => ?_⟩
  · rw [he]; unfold wrapB; split
    · exact U
    · exact (hu (by omega)).mono (by omega)
  · rw [he]; unfold wrapB; split
    · exact ru_rp U
    · exact (P (by omega)).mono (by omega)
  · rw [he]; unfold wrapB; split
    · exact rp_rr (ru_rp U) hFo h1o
    · exact (R (by omega)).mono (by omega)
  · rw [he]; unfold wrapB; split
    · exact rr_rb (rp_rr (ru_rp U) hFo h1o)
    · exact (B (by omega)).mono (by omega)
  · rw [he]; unfold wrapB; split
    · exact rb_ra (rr_rb (rp_rr (ru_rp U) hFo h1o))
    · exact A.mono (by omega)
  · rw [he]; unfold wrapB; split
    · exact hFo
    · exact hF
  · rw [he]; unfold wrapB; split
    · exact h1o
    · exact h1

end Go.Proofs.YtbjohedenfindaaGreatDoor

namespace Go.Proofs.YtbjohedenfindaaGreatDoor
set_option linter.unusedVariables false

variable {mk : List Rg → Bool → List Rg}

theorem setB_len {l : List Rg} (hc : canonFrom 0 l = true) : 1 ≤ (setB mk l).length := by
  have hok := canon_ok hc
  unfold setB
  split
  · rename_i h1
    obtain ⟨x, rfl⟩ := List.length_eq_one_iff.1 h1.1
    have hx := hok x (by simp)
    have := pt_len (c := x.1.toNat) (sg := outerS) (by have := hx.2.1; have := hx.2.2; omega)
    simpa using this.1
  · split
    · simp
    · split <;> simp
theorem gather_many {k : Int} {l : List Re} (h : l.length ≠ 1) : gatherS k l = ⟨k, [], 0, 0, l.map some⟩ := by
  match l, h with
  | [], _ => rfl
  | [p], h => simp at h
  | p :: q :: r, _ => rfl
theorem maps_at (ks : List Tm) (n : Nat) : ((ks.map (wrT mk)).map fun w => w n) = ks.map fun x => wrT mk x n := by simp [List.map_map, Function.comp_def]
theorem pairs_1 (ks : List Tm) (n : Nat) : ((ks.map fun x => (wrT mk x n, reOf x)).map (·.1)) = ks.map fun x => wrT mk x n := by simp [List.map_map, Function.comp_def]
theorem pairs_2 (ks : List Tm) (n : Nat) : ((ks.map fun x => (wrT mk x n, reOf x)).map (·.2)) = ks.map reOf := by simp [List.map_map, Function.comp_def]
theorem fst_flat {ks : List Tm} {n : Nat} (hne : ks ≠ []) (h : ∀ x ∈ ks, Fst (wrT mk x n)) : Fst (ks.map fun x => wrT mk x n).flatten := by
  cases ks with
  | nil => exact absurd rfl hne
  | cons x t => simpa using fst_append (h x (by simp))
theorem fst_join {c : Nat} {ks : List Tm} {n : Nat} (hne : ks ≠ []) (h : ∀ x ∈ ks, Fst (wrT mk x n)) : Fst (joinB c (ks.map fun x => wrT mk x n)) := by
  cases ks with
  | nil => exact absurd rfl hne
  | cons x t => simpa [joinB] using fst_append (h x (by simp))

theorem rd_all (M : MkOk mk) : ∀ (t : Tm), GoodT (reOf t) → Rd mk (2 * hT t) t := by
  refine Tm.ind ?_
  intro t ih hG
  have A := mk_all M
  have hno : NodeOk (reOf t) := (hG 1).1
  have hh : 1 ≤ hT t := by rw [hT_eq]; omega
  have hk : ∀ x ∈ t.kids, Rd mk (2 * hT x) x ∧ 2 * hT x + 2 ≤ 2 * hT t := fun x hx => ⟨ih x hx (good_kid hG hx), by have := hT_kid hx; omega⟩
  have er : reOf t = ⟨t.kind, t.set, t.mn, t.mx, (t.kids.map reOf).map some⟩ := reOf_eq t
  rw [er] at hno
  obtain ⟨N, hN⟩ : ∃ N, 2 * hT t = N + 1 := ⟨2 * hT t - 1, by omega⟩
  rw [hN] at hk ⊢
  have hN1 : 1 ≤ N := by omega
  clear hh hN ih
  rcases hno with ⟨h1, h2, h3, h4, h5, _⟩ | ⟨h1, h2, _, h3, h4, h5⟩ | ⟨h1, h2, _, h3, h4, h5⟩ | ⟨h1, h2, h3, h4, h5⟩ | ⟨h1, h2, h3, h3', h4, h5⟩ <;> simp only at h1 h2 h3 h4 h5
  · -- a set
    have hkn : t.kids = [] := by simpa using h2
    refine rd_of (own := 4) (l := setB mk t.set) (by omega) (fun place => ?_) (fun s i hA => set_first h5 hA) (setB_len h5) (fun _ => ?_) (by omega) (by omega) (by omega) (by omega)
    · rw [wrT_eq, h1]; simp [placeK, bodyB]
    · intro s i n hn hA hi
      obtain ⟨n', rfl⟩ : ∃ n', n = n' + 1 := ⟨n - 1, by omega⟩
      rw [set_at M A h5 hA hi n', er, h1, h3, h4, hkn]
      rfl
  · -- a row
    by_cases h0 : t.kids = []
    · have hRU : RU mk 1 [40, 41] (reOf t) := by
        have q1 := rr_row (mk := mk) (N := 0) [] (by simp)
        have q2 := ra_ru (rb_ra (rr_rb q1))
        have e : gatherS 2 (([] : List (List Nat × Re)).map (·.2)) = reOf t := by rw [er, h1, h3, h4, h5, h0]; rfl
        rw [e] at q2
        exact q2
      refine rd_of (own := 2) (l := [40, 41]) (by omega) (fun place => ?_) fst_open (by simp) (by omega) (by omega) (fun _ => rp_rr (ru_rp (hRU.mono hN1)) fst_open (by simp)) (by omega) (by omega)
      rw [wrT_eq, h1, h0]; simp [placeK, bodyB]
    · have hw : ∀ x ∈ t.kids.map (fun x => (wrT mk x 3, reOf x)), RP mk N x.1 x.2 ∧ Fst x.1 ∧ 1 ≤ x.1.length := by
        intro x hx
        obtain ⟨y, hy, rfl⟩ := List.mem_map.1 hx
        obtain ⟨q1, q2⟩ := hk y hy
        exact ⟨q1.p.mono (by omega), q1.f 3, q1.len 3⟩
      have hRR := rr_row (mk := mk) (N := N) _ hw
      rw [pairs_1, pairs_2, gather_many (by simpa using h2)] at hRR
      refine rd_of (own := 2) (l := (t.kids.map fun x => wrT mk x 3).flatten) (by omega) (fun place => ?_) (fst_flat h0 fun x hx => (hk x hx).1.f 3) ?_ (by omega) (by omega) (fun _ => ?_) (by omega) (by omega)
      · rw [wrT_eq, h1]
        have : t.kids.length ≠ 0 := fun e => h0 (List.length_eq_zero_iff.1 e)
        simp [placeK, bodyB, h0, Function.comp_def]
      · cases hq : t.kids with
        | nil => exact absurd hq h0
        | cons y r =>
          have := (hk y (by rw [hq]; simp)).1.len 3
          simp; omega
      · rw [er, h1, h3, h4, h5]; exact hRR
  · -- or, and
    have hl2 : 2 ≤ t.kids.length := by simpa using h2
    obtain ⟨y, r, hq⟩ : ∃ y r, t.kids = y :: r := by
      cases hq : t.kids with
      | nil => rw [hq] at hl2; simp at hl2
      | cons y r => exact ⟨y, r, rfl⟩
    have h0 : t.kids ≠ [] := by rw [hq]; simp
    have hlen : ∀ n c, 1 ≤ (joinB c (t.kids.map fun x => wrT mk x n)).length := fun n c => by
      have := (hk y (by rw [hq]; simp)).1.len n
      rw [hq]; simp [joinB]; omega
    rcases h1 with h1 | h1
    · have hw : ∀ x ∈ (wrT mk y 1, reOf y) :: r.map (fun x => (wrT mk x 1, reOf x)), RB mk N x.1 x.2 := by
        intro x hx
        have hx' : x ∈ t.kids.map (fun x => (wrT mk x 1, reOf x)) := by rw [hq]; simpa using hx
        obtain ⟨z, hz, rfl⟩ := List.mem_map.1 hx'
        obtain ⟨q1, q2⟩ := hk z hz
        exact q1.b.mono (by omega)
      have hRA := ra_any (mk := mk) (N := N) _ _ hw
      have e1 : ((wrT mk y 1, reOf y) :: r.map (fun x => (wrT mk x 1, reOf x))) = t.kids.map (fun x => (wrT mk x 1, reOf x)) := by rw [hq]; rfl
      rw [e1, pairs_1, pairs_2, gather_many (by rw [List.length_map]; omega)] at hRA
      refine rd_of (own := 0) (l := joinB 124 (t.kids.map fun x => wrT mk x 1)) (by omega) (fun place => ?_) (fst_join h0 fun x hx => (hk x hx).1.f 1) (hlen 1 124) (by omega) (by omega) (by omega) (by omega) (fun _ => ?_)
      · rw [wrT_eq, h1]; simp [placeK, bodyB, Function.comp_def]
      · rw [er, h1, h3, h4, h5]; exact hRA
    · have hw : ∀ x ∈ (wrT mk y 2, reOf y) :: r.map (fun x => (wrT mk x 2, reOf x)), RR mk N x.1 x.2 := by
        intro x hx
        have hx' : x ∈ t.kids.map (fun x => (wrT mk x 2, reOf x)) := by rw [hq]; simpa using hx
        obtain ⟨z, hz, rfl⟩ := List.mem_map.1 hx'
        obtain ⟨q1, q2⟩ := hk z hz
        exact q1.r.mono (by omega)
      have hRB := rb_both (mk := mk) (N := N) _ _ hw
      have e1 : ((wrT mk y 2, reOf y) :: r.map (fun x => (wrT mk x 2, reOf x))) = t.kids.map (fun x => (wrT mk x 2, reOf x)) := by rw [hq]; rfl
      rw [e1, pairs_1, pairs_2, gather_many (by rw [List.length_map]; omega)] at hRB
      refine rd_of (own := 1) (l := joinB 38 (t.kids.map fun x => wrT mk x 2)) (by omega) (fun place => ?_) (fst_join h0 fun x hx => (hk x hx).1.f 2) (hlen 2 38) (by omega) (by omega) (by omega) (fun _ => ?_) (by omega)
      · rw [wrT_eq, h1]; simp [placeK, bodyB, Function.comp_def]
      · rw [er, h1, h3, h4, h5]; exact hRB
  · -- not
    have hl1 : t.kids.length = 1 := by simpa using h2
    obtain ⟨y, hq⟩ := List.length_eq_one_iff.1 hl1
    obtain ⟨q1, q2⟩ := hk y (by rw [hq]; simp)
    refine rd_of (own := 4) (l := 126 :: wrT mk y 4) (by omega) (fun place => ?_) (fun s i hA => ?_) (by simp) (fun _ => ?_) (by omega) (by omega) (by omega) (by omega)
    · rw [wrT_eq, h1, hq]; simp [placeK, bodyB]
    · obtain ⟨e1, _, e2⟩ := At.cp hA (by omega)
      rw [e1]
      exact ⟨e2, by omega, by omega, by omega, by omega, by omega, by decide⟩
    · intro s i n hn hA hi
      obtain ⟨n', rfl⟩ : ∃ n', n = n' + 1 := ⟨n - 1, by omega⟩
      have c1 : cpAt s i = 126 := by simpa using (At.cp hA (by omega)).1
      obtain ⟨hlt, hA1⟩ := At.cons.1 hA
      have hu := q1.u s (i + 1) n' (by omega) hA1 (by omega)
      rw [unitS, if_pos c1, hu, er, h1, h3, h4, h5, hq]
      simp [notRe]
      omega
  · -- repeated
    have hl1 : t.kids.length = 1 := by simpa using h2
    obtain ⟨y, hq⟩ := List.length_eq_one_iff.1 hl1
    obtain ⟨q1, q2⟩ := hk y (by rw [hq]; simp)
    have hT : TimesOk t.mn t.mx := ⟨h3, h3', h4⟩
    have htl := times_len t.mn t.mx
    refine rd_of (own := 3) (l := wrT mk y 3 ++ timesB t.mn t.mx) (by omega) (fun place => ?_) (fst_append (q1.f 3)) (by have := q1.len 3; simp; omega) (by omega) (fun _ => ?_) (by omega) (by omega) (by omega)
    · rw [wrT_eq, h1, hq]; simp [placeK, bodyB]
    · intro s i n hn hA hi
      obtain ⟨hA1, hA2⟩ := At.append.1 hA
      obtain ⟨u, i1, m, g1, g2, g3⟩ := q1.p s i n (by omega) hA1 hi
      refine ⟨u, i1, m + 1, g1, by rw [List.length_append]; omega, fun f => ?_⟩
      rw [show f + (m + 1) = f + 1 + m by omega, g3, times_at hT hA2, er, h1, h5, hq, List.length_append, Nat.add_assoc]
      rfl

end Go.Proofs.YtbjohedenfindaaGreatDoor

namespace Go.Proofs.YtbjohedenfindaaGreatDoor
set_option linter.unusedVariables false

variable {mk : List Rg → Bool → List Rg}

/-- how long the texts of its sets are, in all, so many levels deep -/
def sN (mk : List Rg → Bool → List Rg) : Nat → Re → Nat
  | 0, _ => 0
  | n + 1, t => (if t.kind = 1 then (setB mk t.set).length else 0) + (t.kids.map fun o => match o with | none => 0 | some x => sN mk n x).sum
/-- all sets of a tree are so short -/
def Few (B : Nat) : Nat → Re → Prop
  | 0, _ => True
  | n + 1, t => t.set.length ≤ B ∧ ∀ o ∈ t.kids, ∀ k, o = some k → Few B n k
def FewT (B : Nat) (t : Re) : Prop := ∀ n, Few B n t
theorem itemsB_len : ∀ (l : List Rg), (∀ r ∈ l, RngOk r) → (itemsB l).length ≤ 21 * l.length
  | [], _ => by simp [itemsB]
  | r :: t, h => by
    have h1 := itemB_len r (h r (by simp))
    have h2 := itemsB_len t fun x hx => h x (by simp [hx])
    have e : itemsB (r :: t) = itemB r ++ itemsB t := by simp [itemsB]
    rw [e, List.length_append, List.length_cons]
    omega
end Go.Proofs.YtbjohedenfindaaGreatDoor
