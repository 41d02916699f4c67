import Derived.Test.YtbiiapdeincpbaaRAlike
import Derived.Test.YtbiiapdeincpbaaRCls
namespace Go.Proofs.Ytbiiapdeincpbaa
open Go.RowKit
set_option linter.unusedVariables false
set_option maxRecDepth 100000

theorem SetsAt.below {w w' : World} {v : Value} {ls : List (List Rg)} (h : SetsAt w v ls) (hb : Below w.heap.size w w') : SetsAt w' v ls := by
  rcases h with h | ⟨b, off, c, rfl, hlt, hc⟩
  · exact Or.inl h
  · have := hb.size
    refine Or.inr ⟨b, off, c, rfl, by omega, fun j hj => ?_⟩
    obtain ⟨vj, h1, h2⟩ := hc j hj
    exact ⟨vj, (hb.cell (p := ⟨b, off + j, none⟩) hlt).trans h1, h2.below hb⟩
theorem sets_slice {w : World} {v : Value} {ls : List (List Rg)} (h : SetsAt w v ls) : ∃ a c, v = .slice a ls.length c := by
  rcases h with ⟨rfl, a, c, rfl⟩ | ⟨b, off, c, rfl, _⟩
  · exact ⟨a, c, rfl⟩
  · exact ⟨_, _, rfl⟩
theorem sets_cell {w : World} {a : Option Addr} {c : Nat} {ls : List (List Rg)} (h : SetsAt w (.slice a ls.length c) ls) {j : Nat} (hj : j < ls.length) : ∃ b off vj, a = some ⟨b, off, none⟩ ∧ b < w.heap.size ∧ w.cell? ⟨b, off + j, none⟩ = some vj ∧ Rngs w vj (ls.getD j []) := by
  rcases h with ⟨rfl, _⟩ | ⟨b, off, c', e, hlt, hc⟩
  · simp at hj
  · simp at e
    obtain ⟨rfl, rfl⟩ := e
    obtain ⟨vj, h1, h2⟩ := hc j hj
    exact ⟨b, off, vj, rfl, hlt, h1, h2⟩

theorem apart_len2 : ∀ (l : List Rg) (a to : Int), Apart l → (∀ r ∈ l, a ≤ r.1 ∧ r.2 < to) → a ≤ to → a + 2 * (l.length : Int) ≤ to + 1
  | [], a, to, _, _, h => by simp; omega
  | r :: t, a, to, hA, hb, h => by
    have h1 := hb r (by simp)
    have h2 := hA.2 r (by simp)
    have hp := (List.pairwise_cons.1 hA.1).1
    by_cases ht : t = []
    · subst ht; simp; omega
    · have h3 : a + 2 ≤ to := by
        obtain ⟨x, hx⟩ := List.exists_mem_of_ne_nil t ht
        have h4 := hp x hx
        have h5 := hb x (by simp [hx])
        have h6 := hA.2 x (by simp [hx])
        omega
      have ih := apart_len2 t (a + 2) to hA.tail (fun x hx => by
        have h4 := hp x hx
        have h5 := hb x (by simp [hx])
        omega) h3
      simp
      omega
theorem upto_len2 {l : List Rg} {to : Int} {f : Int → Bool} (h : Upto l to f) (h0 : 0 ≤ to) (ht : to ≤ 1114112) : l.length ≤ 1000000 := by
  have := apart_len2 l 0 to h.apart h.low h0
  omega

theorem own_first {w : World} {B : Nat} {v : Value} {l : List Rg} (h : OwnR w B v l) (hne : l ≠ []) : ∃ g3 cap3, v = .slice (some ⟨g3, 0, none⟩) l.length cap3 ∧ g3 < w.heap.size ∧ w.cell? ⟨g3, 0, none⟩ = some (.int .i64 (fstP l)) := by
  have hlt := World.ownsRow.lt h
  have hpos := List.length_pos_iff.2 hne
  rcases h.2 with ⟨_, h0⟩ | ⟨g3, cap3, cur3, rfl, _⟩
  · omega
  · refine ⟨g3, cap3, rfl, (hlt g3 rfl).2, ?_⟩
    rw [World.ownsRow.cellAt h 0 (by omega)]
    cases l with
    | nil => exact absurd rfl hne
    | cons r t => simp [cellsR, fstP]

theorem own_slice2 {w : World} {B : Nat} {v : Value} {l : List Rg} (h : OwnR w B v l) : ∃ a c, v = .slice a l.length c := by
  rcases h.2 with ⟨rfl, h0⟩ | ⟨g, cap, cur, rfl, _⟩
  · exact ⟨none, 0, by rw [h0]⟩
  · exact ⟨_, _, rfl⟩

theorem Try.infoRangesR : (Try.prog.info? 28).map (fun i => (i.zero, i.size, i.bytes)) = some (some (.slice none 0 0), 1, 24) := by kernel_rfl

theorem ints_cells {w : World} {B g c : Nat} {E : List Int} (hI : IntsC w B (.slice (some ⟨g, 0, none⟩) E.length c) E) : g < w.heap.size ∧ ∀ j, j < E.length → w.cell? ⟨g, j, none⟩ = some (.int .i64 (E.getD j 0)) := by
  obtain ⟨g', c', e1, h1, h2, h3, h4, h5, h6⟩ := hI
  simp only [Value.slice.injEq, Option.some.injEq, Addr.mk.injEq, true_and, and_true] at e1
  obtain ⟨rfl, rfl⟩ := e1
  exact ⟨h4, h6⟩

/-- one class' row grown, and stored -/
theorem ref_set {w wq w4 : World} {B g c g2 cap2 m d : Nat} {E : List Int} {cs : List (List Rg)} {vs : List Value} {v4 : Value} {l' : List Rg} (hm : m < cs.length) (hrow : wq.ownsRow B 28 1 (.slice (some ⟨g2, 0, none⟩) cs.length cap2) cs.length vs) (hrows : ∀ i, i < cs.length → OwnR wq B (vs.getD i (.slice none 0 0)) (cs.getD i []))
    (hne : ∀ i, i < cs.length → cs.getD i [] ≠ []) (hap : ∀ i j, i < cs.length → j < cs.length → i ≠ j → fstP (cs.getD i []) ≠ fstP (cs.getD j [])) (hI : IntsC wq B (.slice (some ⟨g, 0, none⟩) E.length c) E) (hbw : Below B w wq) (hB : B ≤ wq.heap.size)
    (hg1 : (wq.drewN d).grownBy w4 (vs.getD m (.slice none 0 0)).ownBlock) (hO1 : OwnR w4 B v4 l') :
    (w4.cell? ⟨g2, m, none⟩ = some (vs.getD m (.slice none 0 0)) ∧ w4.frozen? ⟨g2, m, none⟩ = false) ∧ ClsAt (w4.setCell ⟨g2, m, none⟩ v4) B (.slice (some ⟨g2, 0, none⟩) cs.length cap2) (cs.set m l') ∧ IntsC (w4.setCell ⟨g2, m, none⟩ v4) B (.slice (some ⟨g, 0, none⟩) E.length c) E ∧ Below B w (w4.setCell ⟨g2, m, none⟩ v4) := by
  have hg : wq.grownBy w4 (vs.getD m (.slice none 0 0)).ownBlock := ⟨hg1.os, hg1.tape, hg1.output, hg1.size, hg1.block⟩
  obtain ⟨S, h1, h2, h3⟩ := cls_set hm hrow hrows hne hap hg hO1
  have hvm := hrows m hm
  have hrow4 : w4.ownsRow B 28 1 (.slice (some ⟨g2, 0, none⟩) cs.length cap2) cs.length vs := hrow.kept hg (Or.inr (fun e => by
    obtain ⟨c1, f1, k1⟩ := Lib.ownsRow_kind hvm g2 (by rw [← e]; rfl)
    obtain ⟨c2, f2, k2⟩ := Lib.ownsRow_kind hrow g2 rfl
    rw [k1] at k2
    simp at k2))
  have hl := hrow.1
  simp at hl
  refine ⟨⟨?_, hrow4.frozenAt m⟩, h1, h3.ints h2 hI, hbw.trans (h3.below h2 hB)⟩
  rw [hrow4.cellAt m (by omega)]
  simp [show m < vs.length from by omega]

/-- a new class -/
theorem ref_snoc {w wq W4 w6 : World} {B g c g5 cap5 d : Nat} {v v6 : Value} {E : List Int} {cs : List (List Rg)} {vs : List Value} {l' : List Rg} (hrow : wq.ownsRow B 28 1 v cs.length vs) (hrows : ∀ i, i < cs.length → OwnR wq B (vs.getD i (.slice none 0 0)) (cs.getD i []))
    (hI : IntsC wq B (.slice (some ⟨g, 0, none⟩) E.length c) E) (hbw : Below B w wq) (hB : B ≤ wq.heap.size)
    (hg4 : wq.grownBy W4 v.ownBlock) (hown4 : W4.ownsRow B 28 1 (.slice (some ⟨g5, 0, none⟩) (cs.length + 1) cap5) (cs.length + 1) (vs ++ [.slice none 0 0])) (hg6 : (W4.drewN d).grownBy w6 none) (hO6 : OwnR w6 B v6 l') :
    (w6.cell? ⟨g5, cs.length, none⟩ = some (.slice none 0 0) ∧ w6.frozen? ⟨g5, cs.length, none⟩ = false) ∧ ClsAt (w6.setCell ⟨g5, cs.length, none⟩ v6) B (.slice (some ⟨g5, 0, none⟩) (cs.length + 1) cap5) (cs ++ [l']) ∧ IntsC (w6.setCell ⟨g5, cs.length, none⟩ v6) B (.slice (some ⟨g, 0, none⟩) E.length c) E ∧ Below B w (w6.setCell ⟨g5, cs.length, none⟩ v6) := by
  have hg : W4.grownBy w6 none := ⟨hg6.os, hg6.tape, hg6.output, hg6.size, hg6.block⟩
  obtain ⟨S, h1, h2, h3⟩ := cls_snoc hrow hrows hg4 hown4 hg hO6
  have hrow6 : w6.ownsRow B 28 1 (.slice (some ⟨g5, 0, none⟩) (cs.length + 1) cap5) (cs.length + 1) (vs ++ [.slice none 0 0]) := hown4.kept hg (Or.inr (by simp [Value.ownBlock]))
  have hl := hrow.1
  simp at hl
  refine ⟨⟨?_, hrow6.frozenAt _⟩, h1, h3.ints h2 hI, hbw.trans (h3.below h2 hB)⟩
  rw [hrow6.cellAt _ (by omega), ← hl]
  simp

/-- behind the append -/
theorem ref_app {wq W4 : World} {B g c g5 cap5 : Nat} {v : Value} {E : List Int} {m : Nat} {vs : List Value} (hrow : wq.ownsRow B 28 1 v m vs)
    (hI : IntsC wq B (.slice (some ⟨g, 0, none⟩) E.length c) E) (hg4 : wq.grownBy W4 v.ownBlock) (hown4 : W4.ownsRow B 28 1 (.slice (some ⟨g5, 0, none⟩) (m + 1) cap5) (m + 1) (vs ++ [.slice none 0 0])) :
    IntsC W4 B (.slice (some ⟨g, 0, none⟩) E.length c) E ∧ W4.cell? ⟨g5, m, none⟩ = some (.slice none 0 0) ∧ g5 < W4.heap.size := by
  have hl := hrow.1
  simp at hl
  refine ⟨hI.keep (fun k cur hk => hg4.block k (Array.getElem?_eq_some_iff.1 hk).1 (fun e => ?_)) hg4.size, ?_, (World.ownsRow.lt hown4 g5 rfl).2⟩
  · obtain ⟨c1, f1, k1⟩ := Lib.ownsRow_kind hrow k e.symm
    rw [hk] at k1
    simp at k1
  · rw [hown4.cellAt _ (by omega), ← hl]
    simp

set_option maxHeartbeats 4000000 in
theorem rclasses_any (vl : Value) (ls : List (List Rg)) (w : World) (hl : ls.length ≤ 12) (hll : ∀ l ∈ ls, l.length ≤ 12) (hs : SetsAt w vl ls) :
    Calls Try.prog 27 #[vl] w fun e w' => ∃ v cs, e = .returned v ∧ ClsAt w' w.heap.size v cs ∧ Part ls cs 1114112 ∧ Below w.heap.size w w' ∧ cs.length ≤ 1000 := by
  have HSB : Hid (∀ {W : World}, Below w.heap.size w W → SetsAt W vl ls) := fun hb => hs.below hb
  obtain ⟨la, lc, rfl⟩ := sets_slice hs
  have HLL : Hid (∀ l ∈ ls, l.length ≤ 12) := hll
  clear hs hll
  go_enter Try.func27, Try.ntmps27
  go_wp2_with fail
  refine (ends_any _).mono ?_
  rintro e w1 ⟨v1, rfl, hI1, hb1⟩
  have hs1 := hb1.size
  go_wp2
  go_loopw [3, 4] (fun x i wr => ∃ k : Nat, k ≤ ls.length ∧ i = .int .i64 k ∧ IntsC wr w.heap.size x (edgesAll [0, 1114112] (ls.take k)) ∧ Below w.heap.size w wr) (fun _ i _ => ls.length - (intOf i).toNat)
  case atStart => exact ⟨0, Nat.zero_le _, rfl, hI1, hb1⟩
  case round =>
    obtain ⟨k, hk, rfl, hI, hbw⟩ := hrel
    clear hI1 hb1 hs1
    have hsz := hbw.size
    by_cases hlt : k < ls.length
    · have HT : Hid (edgesAll [0, 1114112] (ls.take (k + 1)) = edgesL (edgesAll [0, 1114112] (ls.take k)) (ls.getD k [])) := edgesAll_take _ _ _ hlt
      obtain ⟨b, off, vj, rfl, hbl, hcj, hR⟩ := sets_cell (HSB.out hbw) hlt
      have hlk : (ls.getD k []).length ≤ 12 := HLL.out _ (by simp [hlt])
      have hcu : Hid (Cuts (edgesAll [0, 1114112] (ls.take k))) := edgesAll_cuts _ Cuts.ends
      have hle := edgesAll_len (ls.take k) [0, 1114112] 12 (fun l h => HLL.out l (List.mem_of_mem_take h))
      have htk : (ls.take k).length ≤ k := List.length_take_le _ _
      simp only [List.length_cons, List.length_nil] at hle
      have hlz : (edgesAll [0, 1114112] (ls.take k)).length ≤ 1000 := by omega
      clear hle htk
      generalize edgesAll [0, 1114112] (ls.take k) = zk at *
      generalize ls.getD k [] = l at *
      go_wp2_with fail
      refine (edges_any w.heap.size _ vj zk l _ (by omega) (by omega) hsz hI hcu.out hR).mono ?_
      rintro e w2 ⟨v2, rfl, hI2, hb2⟩
      have hbw2 := hbw.trans (hb2.mono hsz)
      clear hI hbw hb2 hcj hR
      go_wp2
      go_roundw
      case rel => exact ⟨k + 1, by omega, by go_num, by rw [HT.out]; exact hI2, hbw2⟩
      case measure => simp [intOf]; omega
    · have e1 : ls.take k = ls := List.take_of_length_le (by omega)
      rw [e1] at hI
      clear e1
      have hcE := edgesAll_cuts ls Cuts.ends
      have hvE := edgesAll_covers ls [0, 1114112]
      have hlE := edgesAll_len ls [0, 1114112] 12 HLL.out
      simp only [List.length_cons, List.length_nil] at hlE
      have hEl : (edgesAll [0, 1114112] ls).length ≤ 300 := by omega
      clear hlE
      generalize edgesAll [0, 1114112] ls = E at *
      have hlen2 := cuts_len hcE
      have hE0 := cuts_first hcE
      have HEl : Hid (∀ k, k + 1 = E.length → E.getD k 0 = 1114112) := cuts_last hcE
      have HC : Hid (∀ k, k + 1 < E.length → ∀ p, E.getD k 0 ≤ p → p ≤ E.getD (k + 1) 0 - 1 → sameB ls (E.getD k 0) p = true) := fun k hk p h1 h2 => all_const hcE hvE hk p h1 h2
      have HLT : Hid (∀ k, k + 1 < E.length → E.getD k 0 < E.getD (k + 1) 0) := fun k hk => sorted_get hcE.sorted k (k + 1) (by omega) hk
      have HBD : Hid (∀ i, i < E.length → 0 ≤ E.getD i 0 ∧ E.getD i 0 ≤ 1114112) := fun i hi => hcE.bd _ (by simp [hi])
      clear hcE hvE
      obtain ⟨g, c, rfl, gc1, gc2, gB, gs, gcur, gcell⟩ := hI
      have hI : IntsC wr w.heap.size (.slice (some ⟨g, 0, none⟩) E.length c) E := ⟨g, c, rfl, gc1, gc2, gB, gs, gcur, gcell⟩
      clear gcell gcur gs
      go_wp2
      go_loopw [5, 6] (fun x i wq => ∃ (k : Nat) (cs : List (List Rg)), k + 1 ≤ E.length ∧ i = .int .i64 k ∧ Hid (ClsAt wq w.heap.size x cs) ∧ IntsC wq w.heap.size (.slice (some ⟨g, 0, none⟩) E.length c) E ∧ Below w.heap.size w wq ∧ Hid (Part ls cs (E.getD k 0)) ∧ cs.length ≤ k) (fun _ i _ => E.length - (intOf i).toNat)
      case atStart =>
        refine ⟨0, [], by omega, rfl, ⟨[], World.ownsRow_nil _ _ _ _, by simp⟩, hI, hbw, ?_, by simp⟩
        rw [hE0]; exact part_nil ls
      case round =>
        obtain ⟨k, cs, hk, rfl, HCL, hI2, hbw2, HP, hcl⟩ := hrel
        clear hI hbw hsz hE0
        have hsz := hbw2.size
        obtain ⟨oa, ocap, rfl⟩ := cls_slice HCL.out
        by_cases hlt2 : k + 1 < E.length
        · have HK : Hid (∀ p, E.getD k 0 ≤ p → p ≤ E.getD (k + 1) 0 - 1 → sameB ls (E.getD k 0) p = true) := HC.out k hlt2
          have hx01 := HLT.out k hlt2
          obtain ⟨bk0, bk1⟩ := HBD.out k (by omega)
          obtain ⟨bk2, bk3⟩ := HBD.out (k + 1) hlt2
          clear HC HLT HBD HEl
          generalize hx0 : E.getD k 0 = x0 at *
          generalize hx1 : E.getD (k + 1) 0 = x1 at *
          have HX0 : Hid (E.getD k 0 = x0) := hx0
          have HX1 : Hid (E.getD (k + 1) 0 = x1) := hx1
          clear hx1 hx0
          have hi1 : (k : Int) + 1 < (E.length : Int) := by omega
          have hkE : k < E.length := by omega
          have HCLI : Hid (ClsAt wr w.heap.size (.slice oa cs.length ocap) cs) := HCL
          clear HCL
          go_wp2
          go_loopw [7] (fun j wi => ∃ (m : Nat), m ≤ cs.length ∧ j = .int .i64 m ∧ Hid (ClsAt wi w.heap.size (.slice oa cs.length ocap) cs) ∧ Hid (IntsC wi w.heap.size (.slice (some ⟨g, 0, none⟩) E.length c) E) ∧ Below w.heap.size w wi ∧ Hid (∀ c, c < m → sameB ls (fstP (cs.getD c [])) x0 = false)) (fun j _ => cs.length - (intOf j).toNat)
          case atStart => exact ⟨0, Nat.zero_le _, rfl, HCLI, hI2, hbw2, (fun c h => by omega)⟩
          case round =>
            obtain ⟨m, hm, rfl, HCL, HI2, hbw3, HNO⟩ := hrel
            obtain ⟨wq, rfl⟩ : ∃ wq, wq = wr := ⟨_, rfl⟩
            clear HCLI hI2 hbw2 hsz
            have hsz := hbw3.size
            obtain ⟨gs, hcells⟩ := ints_cells HI2.out
            have ck := hcells k hkE
            have ck1 := hcells (k + 1) hlt2
            rw [HX0.out] at ck
            rw [HX1.out] at ck1
            clear hcells
            by_cases hmlt : m < cs.length
            · obtain ⟨g2, cap2, cur2, vs, hov, hBg2, hgb2, hcur2, hrow, hrows⟩ := cls_row HCL.out hmlt
              simp only [Value.slice.injEq, true_and] at hov
              obtain ⟨rfl, rfl⟩ := hov
              have cg2 : wq.cell? ⟨g2, m, none⟩ = some (vs.getD m (.slice none 0 0)) := by simp only [World.cell?, hgb2]; simpa using hcur2
              have hg2s : g2 < wq.heap.size := (Array.getElem?_eq_some_iff.1 hgb2).1
              have hvm := hrows m hmlt
              have hnem := HP.out.ne m hmlt
              obtain ⟨f0, f1, _⟩ := fst_in (HP.out.upto m hmlt) hnem
              obtain ⟨g3, cap3, hv3, hg3s, cg3⟩ := own_first hvm hnem
              have hlen3 : 0 < (cs.getD m []).length := List.length_pos_iff.2 hnem
              have HSET : Hid (∀ {w4 : World} {v4 : Value} {d : Nat} {l' : List Rg}, (wq.drewN d).grownBy w4 (vs.getD m (.slice none 0 0)).ownBlock → OwnR w4 w.heap.size v4 l' → (w4.cell? ⟨g2, m, none⟩ = some (vs.getD m (.slice none 0 0)) ∧ w4.frozen? ⟨g2, m, none⟩ = false) ∧ ClsAt (w4.setCell ⟨g2, m, none⟩ v4) w.heap.size (.slice (some ⟨g2, 0, none⟩) cs.length ocap) (cs.set m l') ∧ IntsC (w4.setCell ⟨g2, m, none⟩ v4) w.heap.size (.slice (some ⟨g, 0, none⟩) E.length c) E ∧ Below w.heap.size w (w4.setCell ⟨g2, m, none⟩ v4)) := fun h1 h2 => ref_set hmlt hrow hrows HP.out.ne (fun i j hi hj hij => by
                rcases (show i < j ∨ j < i from by omega) with q | q
                · have := (HP.out.ord i j q hj).1; omega
                · have := (HP.out.ord j i q hi).1; omega) HI2.out hbw3 hsz h1 h2
              have HO3 : Hid (∀ d, OwnR (wq.drewN d) w.heap.size (vs.getD m (.slice none 0 0)) (cs.getD m [])) := fun d => hvm
              have hol : (cs.getD m []).length ≤ 1000000 := upto_len2 (HP.out.upto m hmlt) bk0 (by omega)
              have hobd : ∀ r ∈ cs.getD m [], 0 ≤ r.2 ∧ r.2 ≤ 1114111 := upto_bd (HP.out.upto m hmlt) (by omega)
              have HPO : Hid (sameB ls (fstP (cs.getD m [])) x0 = true → Part ls (cs.set m (growL (cs.getD m []) x0 (x1 - 1))) x1) := fun hsm => by
                have := part_old HP.out hmlt hsm bk0 (by omega : x0 ≤ x1 - 1) HK.out
                rw [show x1 - 1 + 1 = x1 from by omega] at this
                exact this
              have HNN : Hid (sameB ls (fstP (cs.getD m [])) x0 = false → ∀ c, c < m + 1 → sameB ls (fstP (cs.getD c [])) x0 = false) := fun hs c hc => by
                by_cases e : c = m
                · rw [e]; exact hs
                · exact HNO.out c (by omega)
              have HAL : Hid (∀ n, Calls Try.prog 49 #[.slice la ls.length lc, .int .i64 (fstP (cs.getD m [])), .int .i64 x0] (wq.drewN n) fun e w' => e = .returned (.bool (sameB ls (fstP (cs.getD m [])) x0)) ∧ w' = wq.drewN n) := fun n => alike_any _ ls _ _ _ (by omega) (fun l h => by have := HLL.out l h; omega) (HSB.out (below_drewN hbw3 n)) f0 (by omega) bk0 (by omega)
              clear hvm hrow hrows hcur2 hgb2 hnem HNO
              rw [hv3] at cg2 HSET HO3
              generalize fstP (cs.getD m []) = fm at *
              generalize cs.getD m [] = lm at *
              cases hsm : sameB ls fm x0
              · rw [hsm] at HAL
                have HN2 : Hid (∀ c, c < m + 1 → sameB ls (fstP (cs.getD c [])) x0 = false) := HNN.out hsm
                clear HPO HNN HSET HO3 hsm hol hobd
                go_wp2
                go_quiet (exact Calls.quiet_of_same (HAL.out _))
                go_wp2
                go_roundw
                case rel => exact ⟨m + 1, by omega, by go_num, HCL, HI2, below_drewN hbw3 nq, HN2⟩
                case measure => simp [intOf]; omega
              · rw [hsm] at HAL
                have HP2 : Hid (Part ls (cs.set m (growL lm x0 (x1 - 1))) x1) := HPO.out hsm
                have hgl := growL_len lm x0 (x1 - 1)
                clear HPO HNN hsm HP HCL HI2
                go_wp2
                go_quiet (exact Calls.quiet_of_same (HAL.out _))
                have hmne : ¬ m = cs.length := by omega
                have hwr : IntKind.i64.wrap (x1 - 1) = x1 - 1 := wrap_k64 _ (by omega) (by omega)
                have hwr2 : IntKind.i64.wrap ((k : Int) + 1) = (k : Int) + 1 := wrap_k64 _ (by omega) (by omega)
                have hk0 : (0 : Int) ≤ (k : Int) + 1 := by omega
                go_wp2
                clear HAL cg3 hg3s HK
                go_region_with (go_at_call 39; refine (grow_any w.heap.size (.slice (some ⟨g3, 0, none⟩) lm.length cap3) lm x0 (x1 - 1) _ ?_ ?_ ?_ ?_).mono ?_; exact HO3.out 0; exact hsz; exact hol; exact hobd; rintro e w4 ⟨v4, rfl, hO4, hg4⟩; obtain ⟨⟨t1, t2⟩, t3, t4, t5⟩ := HSET.out (d := 0) ⟨hg4.os, hg4.tape, hg4.output, hg4.size, hg4.block⟩ hO4; rcases own_slice2 hO4 with ⟨a4, c4, rfl⟩)
                all_goals
                  have T3 : Hid (ClsAt (w4.setCell ⟨g2, m, none⟩ (.slice a4 _ c4)) w.heap.size (.slice (some ⟨g2, 0, none⟩) cs.length ocap) (cs.set m (growL lm x0 (x1 - 1)))) := t3
                  clear hg4 hO4 t1 t2 t3
                  go_wp2
                  go_roundw
                  case rel => exact ⟨k + 1, _, by omega, by go_num, T3, t4, t5, by rw [HX1.out]; exact HP2, by simp; omega⟩
                  case measure => simp [intOf]; omega
            · obtain rfl : m = cs.length := by omega
              obtain ⟨i0, hi0, hz0, hz1, hz2⟩ := info_parts Try.infoRangesR
              obtain ⟨vs, hrow, hrows⟩ := HCL.out
              have HSN : Hid (∀ {W4 w6 : World} {v6 : Value} {g5 cap5 d : Nat} {l' : List Rg}, wq.grownBy W4 (Value.slice oa cs.length ocap).ownBlock → W4.ownsRow w.heap.size 28 1 (.slice (some ⟨g5, 0, none⟩) (cs.length + 1) cap5) (cs.length + 1) (vs ++ [.slice none 0 0]) → (W4.drewN d).grownBy w6 none → OwnR w6 w.heap.size v6 l' → (w6.cell? ⟨g5, cs.length, none⟩ = some (.slice none 0 0) ∧ w6.frozen? ⟨g5, cs.length, none⟩ = false) ∧ ClsAt (w6.setCell ⟨g5, cs.length, none⟩ v6) w.heap.size (.slice (some ⟨g5, 0, none⟩) (cs.length + 1) cap5) (cs ++ [l']) ∧ IntsC (w6.setCell ⟨g5, cs.length, none⟩ v6) w.heap.size (.slice (some ⟨g, 0, none⟩) E.length c) E ∧ Below w.heap.size w (w6.setCell ⟨g5, cs.length, none⟩ v6)) := fun h1 h2 h3 h4 => ref_snoc hrow hrows HI2.out hbw3 hsz h1 h2 h3 h4
              have HAP : Hid (∀ {W4 : World} {g5 cap5 : Nat}, wq.grownBy W4 (Value.slice oa cs.length ocap).ownBlock → W4.ownsRow w.heap.size 28 1 (.slice (some ⟨g5, 0, none⟩) (cs.length + 1) cap5) (cs.length + 1) (vs ++ [.slice none 0 0]) → IntsC W4 w.heap.size (.slice (some ⟨g, 0, none⟩) E.length c) E ∧ W4.cell? ⟨g5, cs.length, none⟩ = some (.slice none 0 0) ∧ g5 < W4.heap.size) := fun h1 h2 => ref_app hrow HI2.out h1 h2
              have HPN : Hid (Part ls (cs ++ [[(x0, x1 - 1)]]) x1) := by
                have := part_new HP.out (fun c hc => HNO.out c hc) bk0 (by omega : x0 ≤ x1 - 1) HK.out
                rw [show x1 - 1 + 1 = x1 from by omega] at this
                exact this
              have hcl2 : cs.length ≤ 1000 := by omega
              clear HP HNO HK HCL HI2 hrows hm hmlt ck ck1
              go_wp2_with (at_builtin; refine wpList_append_own _ rfl _ _ 37 rfl w.heap.size 28 i0 (.slice none 0 0) 1 24 Try.underlying37 hi0 hz0 hz1 hz2 rfl (by decide) _ cs.length vs rfl ?c0 ⟨wq.heap.size, 0, none⟩ 1 1 [.slice none 0 0] rfl rfl ?c1 ?c2 ?c3 ?c4 ?c5 ?_)
              case c0 => exact hrow.alloc _
              case c1 =>
                intro j u hj
                match j, hj with
                | 0, hj => simp at hj; subst hj; rw [add_off', new_cell _ _ _ _ _ rfl]; rfl
              case c2 => intro u hu; simp at hu; subst hu; rfl
              case c3 => unfold maxLen; omega
              case c4 => omega
              case c5 => simp; omega
              · intro v' W4 hown' hgrow _
                have hg3 : wq.grownBy W4 (Value.slice oa cs.length ocap).ownBlock := (World.grownBy_alloc wq _ _).trans hgrow
                obtain ⟨g5, cap5, rfl⟩ : ∃ g5 cap5, v' = .slice (some ⟨g5, 0, none⟩) (cs.length + 1) cap5 := by
                  rcases hown'.2 with ⟨_, h0⟩ | ⟨g5, cap5, cur5, rfl, _⟩
                  · omega
                  · exact ⟨g5, cap5, rfl⟩
                obtain ⟨hI4, cg5, hg5s⟩ := HAP.out hg3 hown'
                obtain ⟨gs4, hcells⟩ := ints_cells hI4
                have ck := hcells k hkE
                have ck1 := hcells (k + 1) hlt2
                rw [HX0.out] at ck
                rw [HX1.out] at ck1
                have hs4 := hg3.size
                have hsz4 : w.heap.size ≤ W4.heap.size := by omega
                have HST : Hid (∀ {w6 : World} {v6 : Value} {d : Nat} {l' : List Rg}, (W4.drewN d).grownBy w6 none → OwnR w6 w.heap.size v6 l' → (w6.cell? ⟨g5, cs.length, none⟩ = some (.slice none 0 0) ∧ w6.frozen? ⟨g5, cs.length, none⟩ = false) ∧ ClsAt (w6.setCell ⟨g5, cs.length, none⟩ v6) w.heap.size (.slice (some ⟨g5, 0, none⟩) (cs.length + 1) cap5) (cs ++ [l']) ∧ IntsC (w6.setCell ⟨g5, cs.length, none⟩ v6) w.heap.size (.slice (some ⟨g, 0, none⟩) E.length c) E ∧ Below w.heap.size w (w6.setCell ⟨g5, cs.length, none⟩ v6)) := fun h3 h4 => HSN.out hg3 hown' h3 h4
                have HON : Hid (∀ d, OwnR (W4.drewN d) w.heap.size (.slice none 0 0) []) := fun d => World.ownsRow_nil _ _ _ _
                have hwr : IntKind.i64.wrap (x1 - 1) = x1 - 1 := wrap_k64 _ (by omega) (by omega)
                have hwr2 : IntKind.i64.wrap ((k : Int) + 1) = (k : Int) + 1 := wrap_k64 _ (by omega) (by omega)
                have hk0 : (0 : Int) ≤ (k : Int) + 1 := by omega
                clear hcells hI4 hg3 hgrow hown' HSN HAP hrow gs
                go_wp2
                go_region_with (go_at_call 39; refine (grow_any w.heap.size (.slice none 0 0) [] x0 (x1 - 1) _ ?_ ?_ ?_ ?_).mono ?_; exact HON.out 0; exact hsz4; exact Nat.zero_le _; exact (fun r h => by simp at h); rintro e w4 ⟨v4, rfl, hO4, hg4⟩; obtain ⟨⟨t1, t2⟩, t3, t4, t5⟩ := HST.out (d := 0) ⟨hg4.os, hg4.tape, hg4.output, hg4.size, hg4.block⟩ hO4; rcases own_slice2 hO4 with ⟨a4, c4, rfl⟩)
                all_goals
                  have T3 : Hid (ClsAt (w4.setCell ⟨g5, cs.length, none⟩ (.slice a4 _ c4)) w.heap.size (.slice (some ⟨g5, 0, none⟩) (cs.length + 1) cap5) (cs ++ [[(x0, x1 - 1)]])) := t3
                  clear hg4 hO4 t1 t2 t3
                  go_wp2
                  go_roundw
                  case rel => exact ⟨k + 1, _, by omega, by go_num, T3, t4, t5, by rw [HX1.out]; exact HPN, by simp; omega⟩
                  case measure => simp [intOf]; omega
        · have e9 : k + 1 = E.length := by omega
          have HP3 : Hid (Part ls cs 1114112) := by have := HP.out; rw [HEl.out k e9] at this; exact this
          clear HP e9 HEl
          go_wp2
          go_ret
          exact ⟨_, cs, rfl, HCL.out, HP3.out, hbw2, by omega⟩

end Go.Proofs.Ytbiiapdeincpbaa
