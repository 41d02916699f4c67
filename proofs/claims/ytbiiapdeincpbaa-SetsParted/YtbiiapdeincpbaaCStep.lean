import Derived.Test.YtbiiapdeincpbaaCMemB
namespace Go.Proofs.Ytbiiapdeincpbaa
open Go.RowKit
set_option linter.unusedVariables false
set_option maxRecDepth 100000

structure Grew (w wr : World) (M Dp Nd Mp n L : Nat) (ds : List Int) (lv : Nat → Int) (ps : List Pr) (nodes : List Int) (ps' : List Pr) : Prop where
  mem : MemAt wr M Dp Nd Mp n L ds nodes ps'
  pre : ps <+: ps'
  leaf : ∀ t, t < L → nodes.getD (L + t) 0 = lv t
  bd : ∀ j, j < 2 * L → -1000000 ≤ nodes.getD j 0 ∧ nodes.getD j 0 ≤ 1000000
  but : But [Dp, Nd, Mp] w wr

theorem getD_bd {l : List Int} {a b : Int} (h : ∀ j, j < l.length → a ≤ l.getD j 0 ∧ l.getD j 0 ≤ b) {k : Nat} (hk : k < l.length) {x : Int} (h0 : a ≤ x) (h1 : x ≤ b) : ∀ j, j < l.length → a ≤ (l.set k x).getD j 0 ∧ (l.set k x).getD j 0 ≤ b := fun j hj => by
  rw [getD_set_int _ _ _ _ hk]
  split
  · exact ⟨h0, h1⟩
  · exact h j hj

theorem getD_leaf {l : List Int} {L k : Nat} (hk : k < L) (hl : l.length = 2 * L) (x : Int) (t : Nat) : (l.set k x).getD (L + t) 0 = l.getD (L + t) 0 := by
  rw [getD_set_int _ _ _ _ (by omega), if_neg (by omega)]

/-- a node on the path renumbered -/
theorem Grew.next {w wr w' : World} {M Dp Nd Mp n L : Nat} {ds : List Int} {lv : Nat → Int} {ps ps' ps2 : List Pr} {nodes : List Int} (h : Grew w wr M Dp Nd Mp n L ds lv ps nodes ps') {k i : Nat} (hi : i < L) (hk : k ≤ 1000000) (hp : ps' <+: ps2) (hm : MemAt w' M Dp Nd Mp n L ds (nodes.set i k) ps2) (hb : But [Nd, Mp] wr w') :
    Grew w w' M Dp Nd Mp n L ds lv ps (nodes.set i k) ps2 := by
  have hl := h.mem.ln
  refine ⟨hm, h.pre.trans hp, fun t ht => ?_, ?_, h.but.trans (hb.mono (by simp))⟩
  · rw [getD_leaf hi hl]; exact h.leaf t ht
  · rw [← hl]
    exact getD_bd (by rw [hl]; exact h.bd) (by omega) (by omega) (by omega)

theorem Grew.drewN {w wr : World} {M Dp Nd Mp n L : Nat} {ds : List Int} {lv : Nat → Int} {ps ps' : List Pr} {nodes : List Int} (h : Grew w wr M Dp Nd Mp n L ds lv ps nodes ps') (m : Nat) : Grew w (wr.drewN m) M Dp Nd Mp n L ds lv ps nodes ps' :=
  ⟨h.mem.drewN m, h.pre, h.leaf, h.bd, h.but.trans (But.drewN _ _ m)⟩

set_option maxHeartbeats 1000000 in
theorem step_any {w : World} {M Dp Nd Mp n L : Nat} {ds nodes : List Int} {ps : List Pr} (h : MemAt w M Dp Nd Mp n L ds nodes ps) (hg : Good ps nodes L) (s : Nat) (by' : Int) (hs : s < n) (hnL : n ≤ L) (hL : L ≤ 16) (hps : ps.length ≤ 50000) (hbd : ∀ j, j < 2 * L → -1000000 ≤ nodes.getD j 0 ∧ nodes.getD j 0 ≤ 1000000) (hd0 : -100000 ≤ ds.getD s 0) (hd1 : ds.getD s 0 ≤ 100000) (hb0 : -1 ≤ by') (hb1 : by' ≤ 1) :
    Calls Try.prog 45 #[.pointer (some ⟨M, 0, none⟩), .int .i64 s, .int .i64 by'] w fun e w' => e = .returned (.tuple #[]) ∧ ∃ nodes' ps', Grew w w' M Dp Nd Mp n L (ds.set s (ds.getD s 0 + by')) (fun t => if t = s then min (ds.getD s 0 + by') 1 else nodes.getD (L + t) 0) ps nodes' ps' ∧ Good ps' nodes' L ∧ ps'.length ≤ ps.length + L := by
  obtain ⟨c0, c1, c2⟩ := h.cells
  obtain ⟨l1, l2, l3, l4⟩ := h.lt
  obtain ⟨n1, n2, n3, n4, n5⟩ := h.ne
  obtain ⟨cd, fd⟩ := h.depth hs
  obtain ⟨cl, fl⟩ := h.node (j := L + s) (by omega)
  generalize hdd : ds.getD s 0 = d at *
  have n1' := Ne.symm n1
  have n2' := Ne.symm n2
  have hne2 := h.dn
  have hne3 := Ne.symm h.dn
  have hstart : Hid (Grew w ((w.setCell ⟨Dp, s, none⟩ (.int .i64 (d + by'))).setCell ⟨Nd, L + s, none⟩ (.int .i64 (min (d + by') 1))) M Dp Nd Mp n L (ds.set s (d + by')) (fun t => if t = s then min (d + by') 1 else nodes.getD (L + t) 0) ps (nodes.set (L + s) (min (d + by') 1)) ps) := by
    have hl := h.ln
    refine ⟨(h.setD s (d + by')).setN (L + s) (min (d + by') 1), List.prefix_refl _, fun t ht => ?_, ?_, (But.setCell w (by simp) s _).trans (But.setCell _ (by simp) (L + s) _)⟩
    · rw [getD_set_int _ _ _ _ (by omega)]
      by_cases e : t = s
      · subst e; simp
      · rw [if_neg (by omega), if_neg e]
    · rw [← hl]
      exact getD_bd (by rw [hl]; exact hbd) (by omega) (by omega) (by omega)
  have hoff : Hid (Off ps (nodes.set (L + s) (min (d + by') 1)) L ((L + s) / 2)) := off_leaf _ hg (by omega) (by rw [h.ln]; omega)
  have hx1 : (0 : Int) ≤ (L : Int) + s := by omega
  have hx2 : (L : Int) + s < ((2 * L : Nat) : Int) := by omega
  have hx3 : (L : Int) + s < 2 * (L : Int) := by omega
  have hw1 : IntKind.i64.wrap (d + by') = d + by' := wrap_k64 _ (by omega) (by omega)
  have hw2 : IntKind.i64.wrap ((L : Int) + s) = (L : Int) + s := wrap_k64 _ (by omega) (by omega)
  clear hbd hg h hdd n3 n4 n5 c2
  generalize (fun t => if t = s then min (d + by') 1 else nodes.getD (L + t) 0) = lv at *
  generalize ds.set s (d + by') = ds' at *
  have HR : Hid (∀ {W : World} {nodes : List Int} {ps' : List Pr}, MemAt W M Dp Nd Mp n L ds' nodes ps' → ∀ (i : Nat), i < L → ps'.length ≤ 100000 → (∀ j, j < 2 * L → -1000000 ≤ nodes.getD j 0 ∧ nodes.getD j 0 ≤ 1000000) →
    Calls Try.prog 56 #[.pointer (some ⟨M, 0, none⟩), .int .i64 i] W fun e w' => e = .returned (.tuple #[]) ∧ ∃ (k : Nat) (ps2 : List Pr), ps' <+: ps2 ∧ ps2.length ≤ ps'.length + 1 ∧ ps2[k]? = some (nodes.getD (2 * i) 0, nodes.getD (2 * i + 1) 0) ∧ MemAt w' M Dp Nd Mp n L ds' (nodes.set i k) ps2 ∧ But [Nd, Mp] W w') := fun h i hi hp hb => renumber_any h i hi hL hp hb
  go_enter Try.func45, Try.ntmps45
  go_wp2
  go_region
  go_wp2
  case' inl => rw [show min (d + by') 1 = 1 from by omega] at hstart hoff
  case' inr => rw [show min (d + by') 1 = d + by' from by omega] at hstart hoff
  all_goals
    clear c0 c1 fd cl fl cd n1 n2 n1' n2' hne2 hne3 hw1 hw2 hx1 hx2 hx3
    go_loopw [7] (fun i wr => ∃ (k : Nat) (nodes' : List Int) (ps' : List Pr), i = .int .i64 k ∧ k < L ∧ Hid (Grew w wr M Dp Nd Mp n L ds' lv ps nodes' ps') ∧ Hid (Off ps' nodes' L k) ∧ ps'.length + k ≤ ps.length + L) (fun i _ => (intOf i).toNat)
    case atStart => exact ⟨(L + s) / 2, _, ps, by simp, by omega, hstart.out.drewN 1, hoff, by omega⟩
    case round =>
      obtain ⟨k, nodes', ps', rfl, hk, HG, HO, hlen⟩ := hrel
      clear hstart hoff
      by_cases h0 : 0 < k
      · go_wp2_with fail
        refine (HR.out HG.out.mem k hk (by omega) HG.out.bd).mono ?_
        rintro e w2 ⟨rfl, q, ps2, hp, hl2, hq, hm, hb⟩
        have hq1 : q < ps2.length := (List.getElem?_eq_some_iff.1 hq).1
        have HG2 : Hid (Grew w w2 M Dp Nd Mp n L ds' lv ps (nodes'.set k q) ps2) := HG.out.next hk (by omega) hp hm hb
        have HO2 : Hid (Off ps2 (nodes'.set k q) L (k / 2)) := off_step HO.out (by omega) (by rw [HG.out.mem.ln]; omega) hp hq
        clear HG HO hm hb hq hp
        go_wp2
        go_roundw
        case rel => exact ⟨k / 2, _, ps2, by simp, by omega, HG2, HO2, by omega⟩
        case measure => simp [intOf]; omega
      · obtain rfl : k = 0 := by omega
        go_wp2
        go_end0
        exact ⟨rfl, nodes', ps', HG.out, off_zero HO.out, by omega⟩

set_option maxHeartbeats 400000 in
theorem number_any {w : World} {M Dp Nd Mp n L : Nat} {ds nodes : List Int} {ps : List Pr} (h : MemAt w M Dp Nd Mp n L ds nodes ps) (hL : 1 ≤ L) :
    Calls Try.prog 47 #[.pointer (some ⟨M, 0, none⟩)] w fun e w' => e = .returned (.int .i64 (nodes.getD 1 0)) ∧ w' = w := by
  obtain ⟨c0, c1, c2⟩ := h.cells
  obtain ⟨ca, _⟩ := h.node (j := 1) (by omega)
  obtain ⟨l1, l2, l3, l4⟩ := h.lt
  have hx : (1 : Int) < ((2 * L : Nat) : Int) := by omega
  clear h
  go_enter Try.func47, Try.ntmps47
  go_wp2
  go_ret
  exact ⟨rfl, rfl⟩

end Go.Proofs.Ytbiiapdeincpbaa
