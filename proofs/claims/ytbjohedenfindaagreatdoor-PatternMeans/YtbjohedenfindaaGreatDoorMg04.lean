/- Texts of the proof, put together: PEdges, Plain, PPoints. -/
import Derived.Test.YtbjohedenfindaaGreatDoorMg03
import Derived.Test.YtbjohedenfindaaGreatDoorMg02
import Derived.Maps.AppendAt
import Derived.Lib.MapLaws
import Derived.Lib.RuneBytes
import Derived.Test.YtbjohedenfindaaGreatDoorProg
import Derived.WalkKit
import Derived.WalkSpells
import Derived.WalkLawsBesides
import Derived.Lib.OthersKept
namespace Go.Proofs.YtbjohedenfindaaGreatDoor
open Go.RowKit Go.Shelf
open Go.Sort (putRow mapBlock putCells onCells HoldsK size_flatK get_flatK holdsK_grow holdsK_putRowK holdsK_ahead putRowK flatK)
set_option linter.unusedVariables false
set_option maxRecDepth 100000

theorem Tryz.infoEdge : (Tryz.prog.info? 207).map (fun i => (i.zero, i.size, i.bytes)) = some (some (.agg #[.int .i64 0, .int .i64 0, .int .i64 0]), 3, 24) := by kernel_rfl

def SetsAt (w : World) (vs : Value) (ls : List (List Rg)) : Prop :=
  (ls = [] ∧ ∃ a c, vs = .slice a 0 c) ∨ ∃ b off c, vs = .slice (some ⟨b, off, none⟩) ls.length c ∧ b < w.heap.size ∧ ∀ j, j < ls.length → ∃ vj, w.cell? ⟨b, off + j, none⟩ = some vj ∧ Rngs w vj (ls.getD j [])

theorem gen_snoc : ∀ (ls : List (List Rg)) (i : Int) (l : List Rg), gen i (ls ++ [l]) = gen i ls ++ genS (i + ls.length) l
  | [], i, l => by simp [gen]
  | x :: t, i, l => by
    have ih := gen_snoc t (i + 1) l
    have e : i + 1 + (t.length : Int) = i + ((t.length + 1 : Nat) : Int) := by omega
    simp only [List.cons_append, gen, ih, List.append_assoc, List.length_cons, e]
theorem gen_take (ls : List (List Rg)) (k : Nat) (h : k < ls.length) : gen 0 (ls.take (k + 1)) = gen 0 (ls.take k) ++ genS k (ls.getD k []) := by
  rw [List.take_succ_eq_append_getElem h, gen_snoc]
  have e1 : (0 : Int) + ((ls.take k).length : Int) = (k : Int) := by simp; omega
  rw [e1]
  simp [h]
theorem genS_take (i : Int) (l : List Rg) (j : Nat) (h : j < l.length) : genS i (l.take (j + 1)) = genS i (l.take j) ++ genR i (l.getD j (0, 0)) := by
  have e : l.getD j (0, 0) = l[j] := by simp [h]
  unfold genS
  rw [e, List.take_succ_eq_append_getElem h, List.flatMap_append]
  simp only [List.flatMap_cons, List.flatMap_nil, List.append_nil]
theorem gen_len : ∀ (ls : List (List Rg)) (i : Int) (M : Nat), (∀ l ∈ ls, l.length ≤ M) → (gen i ls).length ≤ ls.length * (2 * M)
  | [], _, _, _ => by simp [gen]
  | l :: t, i, M, h => by
    have h1 := genS_len i l
    have h2 := gen_len t (i + 1) M (fun x hx => h x (by simp [hx]))
    have h3 := h l (by simp)
    simp only [gen, List.length_append, List.length_cons, Nat.add_mul]
    omega

theorem own_two {w : World} {B n : Nat} {v : Value} {E : List Eg} {a b c d e f : Int} (hn : E.length = n) (h : w.ownsRow B 207 3 v (n + 2) (cellsE E ++ [.int .i64 a, .int .i64 b, .int .i64 c, .int .i64 d, .int .i64 e, .int .i64 f])) : OwnE w B v (E ++ [(a, b, c), (d, e, f)]) := by
  subst hn
  unfold OwnE
  rw [cellsE_append]
  simpa [cellsE, encE] using h

theorem enc_at (x : Eg) : ∀ (c : Nat), c < 3 → (encE x)[c]? = some (encE x)[c]!
  | 0, _ => rfl
  | 1, _ => rfl
  | 2, _ => rfl

theorem holds_own {w : World} {B g cap : Nat} {E : List Eg} (h : OwnE w B (.slice (some ⟨g, 0, none⟩) E.length cap) E) : HoldsK encE 3 w g 0 E.toArray := by
  unfold OwnE at h
  have hcell := h.cellAt
  rcases h.2 with ⟨h', _⟩ | ⟨g', cap', cur, h', hbg, hg, _⟩
  · simp at h'
  · simp only [Value.slice.injEq, Option.some.injEq, Addr.mk.injEq, and_true, true_and] at h'
    obtain ⟨rfl, rfl⟩ := h'
    intro j hj
    rw [size_flatK] at hj
    have hj3 : j < E.length * 3 := by simpa using hj
    have hq : j / 3 < E.length := by omega
    have hr : j % 3 < 3 := Nat.mod_lt _ (by omega)
    refine ⟨?_, by simp [World.frozen?, hg]⟩
    rw [Nat.zero_add, hcell j (by omega)]
    have e1 : j = j / 3 * 3 + j % 3 := by omega
    rw [get_flatK _ _ _ _ (by simpa using hj3)]
    conv => lhs; rw [e1]
    rw [cellsE_get E (j / 3) (j % 3) hq hr]
    have e2 : (E.toArray)[j / 3]! = E.getD (j / 3) (0, 0, 0) := by simp [hq]
    rw [e2]
    exact enc_at _ _ hr

theorem sort_own (B : Nat) (v : Value) (E : List Eg) (w : World) (hO : OwnE w B v E) (hl : E.length ≤ 100000000) :
    Calls Tryz.prog 166 #[v, .func (.func 167) #[] #[]] w fun e w' => e = .returned (.tuple #[]) ∧ ∃ E', E'.Perm E ∧ Asc E' ∧ EdgesAt w' B v E' ∧ w.grownBy w' v.ownBlock := by
  by_cases hne : E = []
  · subst hne
    have hv : ∃ a c, v = .slice a 0 c := by
      rcases hO.2 with ⟨rfl, _⟩ | ⟨g, cap, cur, rfl, _⟩
      · exact ⟨_, _, rfl⟩
      · exact ⟨_, _, rfl⟩
    obtain ⟨a, c, rfl⟩ := hv
    refine (sort_none a c _ w).mono ?_
    rintro e w' ⟨rfl, rfl⟩
    exact ⟨rfl, [], List.Perm.refl _, List.Pairwise.nil, Or.inl ⟨rfl, _, _, rfl⟩, World.grownBy.refl _ _⟩
  · have hpos := List.length_pos_iff.2 hne
    have hlt := World.ownsRow.lt hO
    rcases hO.2 with ⟨rfl, h0⟩ | ⟨g, cap, cur, rfl, hbg, hg, _⟩
    · omega
    · have hgs := (hlt g rfl).2
      have hH := holds_own hO
      have hs := sort_some g cap E.toArray w hH hgs (by simp; omega)
      simp only [List.size_toArray] at hs
      refine hs.mono ?_
      rintro e w' ⟨rfl, d', n, os, hp, hsd, rfl⟩
      have hsz : d'.size = E.length := by simpa using hp.1
      have hH2 : HoldsK encE 3 (sortWorldK encE 3 w g 0 n d' os) g 0 d' :=
        holdsK_grow _ _ _ _ _ _ _ (by simpa [putRowK, putRow, mapBlock, Sort.ahead] using hgs) (holdsK_putRowK _ _ _ _ _ _ _ (holdsK_ahead _ _ _ _ _ _ _ hH) (by simpa using hsz))
      have hblock : ∀ k, k < w.heap.size → k ≠ g → (sortWorldK encE 3 w g 0 n d' os).heap[k]? = w.heap[k]? := fun k hk hkg => by
        simp [sortWorldK, Sort.grow, putRowK, putRow, mapBlock, Sort.ahead, Array.getElem?_append, Array.getElem_modify, hk, Ne.symm hkg]
      refine ⟨rfl, d'.toList, ?_, ?_, Or.inr ⟨g, cap, by simp [hsz], hbg, ?_, fun j hj c hc => ?_⟩, ⟨rfl, rfl, rfl, by simp [sortWorldK, Sort.grow, putRowK, putRow, mapBlock, Sort.ahead], fun k hk hkr => hblock k hk (fun e => hkr (by rw [e]; rfl))⟩⟩
      · have := hp.2.2
        have e1 : d'.extract 0 E.length = d' := by rw [← hsz]; simp
        rw [e1] at this
        simpa using this
      · unfold Asc
        rw [List.pairwise_iff_getElem]
        intro i j hi hj hij
        have h1 := hsd i j (Nat.zero_le _) hij (by simp at hj; omega)
        rw [ltAt] at h1
        simp at h1 hi hj
        simp only [Array.getElem_toList]
        have e1 : d'[i]! = d'[i] := by simp [hi]
        have e2 : d'[j]! = d'[j] := by simp [hj]
        rw [e1, e2] at h1
        omega
      · refine ⟨putCells id 0 (flatK encE 3 d') cur, ?_⟩
        have hgg := (Array.getElem?_eq_some_iff.1 hg).2
        simp [sortWorldK, Sort.grow, putRowK, putRow, mapBlock, Sort.ahead, Array.getElem?_append, Array.getElem_modify, hgs, hgg, onCells]
      · have hj' : j < d'.size := by simpa using hj
        have := (hH2.cell hj' hc).1
        rw [Nat.zero_add] at this
        rw [this]
        have e1 : d'[j]! = d'.toList.getD j (0, 0, 0) := by simp [hj']
        rw [e1]
        exact (enc_at _ _ hc).symm

set_option maxHeartbeats 2000000 in
theorem edgesOf_row (b off c : Nat) (ls : List (List Rg)) (w : World) (hl : ls.length ≤ 1000) (hll : ∀ l ∈ ls, l.length ≤ 20000) (hb : b < w.heap.size) (hs : ∀ j, j < ls.length → ∃ vj, w.cell? ⟨b, off + j, none⟩ = some vj ∧ Rngs w vj (ls.getD j [])) :
    Calls Tryz.prog 151 #[.slice (some ⟨b, off, none⟩) ls.length c] w fun e w' => ∃ v' E, e = .returned v' ∧ E.Perm (gen 0 ls) ∧ Asc E ∧ EdgesAt w' w.heap.size v' E ∧ Below w.heap.size w w' := by
  obtain ⟨i0, hi0, hz0, hz1, hz2⟩ := info_parts Tryz.infoEdge
  go_enter Tryz.func151, Tryz.ntmps151
  go_wp2
  go_loopw [3, 12] (fun v i wr => ∃ k : Nat, k ≤ ls.length ∧ i = .int .i64 k ∧ OwnE wr w.heap.size v (gen 0 (ls.take k)) ∧ Below w.heap.size w wr) (fun _ i _ => ls.length - (intOf i).toNat)
  case atStart => exact ⟨0, Nat.zero_le _, rfl, World.ownsRow_nil _ _ _ _, Below.refl _ _⟩
  case round =>
    obtain ⟨k, hk, rfl, hO, hbw⟩ := hrel
    have hsz := hbw.size
    by_cases hlt : k < ls.length
    · obtain ⟨vj, hcj0, hR0⟩ := hs k hlt
      have hcj := (hbw.cell (p := ⟨b, off + k, none⟩) hb).trans hcj0
      have hml : ls.getD k [] ∈ ls := by simp [hlt]
      have hlk := hll _ hml
      have hgt := gen_take ls k hlt
      have hgl := gen_len (ls.take k) 0 20000 (fun l h => hll l (List.mem_of_mem_take h))
      have htk : (ls.take k).length ≤ k := List.length_take_le _ _
      have hgl2 : (gen 0 (ls.take k)).length ≤ 40000000 := by
        have : (ls.take k).length * (2 * 20000) ≤ 1000 * 40000 := by omega
        omega
      generalize hlj : ls.getD k [] = l at *
      have HL : Hid (ls.getD k [] = l) := hlj
      clear hlj hs hgl
      have HG : Hid (gen 0 (ls.take (k + 1)) = gen 0 (ls.take k) ++ genS k l) := hgt
      clear hgt
      generalize gen 0 (ls.take k) = E0 at *
      rcases hR0 with ⟨rfl, a, c', rfl⟩ | ⟨rb, roff, rc, rfl, hrb, hrc⟩
      · go_wp2
        refine wp_loop_rounds 1 ?_
        rw [rounds_succ]
        go_wp2
        go_roundw
        case rel => exact ⟨k + 1, by omega, by go_num, by rw [HG.out]; simpa [genS] using hO, hbw⟩
        case measure => simp [intOf]; omega
      · go_wp2
        go_loopw [3, 19] (fun v i wq => ∃ j : Nat, j ≤ l.length ∧ i = .int .i64 j ∧ OwnE wq w.heap.size v (E0 ++ genS k (l.take j)) ∧ Below w.heap.size w wq) (fun _ i _ => l.length - (intOf i).toNat)
        case atStart => exact ⟨0, Nat.zero_le _, rfl, by simpa [genS] using hO, hbw⟩
        case round =>
          obtain ⟨j, hj, rfl, hOj, hbj⟩ := hrel
          clear hO hbw hcj
          have hszj := hbj.size
          by_cases hjl : j < l.length
          · obtain ⟨c0a, c1a⟩ := hrc j hjl
            have c0 := (hbj.cell (p := ⟨rb, roff + j * 2, none⟩) hrb).trans c0a
            have c1 := (hbj.cell (p := ⟨rb, roff + j * 2 + 1, none⟩) hrb).trans c1a
            clear c0a c1a
            have hgs := genS_take k l j hjl
            have hln := genS_len k (l.take j)
            have hlt2 : (l.take j).length ≤ j := List.length_take_le _ _
            generalize hr : l.getD j (0, 0) = r at *
            have HR : Hid (l.getD j (0, 0) = r) := hr
            clear hr
            have HS : Hid (genS k (l.take (j + 1)) = genS k (l.take j) ++ genR k r) := hgs
            clear hgs
            obtain ⟨lo, hi⟩ := r
            simp only at c0 c1
            go_wp2
            go_region
            have hbA : Below w.heap.size w (wr.alloc (.cells #[.int .i64 lo, .int .i64 hi] 101)) := hbj.alloc hszj _
            have hOA : OwnE (wr.alloc (.cells #[.int .i64 lo, .int .i64 hi] 101)) w.heap.size u3 (E0 ++ genS k (l.take j)) := World.ownsRow.alloc hOj _
            have hsA := hbA.size
            have hm0 : 0 ≤ max lo 0 := by omega
            have hm1 : min hi 1114111 ≤ 1114111 := by omega
            have HRn : Hid (¬ max lo 0 ≤ min hi 1114111 → genR k (lo, hi) = []) := fun h => by unfold genR; rw [if_neg h]
            have HRy : Hid (max lo 0 ≤ min hi 1114111 → genR k (lo, hi) = [(max lo 0, (k : Int), 1), (min hi 1114111 + 1, (k : Int), -1)]) := fun h => by unfold genR; rw [if_pos h]
            clear hOj hbj hszj c0 c1
            generalize max lo 0 = xa at *
            generalize min hi 1114111 = xb at *
            generalize hWA : wr.alloc (.cells #[.int .i64 lo, .int .i64 hi] 101) = WA at *
            clear hWA
            by_cases hle : xa ≤ xb
            · have HG2 : Hid (E0 ++ genS k (l.take (j + 1)) = (E0 ++ genS k (l.take j)) ++ [(xa, (k : Int), 1), (xb + 1, (k : Int), -1)]) := by
                show _ = _
                rw [HS.out, HRy.out hle, List.append_assoc]
              have hlE : (E0 ++ genS k (l.take j)).length ≤ 41000000 := by rw [List.length_append]; omega
              clear HRn HRy HS
              go_wp2_with (at_builtin; refine wpList_append_own _ rfl _ _ 204 rfl w.heap.size 207 i0 (.agg #[.int .i64 0, .int .i64 0, .int .i64 0]) 3 24 Tryz.underlying204 hi0 hz0 hz1 hz2 rfl (by decide) _ (E0 ++ genS k (l.take j)).length (cellsE (E0 ++ genS k (l.take j))) rfl ?c0 ⟨WA.heap.size, 0, none⟩ 2 2 [.int .i64 xa, .int .i64 k, .int .i64 1, .int .i64 (xb + 1), .int .i64 k, .int .i64 (-1)] rfl rfl ?c1 ?c2 ?c3 ?c4 ?c5 ?_)
              case c0 => exact World.ownsRow.alloc hOA _
              case c1 =>
                intro i u hi2
                match i, hi2 with
                | 0, hi2 => simp at hi2; subst hi2; rw [add_off']; show (WA.alloc _).cell? ⟨WA.heap.size, _, none⟩ = _; rw [new_cell _ _ _ _ _ rfl]; rfl
                | 1, hi2 => simp at hi2; subst hi2; rw [add_off']; show (WA.alloc _).cell? ⟨WA.heap.size, _, none⟩ = _; rw [new_cell _ _ _ _ _ rfl]; rfl
                | 2, hi2 => simp at hi2; subst hi2; rw [add_off']; show (WA.alloc _).cell? ⟨WA.heap.size, _, none⟩ = _; rw [new_cell _ _ _ _ _ rfl]; rfl
                | 3, hi2 => simp at hi2; subst hi2; rw [add_off']; show (WA.alloc _).cell? ⟨WA.heap.size, _, none⟩ = _; rw [new_cell _ _ _ _ _ rfl]; rfl
                | 4, hi2 => simp at hi2; subst hi2; rw [add_off']; show (WA.alloc _).cell? ⟨WA.heap.size, _, none⟩ = _; rw [new_cell _ _ _ _ _ rfl]; rfl
                | 5, hi2 => simp at hi2; subst hi2; rw [add_off']; show (WA.alloc _).cell? ⟨WA.heap.size, _, none⟩ = _; rw [new_cell _ _ _ _ _ rfl]; rfl
              case c2 => intro u hu; simp at hu; rcases hu with rfl | rfl | rfl | rfl | rfl | rfl <;> rfl
              case c3 => unfold maxLen; omega
              case c4 => omega
              case c5 => simp; omega
              intro v' w1 hown' hgrow _
              have hO2 := own_two (E := E0 ++ genS k (l.take j)) List.length_append hown'
              have hb2 : Below w.heap.size w w1 := (hbA.alloc hsA _).grown (row := u3.ownBlock) ⟨hgrow.os, hgrow.tape, hgrow.output, hgrow.size, hgrow.block⟩ (by simp; omega) (fun q hq => (World.ownsRow.lt hOA q hq).1)
              clear hown' hgrow hOA hbA
              go_wp2
              go_roundw
              case rel => exact ⟨j + 1, by omega, by go_num, by rw [HG2.out]; exact hO2, hb2⟩
              case measure => simp [intOf]; omega
            · have HG2 : Hid (genS k (l.take (j + 1)) = genS k (l.take j)) := by
                show _ = _
                rw [HS.out, HRn.out hle, List.append_nil]
              clear HRn HRy HS
              go_wp2
              go_roundw
              case rel => exact ⟨j + 1, by omega, by go_num, by rw [HG2.out]; exact hOA, hbA.drew⟩
              case measure => simp [intOf]; omega
          · have HT : Hid (l.take j = l) := List.take_of_length_le (by omega)
            go_wp2
            go_roundw
            case rel => exact ⟨k + 1, by omega, by go_num, by rw [HG.out, ← HT.out]; exact hOj, hbj⟩
            case measure => simp [intOf]; omega
    · have HT : Hid (ls.take k = ls) := List.take_of_length_le (by omega)
      have hO2 : OwnE wr w.heap.size u3 (gen 0 ls) := by have := hO; rw [HT.out] at this; exact this
      have hgl : (gen 0 ls).length ≤ 40000000 := by
        have h1 := gen_len ls 0 20000 hll
        have : ls.length * (2 * 20000) ≤ 1000 * 40000 := by omega
        omega
      clear hO hs hll
      go_wp2_with fail
      refine (sort_own w.heap.size u3 (gen 0 ls) wr hO2 (by omega)).mono ?_
      rintro e w1 ⟨rfl, E, hp, ha, hat, hg⟩
      have hb2 : Below w.heap.size w w1 := hbw.grown hg hsz (fun q hq => (World.ownsRow.lt hO2 q hq).1)
      clear hg hO2 hbw
      go_wp2
      go_ret
      exact ⟨_, E, rfl, hp, ha, hat, hb2⟩

end Go.Proofs.YtbjohedenfindaaGreatDoor

namespace Go.Proofs.YtbjohedenfindaaGreatDoor
open Go.Lib

/-- does the place hold a code point? -/
def okAt (s : ByteArray) (pos : Nat) : Bool := !((Utf8.decode s pos).1 == 65533 && (Utf8.decode s pos).2 == 1)

def ptsFrom (s : ByteArray) : Nat → Nat → List Int
  | 0, _ => []
  | f + 1, pos => if pos < s.size then ((Utf8.decode s pos).1 : Int) :: ptsFrom s f (pos + (Utf8.decode s pos).2) else []
def pts (s : ByteArray) : List Int := ptsFrom s s.size 0

def wholeFrom (s : ByteArray) : Nat → Nat → Bool
  | 0, _ => true
  | f + 1, pos => if pos < s.size then okAt s pos && wholeFrom s f (pos + (Utf8.decode s pos).2) else true
def whole (s : ByteArray) : Bool := wholeFrom s s.size 0

def textOf (l : List Int) : List UInt8 := l.flatMap encodeRune

theorem dec_width (s : ByteArray) (pos : Nat) : 1 ≤ (Utf8.decode s pos).2 := by
  rw [← decodeL_drop]; exact decodeL_width _

theorem dec_rune (s : ByteArray) (pos : Nat) : (Utf8.decode s pos).1 ≤ 1114111 := by
  rw [← decodeL_drop]; exact decodeL_rune _

theorem dec_le (s : ByteArray) (pos : Nat) (h : pos < s.size) : pos + (Utf8.decode s pos).2 ≤ s.size := by
  rw [← decodeL_drop]
  have hne : s.data.toList.drop pos ≠ [] := by
    intro e
    have := congrArg List.length e
    simp at this
    have h2 : s.size = s.data.size := rfl
    omega
  have := decodeL_le _ hne
  simp at this
  have h2 : s.size = s.data.size := rfl
  omega

theorem dec_four (s : ByteArray) (pos : Nat) : (Utf8.decode s pos).2 ≤ 4 := by
  rw [← decodeL_drop, decodeL_N]
  rcases decodeN_shape (s.data.toList.drop pos).length ((s.data.toList.drop pos).getD 0 0).toNat ((s.data.toList.drop pos).getD 1 0).toNat ((s.data.toList.drop pos).getD 2 0).toNat ((s.data.toList.drop pos).getD 3 0).toNat with ⟨c, e⟩ | ⟨c1, c2, c3, cv, e⟩ | ⟨c1, c2, c3, c4, cv, cs, e⟩ | ⟨c1, c2, c3, c4, c5, cv, cw, e⟩ | e
  all_goals (rw [e]; dsimp only; omega)

theorem enc_dec (s : ByteArray) (pos : Nat) (h : pos < s.size) (ho : okAt s pos = true) : encodeRune ((Utf8.decode s pos).1 : Int) = (s.data.toList.drop pos).take (Utf8.decode s pos).2 := by
  have hne : s.data.toList.drop pos ≠ [] := by
    intro e
    have := congrArg List.length e
    simp at this
    have h2 : s.size = s.data.size := rfl
    omega
  have hd := decodeL_drop s pos
  have := encode_decode _ hne (by
    rw [hd]
    intro ⟨h1, h2⟩
    simp [okAt, h1, h2] at ho)
  rw [hd] at this
  exact this

theorem ptsFrom_end (s : ByteArray) (f pos : Nat) (h : ¬ pos < s.size) : ptsFrom s f pos = [] := by
  cases f with
  | zero => rfl
  | succ f => simp [ptsFrom, h]
theorem ptsFrom_step (s : ByteArray) (f pos : Nat) (h : pos < s.size) : ptsFrom s (f + 1) pos = ((Utf8.decode s pos).1 : Int) :: ptsFrom s f (pos + (Utf8.decode s pos).2) := by
  simp [ptsFrom, h]
theorem wholeFrom_end (s : ByteArray) (f pos : Nat) (h : ¬ pos < s.size) : wholeFrom s f pos = true := by
  cases f with
  | zero => rfl
  | succ f => simp [wholeFrom, h]
theorem wholeFrom_step (s : ByteArray) (f pos : Nat) (h : pos < s.size) : wholeFrom s (f + 1) pos = (okAt s pos && wholeFrom s f (pos + (Utf8.decode s pos).2)) := by
  simp [wholeFrom, h]

theorem textOf_cons (z : Int) (l : List Int) : textOf (z :: l) = encodeRune z ++ textOf l := by simp [textOf]
theorem textOf_append (a b : List Int) : textOf (a ++ b) = textOf a ++ textOf b := by simp [textOf]

/-- A whole text is the text of its points. -/
theorem text_pts (s : ByteArray) : ∀ (f pos : Nat), s.size ≤ pos + f → wholeFrom s f pos = true → textOf (ptsFrom s f pos) = s.data.toList.drop pos
  | 0, pos, h, _ => by
    have h2 : s.size = s.data.size := rfl
    rw [List.drop_eq_nil_of_le (by simp; omega)]
    rfl
  | f + 1, pos, h, hw => by
    have h2 : s.size = s.data.size := rfl
    by_cases hp : pos < s.size
    · rw [wholeFrom_step s f pos hp, Bool.and_eq_true] at hw
      have hwd := dec_width s pos
      rw [ptsFrom_step s f pos hp, textOf_cons, enc_dec s pos hp hw.1, text_pts s f _ (by omega) hw.2, ← List.drop_drop, List.take_append_drop]
    · rw [ptsFrom_end s _ pos hp, List.drop_eq_nil_of_le (by simp; omega)]
      rfl

theorem pts_len (s : ByteArray) : ∀ (f pos : Nat), s.size ≤ pos + f → pos ≤ s.size → pos + (ptsFrom s f pos).length ≤ s.size ∧ s.size ≤ pos + 4 * (ptsFrom s f pos).length
  | 0, pos, h, hq => by simp [ptsFrom]; omega
  | f + 1, pos, h, hq => by
    by_cases hp : pos < s.size
    · have hwd := dec_width s pos
      have hw4 := dec_four s pos
      have hle := dec_le s pos hp
      have ih := pts_len s f (pos + (Utf8.decode s pos).2) (by omega) hle
      rw [ptsFrom_step s f pos hp, List.length_cons]
      omega
    · rw [ptsFrom_end s _ pos hp]
      simp; omega

theorem text_back (s : ByteArray) (h : whole s = true) : textOf (pts s) = s.data.toList := by
  have := text_pts s s.size 0 (by omega) h
  simpa [pts] using this
theorem len_back (s : ByteArray) : (pts s).length ≤ s.size ∧ s.size ≤ 4 * (pts s).length := by
  have := pts_len s s.size 0 (by omega) (by omega)
  simpa [pts] using this

theorem enc_len (z : Int) : 1 ≤ (encodeRune z).length ∧ (encodeRune z).length ≤ 4 := by
  have := encodeRuneZ_length z
  simpa [encodeRune] using this
theorem textOf_len (l : List Int) : (textOf l).length ≤ 4 * l.length := by
  induction l with
  | nil => simp [textOf]
  | cons z l ih => rw [textOf_cons, List.length_append, List.length_cons]; have := enc_len z; omega

end Go.Proofs.YtbjohedenfindaaGreatDoor

namespace Go.Proofs.YtbjohedenfindaaGreatDoor
open Go.RowKit
set_option linter.unusedVariables false
set_option maxRecDepth 100000

theorem Tryz.infoInt : (Tryz.prog.info? 3).map (fun i => (i.zero, i.size, i.bytes)) = some (some (.int .i64 0), 1, 8) := by kernel_rfl

theorem pp_step {s : ByteArray} {pos f : Nat} {acc : List Int} (hp : pos < s.size) (h : acc ++ ptsFrom s (f + 1) pos = pts s) : (acc ++ [((Utf8.decode s pos).1 : Int)]) ++ ptsFrom s f (pos + (Utf8.decode s pos).2) = pts s := by
  rw [← h, ptsFrom_step s f pos hp]; simp

theorem own_ints {w : World} {B e : Nat} {v : Value} {acc : List Int} {z : Int} (h : w.ownsRow B e 1 v (acc.length + 1) (acc.map (Value.int .i64) ++ [Value.int .i64 z])) : w.ownsRow B e 1 v (acc ++ [z]).length ((acc ++ [z]).map (Value.int .i64)) := by
  simpa using h

set_option maxHeartbeats 1000000 in
theorem ppoints_any (s : ByteArray) (w : World) (hs : s.size ≤ 17592186044416) :
    Calls Tryz.prog 32 #[.string s] w fun e w' => ∃ v, e = .returned v ∧ w'.ownsRow (w.heap.size + 1) 3 1 v (pts s).length ((pts s).map (Value.int .i64)) ∧ Below w.heap.size w w' ∧ w.heap.size + 1 ≤ w'.heap.size := by
  obtain ⟨i0, hi, hz0, hz1, hz2⟩ := info_parts Tryz.infoInt
  go_enter Tryz.func32, Tryz.ntmps32
  go_wp2
  go_loopw [3] (fun v wr => ∃ (pos fuel : Nat) (acc : List Int), wr.ownsRow (w.heap.size + 1) 3 1 v acc.length (acc.map (Value.int .i64)) ∧ wr.heap[w.heap.size]? = some (.stringIter s pos) ∧ Below w.heap.size w wr ∧ acc ++ ptsFrom s fuel pos = pts s ∧ s.size ≤ pos + fuel ∧ acc.length ≤ pos ∧ pos ≤ s.size ∧ w.heap.size + 1 ≤ wr.heap.size) (fun _ wr => s.size - wr.iterPos w.heap.size)
  case atStart =>
    refine ⟨0, s.size, [], World.ownsRow_nil _ _ _ _, World.iter_heap w s 0, (Below.refl _ w).alloc (Nat.le_refl _) _, rfl, by omega, by simp, by omega, by simp [World.iter]⟩
  case round =>
    obtain ⟨pos, fuel, acc, hown, hit, hbw, hacc0, hfu, hal, hpl, hsz⟩ := hrel
    have HA : Hid (acc ++ ptsFrom s fuel pos = pts s) := hacc0
    clear hacc0
    by_cases hp : pos < s.size
    · have hnx : ∀ ty, (Instr.next (.pointer (some ⟨w.heap.size, 0, none⟩)) true ty).run Tryz.prog wr = _ := fun ty => Lib.run_next_any_at wr w.heap.size s pos ty hit hp
      have hwd := dec_width s pos
      have hle := dec_le s pos hp
      have hr1 : ((Utf8.decode s pos).1 : Int) ≤ 1114111 := by have := dec_rune s pos; omega
      have hown2 := ownsRow_iterAt hown (k := w.heap.size) (by omega) s (pos + (Utf8.decode s pos).2)
      have hit2 := Lib.iterAt_heap wr w.heap.size s pos (pos + (Utf8.decode s pos).2) hit
      have hbw2 := Lib.below_iterAt hbw (k := w.heap.size) (Nat.le_refl _) s (pos + (Utf8.decode s pos).2)
      have hsz2 : w.heap.size + 1 ≤ (wr.iterAt w.heap.size s (pos + (Utf8.decode s pos).2)).heap.size := by rw [Lib.iterAt_size]; exact hsz
      obtain ⟨f, rfl⟩ : ∃ f, fuel = f + 1 := ⟨fuel - 1, by omega⟩
      have HB : Hid ((acc ++ [((Utf8.decode s pos).1 : Int)]) ++ ptsFrom s f (pos + (Utf8.decode s pos).2) = pts s) := pp_step hp HA.out
      clear HA hown hbw
      go_wp2_with (at_builtin; refine wpList_append_own _ rfl _ _ 34 rfl (w.heap.size + 1) 3 i0 (.int .i64 0) 1 8 Tryz.underlying34 hi hz0 hz1 hz2 rfl (by decide) _ _ _ rfl (hown2.alloc _) ⟨(wr.iterAt w.heap.size s (pos + (Utf8.decode s pos).2)).heap.size, 0, none⟩ 1 1 [.int .i64 (Utf8.decode s pos).1] rfl rfl ?c1 ?c2 ?c3 ?c4 ?c5 ?_)
      case c1 =>
        intro j u hj
        match j, hj with
        | 0, hj => simp at hj; subst hj; simp [Addr.add]
      case c2 => intro u hu; simp at hu; subst hu; rfl
      case c3 => unfold maxLen; omega
      case c4 => omega
      case c5 => simp; omega
      · intro v' w1 hown' hgrow _
        have hne : u3.ownBlock ≠ some w.heap.size := by
          intro e1
          have := (hown2.lt _ e1).1
          omega
        have hlt : w.heap.size < (wr.iterAt w.heap.size s (pos + (Utf8.decode s pos).2)).heap.size := by omega
        have hit3 : w1.heap[w.heap.size]? = some (.stringIter s (pos + (Utf8.decode s pos).2)) := by
          rw [hgrow.block w.heap.size (by simp; omega) (fun e1 => hne e1.symm), Lib.alloc_old _ _ _ hlt]; exact hit2
        have hbw3 : Below w.heap.size w w1 := (hbw2.alloc (by omega) _).grown hgrow (by simp; omega) (fun k hk => by have := (hown2.lt k hk).1; omega)
        have hsz3 : w.heap.size + 1 ≤ w1.heap.size := by have := hgrow.size; simp at this; omega
        have hown3 := own_ints hown'
        clear hown' hgrow hbw2 hown2
        go_wp2
        go_roundw
        case rel => exact ⟨pos + (Utf8.decode s pos).2, f, _, hown3, hit3, hbw3, HB.out, by omega, by simp; omega, hle, hsz3⟩
        case measure =>
          simp only [World.iterPos, hit3, hit]
          omega
    · have hnx : ∀ ty, (Instr.next (.pointer (some ⟨w.heap.size, 0, none⟩)) true ty).run Tryz.prog wr = _ := fun ty => Lib.run_next_end_at wr w.heap.size s pos ty hit hp
      have HB : Hid (acc = pts s) := by
        have := HA.out; rw [ptsFrom_end s fuel pos hp, List.append_nil] at this; exact this
      clear HA
      go_wp2
      go_ret
      refine ⟨_, rfl, ?_, hbw, hsz⟩
      rw [← HB.out]
      exact hown

end Go.Proofs.YtbjohedenfindaaGreatDoor
