/- Texts of the proof, put together: PPar, PRow. -/
import Derived.Test.YtbjohedenfindaaGreatDoorPb15
import Derived.Maps.AppendAt
namespace Go.Proofs.YtbjohedenfindaaGreatDoor
open Go.RowKit
set_option linter.unusedVariables false
set_option maxRecDepth 100000

def TreeV (B : Nat) (t : Re) (w : World) (v : Value) : Prop := Tree (fun b => B ≤ b) w v t

theorem tree_one {B : Nat} {w : World} {p : Value} {t : Re} (hp : Tree (fun b => B ≤ b) w p t) (hB : B ≤ w.heap.size) (kind mn mx : Int) :
    Tree (fun b => B ≤ b) ((w.alloc (.cells #[p] 22)).alloc (.cells #[.int .i64 kind, .slice none 0 0, .int .i64 mn, .int .i64 mx, .slice (some ⟨w.heap.size, 0, none⟩) 1 1] 48)) (.pointer (some ⟨w.heap.size + 1, 0, none⟩)) ⟨kind, [], mn, mx, [some t]⟩ := by
  have hg : w.grownBy ((w.alloc (.cells #[p] 22)).alloc (.cells #[.int .i64 kind, .slice none 0 0, .int .i64 mn, .int .i64 mx, .slice (some ⟨w.heap.size, 0, none⟩) 1 1] 48)) none := Lib.grownBy_allocR (World.grownBy_alloc w _ _) _
  obtain ⟨n, hn⟩ := hp
  refine ⟨n + 1, w.heap.size + 1, _, _, rfl, (show B ≤ _ by omega), ?_, Or.inl ⟨rfl, none, 0, rfl⟩, Or.inr ⟨w.heap.size, 0, 1, rfl, by simp; omega, hB, fun j hj => ?_⟩⟩
  · have := heap_alloc_new (w.alloc (.cells #[p] 22)) (.cells #[.int .i64 kind, .slice none 0 0, .int .i64 mn, .int .i64 mx, .slice (some ⟨w.heap.size, 0, none⟩) 1 1] 48)
    simpa using this
  · have hj0 : j = 0 := by simpa using hj
    subst hj0
    refine ⟨p, ?_, ?_⟩
    · rw [World.cell?_alloc_lt _ _ _ (by simp), World.cell?_alloc_at _ _ _ _ rfl]; rfl
    · exact hn.moved hg.size fun b hb hok => ⟨hok, hg.block b hb (by simp)⟩

theorem partS_eq (s : ByteArray) (f : Nat) (p : Re) (i : Nat) : partS s (f + 1) p i =
    if cpAt s i = 42 then partS s f (repRe 0 (-1) p) (i + 1)
    else if cpAt s i = 43 then partS s f (repRe 1 (-1) p) (i + 1)
    else if cpAt s i = 63 then partS s f (repRe 0 1 p) (i + 1)
    else if cpAt s i = 123 then
      match timesS s (i + 1) with
      | none => none
      | some ((a, b), j) => partS s f (repRe a b p) j
    else some (p, i) := rfl

/-- the reader of units, and what it is told -/
def UnitC (W0 : World) (s : ByteArray) (o M R : Nat) (u : Nat → Option (Re × Nat)) : Prop := ∀ w i, St W0 w R s i o M → Calls Tryz.prog 136 #[.pointer (some ⟨R, 0, none⟩)] w (Got W0 w R s o M (u i) (TreeV w.heap.size))

set_option maxHeartbeats 4000000 in
theorem part_any {W0 w : World} (L : LibC W0) {R i o M : Nat} {s : ByteArray} {u : Nat → Option (Re × Nat)} (hU : UnitC W0 s o M R u) (hu : Goes s u) (h : St W0 w R s i o M) :
    Calls Tryz.prog 125 #[.pointer (some ⟨R, 0, none⟩)] w (Got W0 w R s o M ((u i).bind fun x => partS s (s.size + 1) x.1 x.2) (TreeV w.heap.size)) := by
  have HS : Hid (St W0 w R s i o M) := h
  have HU : Hid (Calls Tryz.prog 136 #[.pointer (some ⟨R, 0, none⟩)] w (Got W0 w R s o M (u i) (TreeV w.heap.size))) := hU w i h
  have hRw := h.at_.lt
  have hnR : ∀ b, w.heap.size ≤ b → some b ≠ some R := fun b hb e => by cases e; omega
  have hi := h.inn
  have hgoes := hu i
  clear h hU
  generalize hui : u i = ui at *
  clear hui hu
  generalize hres : (ui.bind fun x => partS s (s.size + 1) x.1 x.2) = res at *
  have HRe : Hid ((ui.bind fun x => partS s (s.size + 1) x.1 x.2) = res) := hres
  clear hres
  go_enter Tryz.func125, Tryz.ntmps125
  go_wp2_with fail
  refine HU.out.mono ?_
  intro e w1 hG
  obtain ⟨hg1, ⟨hx, f, rfl⟩ | ⟨⟨t1, j⟩, v, hx, rfl, hv, hS1⟩⟩ := hG.both
  · exact ⟨rfl, Got.bad (by rw [← HRe.out, hx]; rfl) hg1 ⟨f, rfl⟩⟩
  · have hj := hgoes t1 j hi hx
    have HRes : Hid (partS s (s.size + 1) t1 j = res) := by show _ = _; rw [← HRe.out, hx]; rfl
    have HT1 : Hid (Tree (fun b => w.heap.size ≤ b) w1 v t1) := hv
    have HS1 : Hid (St W0 w1 R s j o M) := hS1
    clear hx hG hS1 hgoes hv HU HRe
    obtain ⟨b1, rfl, _⟩ := HT1.out.ptr
    go_wp2_with fail
    go_loopw [3, 4, 5] (fun pv _ _ wr => ∃ (f : Nat) (t : Re) (m b : Nat), partS s f t m = res ∧ s.size < m + f ∧ w.grownBy wr (some R) ∧ St W0 wr R s m o M ∧ pv = .pointer (some ⟨b, 0, none⟩) ∧ Tree (fun b => w.heap.size ≤ b) wr (.pointer (some ⟨b, 0, none⟩)) t) (fun _ _ _ wr => s.size + 1 - placeOf wr R)
    case atStart => exact ⟨s.size + 1, t1, j, b1, HRes.out, by omega, hg1, HS1.out, rfl, HT1.out⟩
    case round =>
      obtain ⟨f, t, m, b, hf, hfm, hgr, hSr, rfl, hT⟩ := hrel
      have hml := hSr.inn
      have HSr : Hid (St W0 wr R s m o M) := hSr
      have HT : Hid (Tree (fun b => w.heap.size ≤ b) wr (.pointer (some ⟨b, 0, none⟩)) t) := hT
      obtain ⟨f', rfl⟩ : ∃ f', f = f' + 1 := ⟨f - 1, by omega⟩
      have HF : Hid (partS s (f' + 1) t m = res) := hf
      clear hSr hT hf HT1 HS1 HRes
      by_cases hy : cpAt s m = 42
      · have HF2 : Hid (partS s f' (repRe 0 (-1) t) (m + 1) = res) := by show _ = _; rw [← HF.out, partS_eq, if_pos hy]
        obtain ⟨hml1, hmz⟩ := cp_eq_size hy (by omega) (by omega)
        have HY := take_yes L HSr.out 42 hy
        rw [hmz] at HY
        have HY2 : Hid (Calls Tryz.prog 72 #[.pointer (some ⟨R, 0, none⟩), .int .i32 42] wr fun e w' => e = .returned (.bool true) ∧ wr.grownBy w' (some R) ∧ St W0 w' R s (m + 1) o M) := HY
        clear HY hmz hy
        go_wp2_with fail
        refine HY2.out.mono ?_
        rintro e w2 ⟨rfl, q0, hS0⟩
        have hg2 := Lib.grownBy_trans hgr q0
        have HT2 : Hid (Tree (fun b => w.heap.size ≤ b) w2 (.pointer (some ⟨b, 0, none⟩)) t) := HT.out.grown q0 hnR
        have HS2 : Hid (St W0 w2 R s (m + 1) o M) := hS0
        clear hS0 q0 HY2
        have hsz := hg2.size
        go_wp2
        go_roundw
        case rel =>
          have hgz := Lib.grownBy_allocR (Lib.grownBy_allocR hg2 (.cells #[.pointer (some ⟨b, 0, none⟩)] 22)) (.cells #[.int .i64 6, .slice none 0 0, .int .i64 0, .int .i64 (-1), .slice (some ⟨w2.heap.size, 0, none⟩) 1 1] 48)
          exact ⟨f', repRe 0 (-1) t, m + 1, w2.heap.size + 1, HF2.out, by omega, hgz, (HS2.out.alloc _).alloc _, by simp, tree_one HT2.out (hsz) 6 0 (-1)⟩
        case measure =>
          rw [placeOf_at ((HS2.out.alloc _).alloc _).at_, placeOf_at HSr.out.at_]
          omega
      · have hn42 := hy
        clear hy
        by_cases hy : cpAt s m = 43
        · have HN0 : Hid (Calls Tryz.prog 72 #[.pointer (some ⟨R, 0, none⟩), .int .i32 42] wr fun e w' => e = .returned (.bool false) ∧ wr.grownBy w' (some R) ∧ St W0 w' R s m o M) := take_no L HSr.out 42 hn42
          go_wp2_with fail
          refine HN0.out.mono ?_
          rintro e w2 ⟨rfl, q0, hS0⟩
          have hg2 := Lib.grownBy_trans hgr q0
          have HT2 : Hid (Tree (fun b => w.heap.size ≤ b) w2 (.pointer (some ⟨b, 0, none⟩)) t) := HT.out.grown q0 hnR
          have HS2 : Hid (St W0 w2 R s m o M) := hS0
          clear hS0 q0 HN0
          have HF2 : Hid (partS s f' (repRe 1 (-1) t) (m + 1) = res) := by show _ = _; rw [← HF.out, partS_eq, if_neg hn42, if_pos hy]
          obtain ⟨hml1, hmz⟩ := cp_eq_size hy (by omega) (by omega)
          have HY := take_yes L HS2.out 43 hy
          rw [hmz] at HY
          have HY2 : Hid (Calls Tryz.prog 72 #[.pointer (some ⟨R, 0, none⟩), .int .i32 43] w2 fun e w' => e = .returned (.bool true) ∧ w2.grownBy w' (some R) ∧ St W0 w' R s (m + 1) o M) := HY
          clear HY hmz hy
          go_wp2_with fail
          refine HY2.out.mono ?_
          rintro e w3 ⟨rfl, q1, hS1⟩
          have hg3 := Lib.grownBy_trans hg2 q1
          have HT3 : Hid (Tree (fun b => w.heap.size ≤ b) w3 (.pointer (some ⟨b, 0, none⟩)) t) := HT2.out.grown q1 hnR
          have HS3 : Hid (St W0 w3 R s (m + 1) o M) := hS1
          clear hS1 q1 HY2
          have hsz := hg3.size
          go_wp2
          go_roundw
          case rel =>
            have hgz := Lib.grownBy_allocR (Lib.grownBy_allocR hg3 (.cells #[.pointer (some ⟨b, 0, none⟩)] 22)) (.cells #[.int .i64 6, .slice none 0 0, .int .i64 1, .int .i64 (-1), .slice (some ⟨w3.heap.size, 0, none⟩) 1 1] 48)
            exact ⟨f', repRe 1 (-1) t, m + 1, w3.heap.size + 1, HF2.out, by omega, hgz, (HS3.out.alloc _).alloc _, by simp, tree_one HT3.out (hsz) 6 1 (-1)⟩
          case measure =>
            rw [placeOf_at ((HS3.out.alloc _).alloc _).at_, placeOf_at HSr.out.at_]
            omega
        · have hn43 := hy
          clear hy
          by_cases hy : cpAt s m = 63
          · have HN0 : Hid (Calls Tryz.prog 72 #[.pointer (some ⟨R, 0, none⟩), .int .i32 42] wr fun e w' => e = .returned (.bool false) ∧ wr.grownBy w' (some R) ∧ St W0 w' R s m o M) := take_no L HSr.out 42 hn42
            go_wp2_with fail
            refine HN0.out.mono ?_
            rintro e w2 ⟨rfl, q0, hS0⟩
            have hg2 := Lib.grownBy_trans hgr q0
            have HT2 : Hid (Tree (fun b => w.heap.size ≤ b) w2 (.pointer (some ⟨b, 0, none⟩)) t) := HT.out.grown q0 hnR
            have HS2 : Hid (St W0 w2 R s m o M) := hS0
            clear hS0 q0 HN0
            have HN1 : Hid (Calls Tryz.prog 72 #[.pointer (some ⟨R, 0, none⟩), .int .i32 43] w2 fun e w' => e = .returned (.bool false) ∧ w2.grownBy w' (some R) ∧ St W0 w' R s m o M) := take_no L HS2.out 43 hn43
            go_wp2_with fail
            refine HN1.out.mono ?_
            rintro e w3 ⟨rfl, q1, hS1⟩
            have hg3 := Lib.grownBy_trans hg2 q1
            have HT3 : Hid (Tree (fun b => w.heap.size ≤ b) w3 (.pointer (some ⟨b, 0, none⟩)) t) := HT2.out.grown q1 hnR
            have HS3 : Hid (St W0 w3 R s m o M) := hS1
            clear hS1 q1 HN1
            have HF2 : Hid (partS s f' (repRe 0 1 t) (m + 1) = res) := by show _ = _; rw [← HF.out, partS_eq, if_neg hn42, if_neg hn43, if_pos hy]
            obtain ⟨hml1, hmz⟩ := cp_eq_size hy (by omega) (by omega)
            have HY := take_yes L HS3.out 63 hy
            rw [hmz] at HY
            have HY2 : Hid (Calls Tryz.prog 72 #[.pointer (some ⟨R, 0, none⟩), .int .i32 63] w3 fun e w' => e = .returned (.bool true) ∧ w3.grownBy w' (some R) ∧ St W0 w' R s (m + 1) o M) := HY
            clear HY hmz hy
            go_wp2_with fail
            refine HY2.out.mono ?_
            rintro e w4 ⟨rfl, q2, hS2⟩
            have hg4 := Lib.grownBy_trans hg3 q2
            have HT4 : Hid (Tree (fun b => w.heap.size ≤ b) w4 (.pointer (some ⟨b, 0, none⟩)) t) := HT3.out.grown q2 hnR
            have HS4 : Hid (St W0 w4 R s (m + 1) o M) := hS2
            clear hS2 q2 HY2
            have hsz := hg4.size
            go_wp2
            go_roundw
            case rel =>
              have hgz := Lib.grownBy_allocR (Lib.grownBy_allocR hg4 (.cells #[.pointer (some ⟨b, 0, none⟩)] 22)) (.cells #[.int .i64 6, .slice none 0 0, .int .i64 0, .int .i64 1, .slice (some ⟨w4.heap.size, 0, none⟩) 1 1] 48)
              exact ⟨f', repRe 0 1 t, m + 1, w4.heap.size + 1, HF2.out, by omega, hgz, (HS4.out.alloc _).alloc _, by simp, tree_one HT4.out (hsz) 6 0 1⟩
            case measure =>
              rw [placeOf_at ((HS4.out.alloc _).alloc _).at_, placeOf_at HSr.out.at_]
              omega
          · have hn63 := hy
            clear hy
            by_cases hy : cpAt s m = 123
            · have HN0 : Hid (Calls Tryz.prog 72 #[.pointer (some ⟨R, 0, none⟩), .int .i32 42] wr fun e w' => e = .returned (.bool false) ∧ wr.grownBy w' (some R) ∧ St W0 w' R s m o M) := take_no L HSr.out 42 hn42
              go_wp2_with fail
              refine HN0.out.mono ?_
              rintro e w2 ⟨rfl, q0, hS0⟩
              have hg2 := Lib.grownBy_trans hgr q0
              have HT2 : Hid (Tree (fun b => w.heap.size ≤ b) w2 (.pointer (some ⟨b, 0, none⟩)) t) := HT.out.grown q0 hnR
              have HS2 : Hid (St W0 w2 R s m o M) := hS0
              clear hS0 q0 HN0
              have HN1 : Hid (Calls Tryz.prog 72 #[.pointer (some ⟨R, 0, none⟩), .int .i32 43] w2 fun e w' => e = .returned (.bool false) ∧ w2.grownBy w' (some R) ∧ St W0 w' R s m o M) := take_no L HS2.out 43 hn43
              go_wp2_with fail
              refine HN1.out.mono ?_
              rintro e w3 ⟨rfl, q1, hS1⟩
              have hg3 := Lib.grownBy_trans hg2 q1
              have HT3 : Hid (Tree (fun b => w.heap.size ≤ b) w3 (.pointer (some ⟨b, 0, none⟩)) t) := HT2.out.grown q1 hnR
              have HS3 : Hid (St W0 w3 R s m o M) := hS1
              clear hS1 q1 HN1
              have HN2 : Hid (Calls Tryz.prog 72 #[.pointer (some ⟨R, 0, none⟩), .int .i32 63] w3 fun e w' => e = .returned (.bool false) ∧ w3.grownBy w' (some R) ∧ St W0 w' R s m o M) := take_no L HS3.out 63 hn63
              go_wp2_with fail
              refine HN2.out.mono ?_
              rintro e w4 ⟨rfl, q2, hS2⟩
              have hg4 := Lib.grownBy_trans hg3 q2
              have HT4 : Hid (Tree (fun b => w.heap.size ≤ b) w4 (.pointer (some ⟨b, 0, none⟩)) t) := HT3.out.grown q2 hnR
              have HS4 : Hid (St W0 w4 R s m o M) := hS2
              clear hS2 q2 HN2
              have HF2 : Hid (res = match timesS s (m + 1) with
                  | none => none
                  | some ((a, b), j) => partS s f' (repRe a b t) j) := by show _ = _; rw [← HF.out, partS_eq, if_neg hn42, if_neg hn43, if_neg hn63, if_pos hy]
              obtain ⟨hml1, hmz⟩ := cp_eq_size hy (by omega) (by omega)
              have HY := take_yes L HS4.out 123 hy
              rw [hmz] at HY
              have HY2 : Hid (Calls Tryz.prog 72 #[.pointer (some ⟨R, 0, none⟩), .int .i32 123] w4 fun e w' => e = .returned (.bool true) ∧ w4.grownBy w' (some R) ∧ St W0 w' R s (m + 1) o M) := HY
              clear HY hmz hy
              go_wp2_with fail
              refine HY2.out.mono ?_
              rintro e w5 ⟨rfl, q3, hS3⟩
              have hg5 := Lib.grownBy_trans hg4 q3
              have HT5 : Hid (Tree (fun b => w.heap.size ≤ b) w5 (.pointer (some ⟨b, 0, none⟩)) t) := HT4.out.grown q3 hnR
              have HS5 : Hid (St W0 w5 R s (m + 1) o M) := hS3
              clear hS3 q3 HY2
              go_wp2_with fail
              refine (times_any L HS5.out).mono ?_
              intro e w7 hG
              obtain ⟨q7, ⟨hx, ff, rfl⟩ | ⟨⟨⟨x1, x2⟩, k⟩, v, hx, rfl, hv, hS7⟩⟩ := hG.both
              · exact ⟨rfl, Got.bad (by rw [HF2.out, hx]) (Lib.grownBy_trans hg5 q7) ⟨ff, rfl⟩⟩
              · have hv' : v = .tuple #[.int .i64 x1, .int .i64 x2] := hv
                subst hv'
                have hk := timesS_some hml1 hx
                have hg7 := Lib.grownBy_trans hg5 q7
                have HT7 : Hid (Tree (fun b => w.heap.size ≤ b) w7 (.pointer (some ⟨b, 0, none⟩)) t) := HT5.out.grown q7 hnR
                have HS7 : Hid (St W0 w7 R s k o M) := hS7
                have HF3 : Hid (partS s f' (repRe x1 x2 t) k = res) := by show _ = _; rw [HF2.out, hx]
                clear hG hx hv hS7 q7 HF2
                have hsz := hg7.size
                go_wp2
                go_roundw
                case rel =>
                  have hgz := Lib.grownBy_allocR (Lib.grownBy_allocR hg7 (.cells #[.pointer (some ⟨b, 0, none⟩)] 22)) (.cells #[.int .i64 6, .slice none 0 0, .int .i64 x1, .int .i64 x2, .slice (some ⟨w7.heap.size, 0, none⟩) 1 1] 48)
                  exact ⟨f', repRe x1 x2 t, k, w7.heap.size + 1, HF3.out, by omega, hgz, (HS7.out.alloc _).alloc _, by simp, tree_one HT7.out (hsz) 6 x1 x2⟩
                case measure =>
                  rw [placeOf_at ((HS7.out.alloc _).alloc _).at_, placeOf_at HSr.out.at_]
                  omega
            · have hn123 := hy
              clear hy
              have HF2 : Hid (res = some (t, m)) := by show _ = _; rw [← HF.out, partS_eq, if_neg hn42, if_neg hn43, if_neg hn63, if_neg hn123]
              have HN0 : Hid (Calls Tryz.prog 72 #[.pointer (some ⟨R, 0, none⟩), .int .i32 42] wr fun e w' => e = .returned (.bool false) ∧ wr.grownBy w' (some R) ∧ St W0 w' R s m o M) := take_no L HSr.out 42 hn42
              go_wp2_with fail
              refine HN0.out.mono ?_
              rintro e w2 ⟨rfl, q0, hS0⟩
              have hg2 := Lib.grownBy_trans hgr q0
              have HT2 : Hid (Tree (fun b => w.heap.size ≤ b) w2 (.pointer (some ⟨b, 0, none⟩)) t) := HT.out.grown q0 hnR
              have HS2 : Hid (St W0 w2 R s m o M) := hS0
              clear hS0 q0 HN0
              have HN1 : Hid (Calls Tryz.prog 72 #[.pointer (some ⟨R, 0, none⟩), .int .i32 43] w2 fun e w' => e = .returned (.bool false) ∧ w2.grownBy w' (some R) ∧ St W0 w' R s m o M) := take_no L HS2.out 43 hn43
              go_wp2_with fail
              refine HN1.out.mono ?_
              rintro e w3 ⟨rfl, q1, hS1⟩
              have hg3 := Lib.grownBy_trans hg2 q1
              have HT3 : Hid (Tree (fun b => w.heap.size ≤ b) w3 (.pointer (some ⟨b, 0, none⟩)) t) := HT2.out.grown q1 hnR
              have HS3 : Hid (St W0 w3 R s m o M) := hS1
              clear hS1 q1 HN1
              have HN2 : Hid (Calls Tryz.prog 72 #[.pointer (some ⟨R, 0, none⟩), .int .i32 63] w3 fun e w' => e = .returned (.bool false) ∧ w3.grownBy w' (some R) ∧ St W0 w' R s m o M) := take_no L HS3.out 63 hn63
              go_wp2_with fail
              refine HN2.out.mono ?_
              rintro e w4 ⟨rfl, q2, hS2⟩
              have hg4 := Lib.grownBy_trans hg3 q2
              have HT4 : Hid (Tree (fun b => w.heap.size ≤ b) w4 (.pointer (some ⟨b, 0, none⟩)) t) := HT3.out.grown q2 hnR
              have HS4 : Hid (St W0 w4 R s m o M) := hS2
              clear hS2 q2 HN2
              have HN3 : Hid (Calls Tryz.prog 72 #[.pointer (some ⟨R, 0, none⟩), .int .i32 123] w4 fun e w' => e = .returned (.bool false) ∧ w4.grownBy w' (some R) ∧ St W0 w' R s m o M) := take_no L HS4.out 123 hn123
              go_wp2_with fail
              refine HN3.out.mono ?_
              rintro e w5 ⟨rfl, q3, hS3⟩
              have hg5 := Lib.grownBy_trans hg4 q3
              have HT5 : Hid (Tree (fun b => w.heap.size ≤ b) w5 (.pointer (some ⟨b, 0, none⟩)) t) := HT4.out.grown q3 hnR
              have HS5 : Hid (St W0 w5 R s m o M) := hS3
              clear hS3 q3 HN3
              go_wp2
              go_ret
              exact Got.ok (Val := TreeV w.heap.size) HF2.out hg5 HT5.out HS5.out

end Go.Proofs.YtbjohedenfindaaGreatDoor

namespace Go.Proofs.YtbjohedenfindaaGreatDoor
open Go.RowKit
set_option linter.unusedVariables false
set_option maxRecDepth 100000

theorem Tryz.infoPRe : (Tryz.prog.info? 22).map (fun i => (i.zero, i.size, i.bytes)) = some (some (.pointer none), 1, 8) := by kernel_rfl

theorem ptrs_nil (w : World) (B : Nat) : PtrsOwn w B (.slice none 0 0) [] := ⟨[], rfl, World.ownsRow_nil _ _ _ _, fun j hj => by simp at hj⟩
theorem ptrs_first {w : World} {B : Nat} {p : Value} {t : Re} (hB : B ≤ w.heap.size) (hp : Tree (fun b => B ≤ b) w p t) : PtrsOwn (w.alloc (.cells #[p] 22)) B (.slice (some ⟨w.heap.size, 0, none⟩) 1 1) [t] := by
  refine ⟨[p], rfl, World.ownsRow_lit w #[p] 1 hB (by unfold maxLen; omega) rfl, fun j hj => ?_⟩
  have hj0 : j = 0 := by simpa using hj
  subst hj0
  refine ⟨t, rfl, hp.moved (by simp) fun b hb hok => ⟨⟨hok, ?_⟩, Below.heap_alloc w _ b hb⟩⟩
  simp [Value.ownBlock]; omega

theorem rowS_eq (s : ByteArray) (u : Nat → Option (Re × Nat)) (f : Nat) (acc : List Re) (i : Nat) : rowS s u (f + 1) acc i =
    if rowEndS (cpAt s i) then some (acc, i)
    else match (u i).bind fun x => partS s (s.size + 1) x.1 x.2 with
      | none => none
      | some (p, j) => rowS s u f (acc ++ [p]) j := rfl
theorem sevS_eq (s : ByteArray) (c : Int) (r : Nat → Option (Re × Nat)) (f : Nat) (acc : List Re) (i : Nat) : sevS s c r (f + 1) acc i =
    if cpAt s i = c then
      match r (i + 1) with
      | none => none
      | some (p, j) => sevS s c r f (acc ++ [p]) j
    else some (acc, i) := rfl

set_option maxHeartbeats 4000000 in
theorem row_any {W0 w : World} (L : LibC W0) {R i o M : Nat} {s : ByteArray} {u : Nat → Option (Re × Nat)} (hU : UnitC W0 s o M R u) (hu : Goes s u) (h : St W0 w R s i o M) :
    Calls Tryz.prog 104 #[.pointer (some ⟨R, 0, none⟩)] w (Got W0 w R s o M (rowReS s u i) (TreeV w.heap.size)) := by
  obtain ⟨i0, hi0, hz0, hz1, hz2⟩ := info_parts Tryz.infoPRe
  have HS : Hid (St W0 w R s i o M) := h
  have hRw := h.at_.lt
  have hsz := h.text
  have hnR : ∀ b, w.heap.size ≤ b → some b ≠ some R := fun b hb e => by cases e; omega
  have HP : Hid (∀ w i, St W0 w R s i o M → Calls Tryz.prog 125 #[.pointer (some ⟨R, 0, none⟩)] w (Got W0 w R s o M ((u i).bind fun x => partS s (s.size + 1) x.1 x.2) (TreeV w.heap.size))) := fun w i h => part_any L hU hu h
  have HG : Hid (∀ i t j, i ≤ s.size → ((u i).bind fun x => partS s (s.size + 1) x.1 x.2) = some (t, j) → i < j ∧ j ≤ s.size) := fun i t j hi hx => by
    cases hui : u i with
    | none => rw [hui] at hx; simp at hx
    | some x =>
      obtain ⟨q, m⟩ := x
      rw [hui] at hx
      simp at hx
      have h1 := hu i q m hi hui
      have h2 := partS_some _ (by omega) hx
      omega
  generalize hres : rowS s u (s.size + 1) [] i = res
  have hgoal : rowReS s u i = res.map fun x => (gatherS 2 x.1, x.2) := by unfold rowReS; rw [hres]
  rw [hgoal]
  have HRes : Hid (rowS s u (s.size + 1) [] i = res) := hres
  clear h hU hu hres hgoal
  go_enter Tryz.func104, Tryz.ntmps104
  go_wp2_with fail
  go_loopw [3] (fun v wr => ∃ (f : Nat) (acc : List Re) (m : Nat), rowS s u f acc m = res ∧ s.size < m + f ∧ acc.length ≤ m ∧ w.grownBy wr (some R) ∧ St W0 wr R s m o M ∧ PtrsOwn wr w.heap.size v acc) (fun _ wr => s.size + 1 - placeOf wr R)
  case atStart => exact ⟨s.size + 1, [], i, HRes.out, by omega, by simp, World.grownBy.refl _ _, HS.out, ptrs_nil _ _⟩
  case round =>
    obtain ⟨f, acc, m, hf, hfm, hacc, hgr, hSr, hown⟩ := hrel
    have hml := hSr.inn
    have HSr : Hid (St W0 wr R s m o M) := hSr
    have HO : Hid (PtrsOwn wr w.heap.size u3 acc) := hown
    obtain ⟨f', rfl⟩ : ∃ f', f = f' + 1 := ⟨f - 1, by omega⟩
    have HF : Hid (rowS s u (f' + 1) acc m = res) := hf
    have HE : Hid (Calls Tryz.prog 124 #[.pointer (some ⟨R, 0, none⟩)] wr fun e w' => e = .returned (.bool (rowEndS (cpAt s m))) ∧ wr.grownBy w' (some R) ∧ St W0 w' R s m o M) := rowEnds_any L hSr
    obtain ⟨a3, c3, rfl⟩ := ptrs_slice hown
    clear hSr hown hf
    cases hend : rowEndS (cpAt s m) with
    | true =>
      have HR2 : Hid (res = some (acc, m)) := by show _ = _; rw [← HF.out, rowS_eq, hend]; rfl
      rw [hend] at HE
      clear hend
      go_wp2_with fail
      refine HE.out.mono ?_
      rintro e w2 ⟨rfl, hg2, hS2⟩
      have hO2 := HO.out.grown (row := some R) (fun k hk => by cases hk; exact hRw) hg2
      have hgr2 := Lib.grownBy_trans hgr hg2
      go_wp2_with fail
      refine (gather_any 2 _ acc _ hgr2.size hO2).mono ?_
      rintro e w3 ⟨u3, rfl, hT3, hg3⟩
      obtain ⟨b3, rfl, _⟩ := hT3.ptr
      have hgr3 := Lib.grownBy_trans hgr2 (hg3 _)
      have HS3 : Hid (St W0 w3 R s m o M) := hS2.step (hg3 _) hml (hS2.at_.kept (hg3 none))
      have HT3 : Hid (Tree (fun b => w.heap.size ≤ b) w3 (.pointer (some ⟨b3, 0, none⟩)) (gatherS 2 acc)) := hT3
      clear hO2 hS2 hT3
      go_wp2
      go_ret
      exact Got.ok (x := (gatherS 2 acc, m)) (Val := TreeV w.heap.size) (by rw [HR2.out]; rfl) hgr3 HT3.out HS3.out
    | false =>
      have HR2 : Hid (res = match (u m).bind fun x => partS s (s.size + 1) x.1 x.2 with
        | none => none
        | some (p, j) => rowS s u f' (acc ++ [p]) j) := by show _ = _; rw [← HF.out, rowS_eq, hend]; rfl
      rw [hend] at HE
      clear hend
      go_wp2_with fail
      refine HE.out.mono ?_
      rintro e w2 ⟨rfl, hg2, hS2⟩
      have hgr2 := Lib.grownBy_trans hgr hg2
      have HO2 : Hid (PtrsOwn w2 w.heap.size (.slice a3 acc.length c3) acc) := HO.out.grown (row := some R) (fun k hk => by cases hk; exact hRw) hg2
      have HS2 : Hid (St W0 w2 R s m o M) := hS2
      clear hS2
      go_wp2_with fail
      refine (HP.out w2 m HS2.out).mono ?_
      intro e w3 hG
      obtain ⟨hg3, ⟨hx, ff, rfl⟩ | ⟨⟨t, k⟩, v, hx, rfl, hv, hS3⟩⟩ := hG.both
      · exact ⟨rfl, Got.bad (by rw [HR2.out, hx]; rfl) (Lib.grownBy_trans hgr2 hg3) ⟨ff, rfl⟩⟩
      · have hk := HG.out m t k hml hx
        have hO3 := HO2.out.grown (row := some R) (fun k hk => by cases hk; exact hRw) hg3
        have hgr3 := Lib.grownBy_trans hgr2 hg3
        have HR3 : Hid (rowS s u f' (acc ++ [t]) k = res) := by show _ = _; rw [HR2.out, hx]
        have hsz3 := hgr3.size
        have hR3 := hS3.at_
        have hv' : Tree (fun b => w2.heap.size ≤ b) w3 v t := hv
        obtain ⟨vs, hl, hown, hall⟩ := hO3
        have hlt2 : ∀ q, (Value.slice a3 acc.length c3).ownBlock = some q → w.heap.size ≤ q ∧ q < w2.heap.size := fun q hq => by
          obtain ⟨vs2, _, hown2, _⟩ := HO2.out
          exact hown2.lt q hq
        have hT3 : Tree (fun b => w.heap.size ≤ b ∧ (Value.slice a3 acc.length c3).ownBlock ≠ some b) w3 v t := hv'.imp fun b _ hb => ⟨by have := hgr2.size; omega, fun e => by have := (hlt2 b e).2; omega⟩
        obtain ⟨b3, rfl, _⟩ := hv'.ptr
        have HT3 : Hid (Tree (fun b => w.heap.size ≤ b ∧ (Value.slice a3 acc.length c3).ownBlock ≠ some b) w3 (.pointer (some ⟨b3, 0, none⟩)) t) := hT3
        have HAll : Hid (∀ j, j < acc.length → ∃ t, acc[j]? = some t ∧ Tree (fun b => w.heap.size ≤ b ∧ (Value.slice a3 acc.length c3).ownBlock ≠ some b) w3 (vs.getD j .nilFunc) t) := hall
        have HL : Hid (vs.length = acc.length) := hl
        have hvs : vs.length ≤ 1000000 := by omega
        clear hG hx HR2 hv hS3 hv' hT3 hall hl
        go_wp2_with (at_builtin; refine wpList_append_own_at _ rfl _ _ 46 rfl w.heap.size 22 i0 (.pointer none) 1 8 Tryz.underlying46 hi0 hz0 hz1 hz2 rfl (by decide) _ _ _ rfl (World.ownsRow.alloc hown _) ⟨w3.heap.size, 0, none⟩ 1 1 [.pointer (some ⟨b3, 0, none⟩)] rfl rfl ?c1 ?c2 ?c3 ?c4 ?c5 ?_)
        case c1 => exact cell_one_new w3 _ _
        case c2 => intro u hu; simp at hu; subst hu; rfl
        case c3 => unfold maxLen; omega
        case c4 => omega
        case c5 => simp; omega
        · intro v' w4 hown' hgrow _ hat
          have hgz : w.grownBy w4 (some R) := grownBy_own (Lib.grownBy_allocR hgr3 _) hgrow (fun q hq => (hlt2 q hq).1)
          have hR4 : RdAt w4 R s k o M := (hgrow.block R (by simp; have := hR3.lt; omega) (fun e => by have := (hlt2 R e.symm).1; omega)).trans (hR3.alloc _)
          have HPO : Hid (PtrsOwn w4 w.heap.size v' (acc ++ [t])) := PtrsOwn.snoc HL.out HAll.out HT3.out hown' hgrow (by simpa using hat)
          clear hown' hgrow hat
          go_wp2
          go_roundw
          case rel => exact ⟨f', acc ++ [t], k, HR3.out, by omega, by simp; omega, hgz, HS.out.step hgz hk.2 hR4, HPO.out⟩
          case measure =>
            rw [placeOf_at hR4, placeOf_at HSr.out.at_]
            omega

set_option maxHeartbeats 4000000 in
/-- several of one kind, with a sign between each two: g is the function that reads one -/
theorem several_any {W0 w : World} (L : LibC W0) {R i o M : Nat} {s : ByteArray} (kind c : Int) (hc : 0 ≤ c ∧ c < 128) (g : Nat) (henter : ∀ args w, (callFunc g args).run Tryz.prog w = .ok (.enter g args) w) {r : Nat → Option (Re × Nat)} (hr : Stays s r)
    (hread : ∀ w i, St W0 w R s i o M → Calls Tryz.prog g #[.pointer (some ⟨R, 0, none⟩)] w (Got W0 w R s o M (r i) (TreeV w.heap.size))) (h : St W0 w R s i o M) :
    Calls Tryz.prog 70 #[.pointer (some ⟨R, 0, none⟩), .int .i64 kind, .int .i32 c, .func (.func g) #[.pointer (some ⟨R, 0, none⟩)] #[]] w (Got W0 w R s o M (severalS s kind c r i) (TreeV w.heap.size)) := by
  obtain ⟨i0, hi0, hz0, hz1, hz2⟩ := info_parts Tryz.infoPRe
  have HS : Hid (St W0 w R s i o M) := h
  have hRw := h.at_.lt
  have hsz := h.text
  have hi := h.inn
  have HRd : Hid (∀ w i, St W0 w R s i o M → Calls Tryz.prog g #[.pointer (some ⟨R, 0, none⟩)] w (Got W0 w R s o M (r i) (TreeV w.heap.size))) := hread
  have HG : Hid (Stays s r) := hr
  generalize hres : severalS s kind c r i = res
  have HRes : Hid (res = match r i with
    | none => none
    | some (p, j) => (sevS s c r (s.size + 1) [p] j).map fun x => (gatherS kind x.1, x.2)) := by show _ = _; rw [← hres]; rfl
  clear h hread hr hres
  go_enter Tryz.func70, Tryz.ntmps70
  go_wp2_with fail
  refine (HRd.out w i HS.out).mono ?_
  intro e w1 hG
  obtain ⟨hg1, ⟨hx, f, rfl⟩ | ⟨⟨t1, j⟩, v, hx, rfl, hv, hS1⟩⟩ := hG.both
  · exact ⟨rfl, Got.bad (by rw [HRes.out, hx]) hg1 ⟨f, rfl⟩⟩
  · have hj := HG.out i t1 j hi hx
    generalize hsev : sevS s c r (s.size + 1) [t1] j = sv
    have HRe : Hid (res = sv.map fun x => (gatherS kind x.1, x.2)) := by show _ = _; rw [HRes.out, hx]; simp [hsev]
    have HSev : Hid (sevS s c r (s.size + 1) [t1] j = sv) := hsev
    have hv' : Tree (fun b => w.heap.size ≤ b) w1 v t1 := hv
    obtain ⟨b1, rfl, _⟩ := hv'.ptr
    have HT1 : Hid (Tree (fun b => w.heap.size ≤ b) w1 (.pointer (some ⟨b1, 0, none⟩)) t1) := hv'
    have HS1 : Hid (St W0 w1 R s j o M) := hS1
    have hs1 := hg1.size
    clear hx hG hS1 hv hv' hsev HRes
    go_wp2_with fail
    go_loopw [9] (fun v wr => ∃ (f : Nat) (acc : List Re) (m : Nat), sevS s c r f acc m = sv ∧ s.size < m + f ∧ acc.length ≤ m + 1 ∧ w.grownBy wr (some R) ∧ St W0 wr R s m o M ∧ PtrsOwn wr w.heap.size v acc) (fun _ wr => s.size + 1 - placeOf wr R)
    case atStart => exact ⟨s.size + 1, [t1], j, HSev.out, by omega, by simp, Lib.grownBy_allocR hg1 _, HS1.out.alloc _, ptrs_first hs1 HT1.out⟩
    case round =>
      obtain ⟨f, acc, m, hf, hfm, hacc, hgr, hSr, hown⟩ := hrel
      have hml := hSr.inn
      have HSr : Hid (St W0 wr R s m o M) := hSr
      have HO : Hid (PtrsOwn wr w.heap.size u9 acc) := hown
      obtain ⟨f', rfl⟩ : ∃ f', f = f' + 1 := ⟨f - 1, by omega⟩
      have HF : Hid (sevS s c r (f' + 1) acc m = sv) := hf
      obtain ⟨a3, c3, rfl⟩ := ptrs_slice hown
      clear hSr hown hf HSev HT1 HS1
      by_cases hcs : cpAt s m = c
      · obtain ⟨hml1, hmz⟩ := cp_eq_size hcs hc.1 hc.2
        have HY := take_yes L HSr.out c hcs
        rw [hmz] at HY
        have HY2 : Hid (Calls Tryz.prog 72 #[.pointer (some ⟨R, 0, none⟩), .int .i32 c] wr fun e w' => e = .returned (.bool true) ∧ wr.grownBy w' (some R) ∧ St W0 w' R s (m + 1) o M) := HY
        have HR2 : Hid (sv = match r (m + 1) with
          | none => none
          | some (p, j) => sevS s c r f' (acc ++ [p]) j) := by show _ = _; rw [← HF.out, sevS_eq, if_pos hcs]
        clear HY hmz hcs
        go_wp2_with fail
        refine HY2.out.mono ?_
        rintro e w2 ⟨rfl, hg2, hS2⟩
        have hgr2 := Lib.grownBy_trans hgr hg2
        have HO2 : Hid (PtrsOwn w2 w.heap.size (.slice a3 acc.length c3) acc) := HO.out.grown (row := some R) (fun k hk => by cases hk; exact hRw) hg2
        have HS2 : Hid (St W0 w2 R s (m + 1) o M) := hS2
        clear hS2
        go_wp2_with fail
        refine (HRd.out w2 (m + 1) HS2.out).mono ?_
        intro e w3 hG
        obtain ⟨hg3, ⟨hx, ff, rfl⟩ | ⟨⟨t, k⟩, v, hx, rfl, hv, hS3⟩⟩ := hG.both
        · exact ⟨rfl, Got.bad (by rw [HRe.out, HR2.out, hx]; rfl) (Lib.grownBy_trans hgr2 hg3) ⟨ff, rfl⟩⟩
        · have hk := HG.out (m + 1) t k hml1 hx
          have hO3 := HO2.out.grown (row := some R) (fun k hk => by cases hk; exact hRw) hg3
          have hgr3 := Lib.grownBy_trans hgr2 hg3
          have HR3 : Hid (sevS s c r f' (acc ++ [t]) k = sv) := by show _ = _; rw [HR2.out, hx]
          have hsz3 := hgr3.size
          have hR3 := hS3.at_
          have hv' : Tree (fun b => w2.heap.size ≤ b) w3 v t := hv
          obtain ⟨vs, hl, hown, hall⟩ := hO3
          have hlt2 : ∀ q, (Value.slice a3 acc.length c3).ownBlock = some q → w.heap.size ≤ q ∧ q < w2.heap.size := fun q hq => by
            obtain ⟨vs2, _, hown2, _⟩ := HO2.out
            exact hown2.lt q hq
          have hT3 : Tree (fun b => w.heap.size ≤ b ∧ (Value.slice a3 acc.length c3).ownBlock ≠ some b) w3 v t := hv'.imp fun b _ hb => ⟨by have := hgr2.size; omega, fun e => by have := (hlt2 b e).2; omega⟩
          obtain ⟨b3, rfl, _⟩ := hv'.ptr
          have HT3 : Hid (Tree (fun b => w.heap.size ≤ b ∧ (Value.slice a3 acc.length c3).ownBlock ≠ some b) w3 (.pointer (some ⟨b3, 0, none⟩)) t) := hT3
          have HAll : Hid (∀ j, j < acc.length → ∃ t, acc[j]? = some t ∧ Tree (fun b => w.heap.size ≤ b ∧ (Value.slice a3 acc.length c3).ownBlock ≠ some b) w3 (vs.getD j .nilFunc) t) := hall
          have HL : Hid (vs.length = acc.length) := hl
          have hvs : vs.length ≤ 1000001 := by omega
          clear hG hx HR2 hv hS3 hv' hT3 hall hl
          go_wp2_with (at_builtin; refine wpList_append_own_at _ rfl _ _ 46 rfl w.heap.size 22 i0 (.pointer none) 1 8 Tryz.underlying46 hi0 hz0 hz1 hz2 rfl (by decide) _ _ _ rfl (World.ownsRow.alloc hown _) ⟨w3.heap.size, 0, none⟩ 1 1 [.pointer (some ⟨b3, 0, none⟩)] rfl rfl ?c1 ?c2 ?c3 ?c4 ?c5 ?_)
          case c1 => exact cell_one_new w3 _ _
          case c2 => intro u hu; simp at hu; subst hu; rfl
          case c3 => unfold maxLen; omega
          case c4 => omega
          case c5 => simp; omega
          · intro v' w4 hown' hgrow _ hat
            have hgz : w.grownBy w4 (some R) := grownBy_own (Lib.grownBy_allocR hgr3 _) hgrow (fun q hq => (hlt2 q hq).1)
            have hR4 : RdAt w4 R s k o M := (hgrow.block R (by simp; have := hR3.lt; omega) (fun e => by have := (hlt2 R e.symm).1; omega)).trans (hR3.alloc _)
            have HPO : Hid (PtrsOwn w4 w.heap.size v' (acc ++ [t])) := PtrsOwn.snoc HL.out HAll.out HT3.out hown' hgrow (by simpa using hat)
            clear hown' hgrow hat
            go_wp2
            go_roundw
            case rel => exact ⟨f', acc ++ [t], k, HR3.out, by omega, by simp; omega, hgz, HS.out.step hgz hk.2 hR4, HPO.out⟩
            case measure =>
              rw [placeOf_at hR4, placeOf_at HSr.out.at_]
              omega
      · have HN : Hid (Calls Tryz.prog 72 #[.pointer (some ⟨R, 0, none⟩), .int .i32 c] wr fun e w' => e = .returned (.bool false) ∧ wr.grownBy w' (some R) ∧ St W0 w' R s m o M) := take_no L HSr.out c hcs
        have HR2 : Hid (sv = some (acc, m)) := by show _ = _; rw [← HF.out, sevS_eq, if_neg hcs]
        clear hcs
        go_wp2_with fail
        refine HN.out.mono ?_
        rintro e w2 ⟨rfl, hg2, hS2⟩
        have hO2 := HO.out.grown (row := some R) (fun k hk => by cases hk; exact hRw) hg2
        have hgr2 := Lib.grownBy_trans hgr hg2
        go_wp2_with fail
        refine (gather_any kind _ acc _ hgr2.size hO2).mono ?_
        rintro e w3 ⟨u3, rfl, hT3, hg3⟩
        obtain ⟨b3, rfl, _⟩ := hT3.ptr
        have hgr3 := Lib.grownBy_trans hgr2 (hg3 _)
        have HS3 : Hid (St W0 w3 R s m o M) := hS2.step (hg3 _) hml (hS2.at_.kept (hg3 none))
        have HT3 : Hid (Tree (fun b => w.heap.size ≤ b) w3 (.pointer (some ⟨b3, 0, none⟩)) (gatherS kind acc)) := hT3
        clear hO2 hS2 hT3
        go_wp2
        go_ret
        exact Got.ok (x := (gatherS kind acc, m)) (Val := TreeV w.heap.size) (by rw [HRe.out, HR2.out]; rfl) hgr3 HT3.out HS3.out

end Go.Proofs.YtbjohedenfindaaGreatDoor
